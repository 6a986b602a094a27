/-
  The reference's Closed (all ways, as lines) and Few (the lines that no way goes round).
-/
import Derived.Test.YtinglgnddmadaaaDoorRefOne
import Derived.Test.YtinglgnddmadaaaDoorCloseP
namespace Go.Proofs.YtinglgnddmadaaaDoor.RefC
open Go.RowKit
set_option linter.unusedSimpArgs false
set_option linter.unusedVariables false

/-- the lines ahead of (a, b) that a test takes -/
def lstTo (n : Nat) (r : Nat → Nat → Bool) (a b : Nat) : List Gr.Ln := (Gr.upTo n r a b).map fun p => ((p.1 : Int), (p.2 : Int))
theorem lstTo_zero (n : Nat) (r : Nat → Nat → Bool) : lstTo n r 0 0 = [] := by simp [lstTo, Gr.upTo]
theorem lstTo_hit {n : Nat} {r : Nat → Nat → Bool} {a b : Nat} (h : r a b = true) : lstTo n r a (b + 1) = lstTo n r a b ++ [((a : Int), (b : Int))] := by
  unfold lstTo
  rw [Gr.upTo_hit h, List.map_append]
  rfl
theorem lstTo_miss {n : Nat} {r : Nat → Nat → Bool} {a b : Nat} (h : r a b = false) : lstTo n r a (b + 1) = lstTo n r a b := by
  unfold lstTo
  rw [Gr.upTo_miss h]
theorem lstTo_row (n : Nat) (r : Nat → Nat → Bool) (a : Nat) : lstTo n r a n = lstTo n r (a + 1) 0 := by
  unfold lstTo
  rw [Gr.upTo_row]
theorem lstTo_end (n : Nat) (r : Nat → Nat → Bool) : lstTo n r n 0 = Cl.lst n r := by
  unfold lstTo Cl.lst
  rw [Gr.upTo_done]
theorem lstTo_len {n : Nat} {r : Nat → Nat → Bool} {a b : Nat} (h8 : n ≤ 8) (ha : a < n) (hb : b ≤ n) : (lstTo n r a b).length ≤ 64 := by
  have h := Gr.upTo_len (m := n) (r := r) a b
  have : a * n ≤ 7 * 8 := Nat.mul_le_mul (by omega) h8
  simp only [lstTo, List.length_map]
  omega

set_option maxRecDepth 100000 in
set_option maxHeartbeats 2000000 in
theorem Closed_any (m : Nat) (A : Option Addr) (n c : Nat) (ls : List Gr.Ln) (w : World) (hr : RdP w w.heap.size A n c ls) (hm1 : 1 ≤ m) (hm8 : m ≤ 8) :
    Calls Tryd.prog 9 #[.int .i64 (m : Int), .slice A n c] w fun e w' => ∃ A1 c1 N, e = .returned (.slice A1 N c1) ∧ RdP w' w'.heap.size A1 N c1 (Cl.clos m ls) ∧ Below w.heap.size w w' := by
  go_enter Tryd.func9, Tryd.ntmps9
  go_wp2_with fail
  refine (RefF.Far_one m A n c ls _ hr hm1 hm8).mono ?_
  rintro e w1 ⟨gb, cb, rfl, hrr, hb1⟩
  have hr1 := hr.past hb1
  obtain ⟨B, hB⟩ : ∃ B, B = w1.heap.size := ⟨_, rfl⟩
  have HB := Lib.hid hB
  have H0 : Below B w1 w1 := Below.refl _ _
  have hb1s := hb1.size
  have hO0 : OwnP w1 B 39 (.slice none 0 0) (lstTo m (To.comes m ls) 0 0) := by rw [lstTo_zero]; exact OwnP.nil _ _ _
  rw [← hB] at hb1s hr1 hrr
  clear hB
  go_wp2
  go_loopw [6, 7, 8, 9, 10] (fun v iv _ _ _ wr => ∃ a : Nat, a ≤ m ∧ iv = .int .i64 (a : Int) ∧ OwnP wr B 39 v (lstTo m (To.comes m ls) a 0) ∧ Below B w1 wr) (fun _ iv _ _ _ _ => m - (intOf iv).toNat)
  case atStart => exact ⟨0, Nat.zero_le _, rfl, hO0, H0⟩
  case round =>
    clear hO0 H0
    obtain ⟨a, ha, rfl, hown, hbel⟩ := hrel
    by_cases hlt : a < m
    · go_wp2
      go_loopw [6, 8, 9, 10] (fun v iv _ _ wr => ∃ b : Nat, b ≤ m ∧ iv = .int .i64 (b : Int) ∧ OwnP wr B 39 v (lstTo m (To.comes m ls) a b) ∧ Below B w1 wr) (fun _ iv _ _ _ => m - (intOf iv).toNat)
      case atStart => exact ⟨0, Nat.zero_le _, rfl, hown, hbel⟩
      case round =>
        clear hown hbel
        obtain ⟨b, hb, rfl, hown, hbel⟩ := hrel
        by_cases hlb : b < m
        · have hsz : B ≤ wr.heap.size := by have := hbel.size; rw [← HB.out] at this; exact this
          have hlen := lstTo_len (r := To.comes m ls) hm8 hlt hb
          have HL := Lib.hid hlen
          clear hlen
          have HO := Lib.hid hown
          clear hown
          have hrw := (hr1.below hbel).more hsz
          have hrrw := (hrr.below hbel).more hsz
          have HC0 : Hid (To.comesTo m ls a b 0 = false) := rfl
          go_wp2
          go_loopw [9, 10] (fun sv kv wk => ∃ (k : Nat) (s : Bool), k ≤ m ∧ kv = .int .i64 (k : Int) ∧ sv = .bool s ∧ Hid (To.comesTo m ls a b k = s) ∧ wr = wk) (fun _ kv _ => m - (intOf kv).toNat)
          case atStart => exact ⟨0, false, Nat.zero_le _, rfl, rfl, HC0, rfl⟩
          case round =>
            clear HC0
            obtain ⟨k, s, hk, rfl, rfl, HC, rfl⟩ := hrel
            by_cases hlk : k < m
            · cases s with
              | true =>
                have HN : Hid (To.comesTo m ls a b (k + 1) = true) := by show _ = _; rw [To.comesTo_succ, HC.out]; rfl
                go_wp2
                go_roundw
                case rel => exact ⟨k + 1, true, by omega, by go_num, rfl, HN, trivial⟩
                case measure => simp [intOf]; omega
              | false =>
                have k1 : (0 : Int) ≤ (k : Int) := by omega
                have k2 : (k : Int) < (m : Int) := by omega
                have b1 : (0 : Int) ≤ (b : Int) := by omega
                have b2 : (b : Int) < (m : Int) := by omega
                obtain ⟨s, hs⟩ : ∃ s, Gr.has ls (a : Int) (k : Int) = s := ⟨_, rfl⟩
                obtain ⟨d, hd⟩ : ∃ d, d = Wa.dist m (To.frow m ls) k b := ⟨_, rfl⟩
                have HN : Hid (To.comesTo m ls a b (k + 1) = (s && decide (0 ≤ d))) := by show _ = _; rw [To.comesTo_succ, HC.out, hs, hd]; simp
                have HS := Lib.hid hs
                clear hs
                cases s with
                | false =>
                  clear hd
                  go_wp2_with fail
                  refine (RefL.Goes_any A n c ls a k false _ hrw HS.out).mono ?_
                  rintro e w2 ⟨rfl, rfl⟩
                  go_wp2
                  go_roundw
                  case rel => exact ⟨k + 1, false, by omega, by go_num, rfl, HN, trivial⟩
                  case measure => simp [intOf]; omega
                | true =>
                  obtain ⟨g, o, cc, g1, g2⟩ := RefF.far_cell hrrw hlk hlb
                  rw [← hd] at g2
                  clear hd
                  obtain ⟨t, ht⟩ : ∃ t, decide (0 ≤ d) = t := ⟨_, rfl⟩
                  rw [ht] at HN
                  go_wp2_with fail
                  refine (RefL.Goes_any A n c ls a k true _ hrw HS.out).mono ?_
                  rintro e w2 ⟨rfl, rfl⟩
                  cases t with
                  | true =>
                    go_wp2
                    go_roundw
                    case rel => exact ⟨k + 1, true, by omega, by go_num, rfl, HN, trivial⟩
                    case measure => simp [intOf]; omega
                  | false =>
                    go_wp2
                    go_roundw
                    case rel => exact ⟨k + 1, false, by omega, by go_num, rfl, HN, trivial⟩
                    case measure => simp [intOf]; omega
            · obtain rfl : k = m := by omega
              cases s with
              | true =>
                have HN : Hid (lstTo k (To.comes k ls) a (b + 1) = lstTo k (To.comes k ls) a b ++ [((a : Int), (b : Int))]) := lstTo_hit HC.out
                go_wp2_with (first
                  | (refine wpList_appP _ rfl (.tmp 47) (.tmp 51) 22 rfl B 39 Tryd.underlying22 lineInfo _ _ rfl (HO.out.below ((Below.refl _ _).alloc (Nat.le_refl _) _)) _ 1 1 _ rfl (RdP.one wr ((a : Int), (b : Int)) _) (by have := HL.out; omega) (by simp; omega) ?_; intro v2 y2 hown2 hg2 _; have hbe2 : Below B w1 y2 := below_appP (hbel.alloc hsz _) (HO.out.below ((Below.refl _ _).alloc (Nat.le_refl _) (.cells #[.int .i64 (a : Int), .int .i64 (b : Int)] 39))) hg2 (by simp; omega)))
                rw [← HN.out] at hown2
                go_roundw
                case rel => exact ⟨b + 1, by omega, by go_num, hown2, hbe2⟩
                case measure => simp [intOf]; omega
              | false =>
                have HN : Hid (lstTo k (To.comes k ls) a (b + 1) = lstTo k (To.comes k ls) a b) := lstTo_miss HC.out
                have hown2 := HO.out
                rw [← HN.out] at hown2
                go_wp2
                go_roundw
                case rel => exact ⟨b + 1, by omega, by go_num, hown2, hbel⟩
                case measure => simp [intOf]; omega
        · obtain rfl : b = m := by omega
          rw [lstTo_row] at hown
          go_wp2
          go_roundw
          case rel => exact ⟨a + 1, by omega, by go_num, hown, hbel⟩
          case measure => simp [intOf]; omega
    · obtain rfl : a = m := by omega
      rw [lstTo_end] at hown
      obtain ⟨A1, c1, rfl, hrd⟩ := hown.rd
      generalize (Cl.lst a (To.comes a ls)).length = N at hrd hown ⊢
      have hrd' : RdP wr wr.heap.size A1 N c1 (Cl.clos a ls) := hrd
      go_wp2
      go_ret
      exact ⟨_, _, _, rfl, hrd', hb1.trans (hbel.mono hb1s)⟩

/-- no way by one of the points below k -/
def tho (n : Nat) (ls : List Gr.Ln) (a b k : Nat) : Bool := (List.range k).all fun c => !(To.comes n ls a c && To.comes n ls c b)
theorem tho_succ (n : Nat) (ls : List Gr.Ln) (a b k : Nat) : tho n ls a b (k + 1) = (tho n ls a b k && !(To.comes n ls a k && To.comes n ls k b)) := by simp [tho, List.range_succ]
/-- the lines that are put down, of the first i -/
def fewTo (n : Nat) (ls : List Gr.Ln) (i : Nat) : List Gr.Ln := (((Gr.full n (To.comes n ls)).take i).filter fun p => tho n ls p.1 p.2 n).map fun p => ((p.1 : Int), (p.2 : Int))
theorem fewTo_zero (n : Nat) (ls : List Gr.Ln) : fewTo n ls 0 = [] := by simp [fewTo]
theorem fewTo_succ {n : Nat} {ls : List Gr.Ln} {i : Nat} (hi : i < (Gr.full n (To.comes n ls)).length) : ∃ a b : Nat, a < n ∧ b < n ∧ (Cl.clos n ls).getD i (0, 0) = ((a : Int), (b : Int)) ∧
    fewTo n ls (i + 1) = if tho n ls a b n then fewTo n ls i ++ [((a : Int), (b : Int))] else fewTo n ls i := by
  have hm : (Gr.full n (To.comes n ls))[i] ∈ Gr.full n (To.comes n ls) := List.getElem_mem hi
  have h1 := Gr.mem_full.1 hm
  refine ⟨_, _, h1.1, h1.2.1, ?_, ?_⟩
  · simp [Cl.clos, Cl.lst, List.getD, hi]
  · unfold fewTo
    rw [List.take_succ_eq_append_getElem hi, List.filter_append, List.map_append]
    cases h : tho n ls (Gr.full n (To.comes n ls))[i].1 (Gr.full n (To.comes n ls))[i].2 n with
    | true => simp [h]
    | false => simp [h]
theorem fewTo_end {n : Nat} {ls : List Gr.Ln} {i : Nat} (hi : (Gr.full n (To.comes n ls)).length ≤ i) : fewTo n ls i = Cl.few n ls := by
  unfold fewTo Cl.few Cl.lst
  rw [List.take_of_length_le hi]
  have e : ((Gr.full n (To.comes n ls)).filter fun p => tho n ls p.1 p.2 n) = Gr.full n fun a b => To.comes n ls a b && tho n ls a b n := Cl.lst_filter n (To.comes n ls) (fun a b => tho n ls a b n)
  rw [e]
  rfl
theorem fewTo_len (n : Nat) (ls : List Gr.Ln) (i : Nat) : (fewTo n ls i).length ≤ i := by
  unfold fewTo
  rw [List.length_map]
  have := List.length_filter_le (fun p : Nat × Nat => tho n ls p.1 p.2 n) ((Gr.full n (To.comes n ls)).take i)
  rw [List.length_take] at this
  omega
theorem clos_len (n : Nat) (ls : List Gr.Ln) : (Cl.clos n ls).length = (Gr.full n (To.comes n ls)).length := by simp [Cl.clos, Cl.lst]


end Go.Proofs.YtinglgnddmadaaaDoor.RefC
