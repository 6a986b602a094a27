/-
  The reference's Widest (the most points of which none is ahead of another one, by trying all) and Rows (the fewest rows, by trying all).
-/
import Derived.Test.YtinglgnddmadaaaDoorRefL
import Derived.Test.YtinglgnddmadaaaDoorRefBeh
import Derived.Test.YtinglgnddmadaaaDoorRefSet
import Derived.Test.YtinglgnddmadaaaDoorSeen
import Derived.Test.YtinglgnddmadaaaDoorChainQ
import Derived.BigQuiet
import Derived.Deep.RegionHeld3
namespace Go.Proofs.YtinglgnddmadaaaDoor.RefCh
open Go.RowKit
set_option linter.unusedSimpArgs false
set_option linter.unusedVariables false

theorem Behind_rd (A : Option Addr) (n c q : Nat) (zs : List Int) (x : Int) (w : World) (hr : Rd w w.heap.size A n c zs) (hn : n ≤ 1000000) (hq : q = n + 1) :
    Calls Tryd.prog 21 #[.slice A n c, .int .i64 x] w fun e w' => ∃ A1 c1, e = .returned (.slice A1 q c1) ∧ Rd w' w'.heap.size A1 q c1 (zs ++ [x]) ∧ Below w.heap.size w w' := by
  have hl := hr.len
  refine (RefW.Behind_any A n c zs x w hr hn).mono ?_
  rintro e w' ⟨v, rfl, hown, hb⟩
  obtain ⟨A1, c1, rfl, hrd⟩ := hown.rd
  have e1 : (zs ++ [x]).length = q := by simp [hl, hq]
  rw [e1] at hrd ⊢
  exact ⟨A1, c1, rfl, hrd, hb⟩
theorem Set_rd (A : Option Addr) (n c : Nat) (l : List Int) (i : Nat) (x : Int) (w : World) (hr : Rd w w.heap.size A n c l) (hi : i < n) (hn : n ≤ 1000) :
    Calls Tryd.prog 22 #[.slice A n c, .int .i64 (i : Int), .int .i64 x] w fun e w' => ∃ A1 c1, e = .returned (.slice A1 n c1) ∧ Rd w' w'.heap.size A1 n c1 (l.set i x) ∧ Below w.heap.size w w' := by
  refine (RefD.Set_any A n c l i x w hr hi (by omega)).mono ?_
  rintro e w' ⟨g, cap, rfl, hown, hb⟩
  exact ⟨_, cap, rfl, hown.rd', hb⟩
theorem upL_set (l : List Nat) (i x : Nat) : upL (l.set i x) = (upL l).set i (x : Int) := by simp [upL, List.map_set]

/-! ### Widest -/
/-- none of the first k is ahead of i, or behind it -/
def frTo (L : List Gr.Ln) (i : Nat) (has : List Nat) (k : Nat) : Bool := (has.take k).all fun x => !Gr.adj L (i : Int) ((x : Nat) : Int)
theorem frTo_succ {L : List Gr.Ln} {i : Nat} {has : List Nat} {k : Nat} (hk : k < has.length) : frTo L i has (k + 1) = (frTo L i has k && !Gr.adj L (i : Int) ((has.getD k 0 : Nat) : Int)) := by
  unfold frTo
  rw [List.take_succ_eq_append_getElem hk, List.all_append]
  simp [List.getD, hk]
theorem frTo_end {L : List Gr.Ln} {i : Nat} {has : List Nat} {k : Nat} (hk : has.length ≤ k) : frTo L i has k = has.all fun x => !Gr.adj L (i : Int) ((x : Nat) : Int) := by
  unfold frTo
  rw [List.take_of_length_le hk]
/-- who is ahead or behind -/
def ab (L : List Gr.Ln) : Nat → Nat → Bool := fun a b => Gr.adj L (a : Int) (b : Int)
theorem wideF_succ (L : List Gr.Ln) (f i : Nat) (has : List Nat) : Cn.wideF (ab L) (f + 1) i has = if (has.all fun x => !Gr.adj L (i : Int) ((x : Nat) : Int)) = true then max (Cn.wideF (ab L) f (i + 1) has) (Cn.wideF (ab L) f (i + 1) (has ++ [i])) else Cn.wideF (ab L) f (i + 1) has := rfl

set_option maxRecDepth 100000 in
set_option maxHeartbeats 2000000 in
theorem Widest_any (m : Nat) (hm : m ≤ 8) (A : Option Addr) (n c B : Nat) (L : List Gr.Ln) : ∀ (f i : Nat) (has : List Nat) (A3 : Option Addr) (q c3 : Nat) (w : World), i + f = m → q ≤ i → RdP w B A n c L → B ≤ w.heap.size → Rd w w.heap.size A3 q c3 (upL has) →
    Calls Tryd.prog 11 #[.int .i64 (m : Int), .slice A n c, .int .i64 (i : Int), .slice A3 q c3] w fun e w' => e = .returned (.int .i64 ((Cn.wideF (ab L) f i has : Nat) : Int)) ∧ Below w.heap.size w w'
  | 0, i, has, A3, q, c3, w, hi, hq, hL, hB, hr => by
    have hl : has.length = q := by have := hr.len; rwa [upL_len] at this
    have d1 : ((i : Int) == (m : Int)) = true := by simp; omega
    have HF : Hid (Cn.wideF (ab L) 0 i has = q) := hl
    clear hi hl
    go_enter Tryd.func11, Tryd.ntmps11
    go_wp2
    go_ret
    exact ⟨by rw [HF.out]; rfl, Below.refl _ _⟩
  | f + 1, i, has, A3, q, c3, w, hi, hq, hL, hB, hr => by
    have HLN : Hid (has.length = q) := by show _ = _; have := hr.len; rwa [upL_len] at this
    have d1 : ((i : Int) == (m : Int)) = false := by simp; omega
    have hi1 : i + 1 + f = m := by omega
    have hq1 : q + 1 ≤ i + 1 := by omega
    have hq8 : q ≤ 8 := by omega
    obtain ⟨y, hy⟩ : ∃ y : Int, y = ((i + 1 : Nat) : Int) := ⟨_, rfl⟩
    have hwr : IntKind.i64.wrap ((i : Int) + 1) = y := by rw [IntKind.wrap_i64]; omega
    have HIH : Hid (∀ (has : List Nat) (A3 : Option Addr) (q c3 : Nat) (w : World), q ≤ i + 1 → RdP w B A n c L → B ≤ w.heap.size → Rd w w.heap.size A3 q c3 (upL has) →
      Calls Tryd.prog 11 #[.int .i64 (m : Int), .slice A n c, .int .i64 y, .slice A3 q c3] w fun e w' => e = .returned (.int .i64 ((Cn.wideF (ab L) f (i + 1) has : Nat) : Int)) ∧ Below w.heap.size w w') := by
      intro has A3 q c3 w h1 h2 h3 h4
      rw [hy]
      exact Widest_any m hm A n c B L f (i + 1) has A3 q c3 w hi1 h1 h2 h3 h4
    have HW := Lib.hid (wideF_succ L f i has)
    clear hi hi1 hy
    go_enter Tryd.func11, Tryd.ntmps11
    go_wp2_with fail
    refine (HIH.out has A3 q c3 _ (by omega) hL hB hr).mono ?_
    rintro e w1 ⟨rfl, hb1⟩
    have hr1 := hr.past hb1
    have hs1 : B ≤ w1.heap.size := Nat.le_trans hB hb1.size
    have hL1 : RdP w1 B A n c L := hL.below (hb1.mono hB)
    have hLw := hL1.more hs1
    obtain ⟨b, hb⟩ : ∃ b, b = Cn.wideF (ab L) f (i + 1) has := ⟨_, rfl⟩
    rw [← hb]
    have HB := Lib.hid hb
    clear hb hr hL
    have HF0 : Hid (frTo L i has 0 = true) := rfl
    go_wp2
    go_loopw [10, 11] (fun fv kv wr => ∃ (k : Nat) (s : Bool), k ≤ q ∧ kv = .int .i64 (k : Int) ∧ fv = .bool s ∧ Hid (frTo L i has k = s) ∧ w1 = wr) (fun _ kv _ => q - (intOf kv).toNat)
    case atStart => exact ⟨0, true, Nat.zero_le _, rfl, rfl, HF0, rfl⟩
    case round =>
      clear HF0
      obtain ⟨k, s, hk, rfl, rfl, HF, rfl⟩ := hrel
      by_cases hlk : k < q
      · cases s with
        | false =>
          have HN : Hid (frTo L i has (k + 1) = false) := by show _ = _; rw [frTo_succ (by rw [HLN.out]; exact hlk), HF.out]; rfl
          go_wp2
          go_roundw
          case rel => exact ⟨k + 1, false, by omega, by go_num, rfl, HN, trivial⟩
          case measure => simp [intOf]; omega
        | true =>
          obtain ⟨b3, o3, rfl, hb3, hc3⟩ := hr1.at_ (by omega)
          have g3 := hc3 k hlk
          rw [upL_at] at g3
          obtain ⟨x, hx⟩ : ∃ x : Int, x = ((has.getD k 0 : Nat) : Int) := ⟨_, rfl⟩
          rw [← hx] at g3
          obtain ⟨t, ht⟩ : ∃ t, Gr.adj L (i : Int) x = t := ⟨_, rfl⟩
          have HN : Hid (frTo L i has (k + 1) = !t) := by show _ = _; rw [frTo_succ (by rw [HLN.out]; exact hlk), HF.out, ← hx, ht]; rfl
          have HT := Lib.hid ht
          have k1 : (0 : Int) ≤ (k : Int) := by omega
          have k2 : (k : Int) < (q : Int) := by omega
          clear hx ht hc3
          go_wp2_with fail
          refine (RefL.Beside_any A n c L (i : Int) x t _ hLw HT.out).mono ?_
          rintro e w2 ⟨rfl, rfl⟩
          go_wp2
          go_roundw
          case rel => exact ⟨k + 1, !t, by omega, by go_num, rfl, HN, trivial⟩
          case measure => simp [intOf]; omega
      · have HE : Hid (has.all (fun x => !Gr.adj L (i : Int) ((x : Nat) : Int)) = s) := by show _ = _; rw [← HF.out]; exact (frTo_end (by rw [HLN.out]; omega)).symm
        cases s with
        | false =>
          have hfin : Hid (Cn.wideF (ab L) (f + 1) i has = b) := by show _ = _; rw [HW.out, HE.out, HB.out]; rfl
          go_wp2
          go_ret
          exact ⟨by rw [hfin.out]; rfl, hb1⟩
        | true =>
          have hwm : Hid (Cn.wideF (ab L) (f + 1) i has = max b (Cn.wideF (ab L) f (i + 1) (has ++ [i]))) := by show _ = _; rw [HW.out, HE.out, HB.out]; rfl
          go_wp2_with fail
          refine (Behind_rd A3 q c3 (q + 1) _ (i : Int) _ hr1 (by omega) rfl).mono ?_
          rintro e w2 ⟨A4, c4, rfl, hr4, hb2⟩
          rw [← upL_snoc] at hr4
          have hs2 : B ≤ w2.heap.size := Nat.le_trans hs1 hb2.size
          have hL2 : RdP w2 B A n c L := hL1.below (hb2.mono hs1)
          have hb12 := hb1.trans (hb2.mono hb1.size)
          go_wp2_with fail
          refine (HIH.out (has ++ [i]) A4 (q + 1) c4 _ hq1 hL2 hs2 hr4).mono ?_
          rintro e w3 ⟨rfl, hb3⟩
          have hb13 := hb12.trans (hb3.mono hb12.size)
          obtain ⟨g, hg⟩ : ∃ g, g = Cn.wideF (ab L) f (i + 1) (has ++ [i]) := ⟨_, rfl⟩
          rw [← hg] at hwm ⊢
          clear hg hr4 hL2 hb2 hb3 hb12 hr1 hL1 hLw
          by_cases hlt : b < g
          · have hfin : Hid (Cn.wideF (ab L) (f + 1) i has = g) := by show _ = _; rw [hwm.out]; omega
            have d2 : (b : Int) < (g : Int) := by omega
            clear hwm
            go_wp2
            go_ret
            exact ⟨by rw [hfin.out]; rfl, hb13⟩
          · have hfin : Hid (Cn.wideF (ab L) (f + 1) i has = b) := by show _ = _; rw [hwm.out]; omega
            have d2 : (g : Int) ≤ (b : Int) := by omega
            clear hwm
            go_wp2
            go_ret
            exact ⟨by rw [hfin.out]; rfl, hb13⟩

/-! ### Rows -/
theorem rowsTo_succ (G : Nat → Nat → Bool) (f : List Nat → Nat) (x : Nat) (ends : List Nat) (k : Nat) : Cn.rowsTo G f x ends (k + 1) = if G (ends.getD k 0) x = true then min (Cn.rowsTo G f x ends k) (f (ends.set k x)) else Cn.rowsTo G f x ends k := rfl

set_option maxRecDepth 100000 in
set_option maxHeartbeats 4000000 in
theorem Rows_any (A : Option Addr) (n c B : Nat) (L : List Gr.Ln) : ∀ (xs ends : List Nat) (A2 : Option Addr) (p c2 : Nat) (A3 : Option Addr) (q c3 : Nat) (w : World), q + p ≤ 1000 → RdP w B A n c L → B ≤ w.heap.size → Rd w w.heap.size A2 p c2 (upL xs) → Rd w w.heap.size A3 q c3 (upL ends) →
    Calls Tryd.prog 10 #[.slice A n c, .slice A2 p c2, .slice A3 q c3] w fun e w' => e = .returned (.int .i64 ((Cn.rowsF (Ma.gl L) xs ends : Nat) : Int)) ∧ Below w.heap.size w w'
  | [], ends, A2, p, c2, A3, q, c3, w, hpq, hL, hB, h2, h3 => by
    have hl : p = 0 := by have := h2.len; simpa [upL] using this.symm
    have hq : ends.length = q := by have := h3.len; rwa [upL_len] at this
    have HF : Hid (Cn.rowsF (Ma.gl L) [] ends = q) := hq
    subst hl
    clear hq
    go_enter Tryd.func10, Tryd.ntmps10
    go_wp2
    go_ret
    exact ⟨by rw [HF.out]; rfl, Below.refl _ _⟩
  | x :: xs, ends, A2, p, c2, A3, q, c3, w, hpq, hL, hB, h2, h3 => by
    have HP : Hid (p = (x :: xs).length) := by show _ = _; have := h2.len; rw [upL_len] at this; exact this.symm
    have HQ : Hid (ends.length = q) := by show _ = _; have := h3.len; rwa [upL_len] at this
    have hp1 : 1 ≤ p := by have := HP.out; rw [List.length_cons] at this; omega
    have hpc := h2.le
    have hcc := h2.cap
    have hbig := h3.big
    have d0 : ((p : Int) == 0) = false := by simp; omega
    have d0n : (p == 0) = false := by simp; omega
    have p1 : (1 : Int) ≤ (p : Int) := by omega
    have p2 : (0 : Int) < (p : Int) := by omega
    have p3 : 0 < p := by omega
    obtain ⟨b2, o2, rfl, hb2, hc2⟩ := h2.at_ (by omega)
    have g0 := hc2 0 (by omega)
    rw [upL_at, Nat.add_zero] at g0
    replace g0 : w.cell? ⟨b2, o2, none⟩ = some (.int .i64 (x : Int)) := g0
    clear hc2
    by_cases h1c : c2 = 1
    · subst h1c
      obtain rfl : p = 1 := by omega
      have hxl : xs.length = 0 := by have := HP.out; rw [List.length_cons] at this; omega
      have HIH : Hid (∀ (es : List Nat) (A' : Option Addr) (q' c' : Nat) (W : World), Below w.heap.size w W → q' + 0 ≤ 1000 → Rd W W.heap.size A' q' c' (upL es) →
          Calls Tryd.prog 10 #[.slice A n c, .slice (some ⟨b2, o2, none⟩) 0 0, .slice A' q' c'] W fun e w' => e = .returned (.int .i64 ((Cn.rowsF (Ma.gl L) xs es : Nat) : Int)) ∧ Below W.heap.size W w') := by
        intro es A' q' c' W hW hq' hr'
        exact Rows_any A n c B L xs es _ 0 0 A' q' c' W (by omega) (hL.below (hW.mono hB)) (Nat.le_trans hB hW.size) (Rd.empty W W.heap.size ⟨b2, o2, none⟩ 0 0 (upL xs) (by rw [upL_len]; exact hxl) rfl (by omega)) hr'
      have hqp : q + 1 + 0 ≤ 1000 := by omega
      clear hxl
      have HST : Hid (∀ W : World, Below w.heap.size w W → W.cell? ⟨b2, o2, none⟩ = some (.int .i64 (x : Int))) := fun W hW => (hW.cell (p := ⟨b2, o2, none⟩) hb2).trans g0
      have e0 : w.drew.cell? ⟨b2, o2, none⟩ = some (.int .i64 (x : Int)) := g0
      have h3d : Rd w.drew w.drew.heap.size A3 q c3 (upL ends) := h3
      have hdr : Below w.heap.size w w.drew := (Below.refl _ _).drew
      have hwd : w.drew.heap.size = w.heap.size := rfl
      clear h2
      go_enter Tryd.func10, Tryd.ntmps10
      go_wp2
      go_region_held3 (fun w' : World => w'.cell? ⟨b2, o2, none⟩ = some (.int .i64 (x : Int))) (first | exact g0 | assumption)
        (first
          | (go_at_call 21; refine (Behind_rd A3 q c3 (q + 1) _ (x : Int) _ h3d (by omega) rfl).mono ?_; rintro e w2 ⟨A4, c4, rfl, hr4, hb2'⟩; rw [← upL_snoc] at hr4; have hk2 := (hb2'.cell (World.block_lt_of_cell? _ _ e0)).trans e0; have hb02 := hdr.trans (hb2'.mono (Nat.le_of_eq hwd.symm)))
          | (go_at_call 10; refine (HIH.out (ends ++ [x]) A4 (q + 1) c4 _ hb02 hqp hr4).mono ?_; rintro e w3 ⟨rfl, hb3⟩; have hk3 := HST.out w3 (hb02.trans (hb3.mono hb02.size))))
      have hb03 := hb02.trans (hb3.mono hb02.size)
      clear hb02 hb2' hb3 hk2 hk3 hr4 h3d hdr hwd e0 g0
      have HR0 : Hid (Cn.rowsTo (Ma.gl L) (Cn.rowsF (Ma.gl L) xs) x ends 0 = Cn.rowsF (Ma.gl L) xs (ends ++ [x])) := rfl
      obtain ⟨b, hb⟩ : ∃ b, b = Cn.rowsF (Ma.gl L) xs (ends ++ [x]) := ⟨_, rfl⟩
      rw [← hb] at HR0 ⊢
      clear hb
      go_wp2
      go_loopw [7, 8, 9] (fun bv kv _ wr => ∃ k b : Nat, k ≤ q ∧ kv = .int .i64 (k : Int) ∧ bv = .int .i64 (b : Int) ∧ Hid (Cn.rowsTo (Ma.gl L) (Cn.rowsF (Ma.gl L) xs) x ends k = b) ∧ Below w.heap.size w wr) (fun _ kv _ _ => q - (intOf kv).toNat)
      case atStart => exact ⟨0, b, Nat.zero_le _, rfl, rfl, HR0, hb03⟩
      case round =>
        clear HR0 hb03
        obtain ⟨k, b, hk, rfl, rfl, HR, hbel⟩ := hrel
        by_cases hlk : k < q
        · have h3w := h3.past hbel
          have hLw := (hL.below (hbel.mono hB)).more (Nat.le_trans hB hbel.size)
          have g0 := HST.out wr hbel
          obtain ⟨b3, o3, rfl, hb3, hc3⟩ := h3w.at_ (by omega)
          have g3 := hc3 k hlk
          rw [upL_at] at g3
          obtain ⟨y, hy⟩ : ∃ y : Nat, y = ends.getD k 0 := ⟨_, rfl⟩
          rw [← hy] at g3
          obtain ⟨t, ht⟩ : ∃ t, Gr.has L (y : Int) (x : Int) = t := ⟨_, rfl⟩
          have HT := Lib.hid ht
          have HN : Hid (Cn.rowsTo (Ma.gl L) (Cn.rowsF (Ma.gl L) xs) x ends (k + 1) = if t = true then min b (Cn.rowsF (Ma.gl L) xs (ends.set k x)) else b) := by
            show _ = _
            rw [rowsTo_succ, ← hy, HR.out]
            show (if Gr.has L (y : Int) (x : Int) = true then _ else _) = _
            rw [ht]
          have k1 : (0 : Int) ≤ (k : Int) := by omega
          have k2 : (k : Int) < (q : Int) := by omega
          clear hy ht hc3 HR
          cases t with
          | false =>
            have HN2 : Hid (Cn.rowsTo (Ma.gl L) (Cn.rowsF (Ma.gl L) xs) x ends (k + 1) = b) := HN.out
            clear HN
            go_wp2
            go_quiet (first | (go_at_call 20; exact Calls.quiet_of_same ((RefL.Goes_any A n c L (y : Int) (x : Int) false _ (hLw.drewN _) HT.out).mono fun _ _ h => ⟨h.1, h.2.symm⟩)))
            go_wp2
            go_roundw
            case rel => exact ⟨k + 1, b, by omega, by go_num, rfl, HN2, hbel.trans (Below.drewN' _ _ _)⟩
            case measure => simp [intOf]; omega
          | true =>
            have HN2 : Hid (Cn.rowsTo (Ma.gl L) (Cn.rowsF (Ma.gl L) xs) x ends (k + 1) = min b (Cn.rowsF (Ma.gl L) xs (ends.set k x))) := HN.out
            clear HN
            go_wp2
            go_quiet (first | (go_at_call 20; exact Calls.quiet_of_same ((RefL.Goes_any A n c L (y : Int) (x : Int) true _ (hLw.drewN _) HT.out).mono fun _ _ h => ⟨h.1, h.2.symm⟩)))
            obtain ⟨y1, hy1⟩ : ∃ y1, y1 = wr.drewN nq := ⟨_, rfl⟩
            have hbe1 : Below w.heap.size w y1 := by rw [hy1]; exact hbel.trans (Below.drewN' _ _ _)
            rw [← hy1]
            have g1 := HST.out y1 hbe1
            have e1 : y1.drew.cell? ⟨b2, o2, none⟩ = some (.int .i64 (x : Int)) := g1
            have hbd1 : Below w.heap.size w y1.drew := hbe1.drew
            have h3e : Rd y1.drew y1.drew.heap.size (some ⟨b3, o3, none⟩) q c3 (upL ends) := h3.past hbd1
            clear g0 g3 hLw h3w hy1 hbel hb3 HT
            go_wp2
            go_region_held3 (fun w' : World => w'.cell? ⟨b2, o2, none⟩ = some (.int .i64 (x : Int))) (first | exact g1 | assumption)
              (first
                | (go_at_call 22; refine (Set_rd _ q c3 _ k (x : Int) _ h3e hlk (by omega)).mono ?_; rintro e w2 ⟨A4, c4, rfl, hr4, hb2'⟩; rw [← upL_set] at hr4; have hk2 := (hb2'.cell (World.block_lt_of_cell? _ _ e1)).trans e1; have hb02 := hbd1.trans (hb2'.mono hbd1.size))
                | (go_at_call 10; refine (HIH.out (ends.set k x) A4 q c4 _ hb02 (by omega) hr4).mono ?_; rintro e w3 ⟨rfl, hb3⟩; have hk3 := HST.out w3 (hb02.trans (hb3.mono hb02.size))))
            have hb03 := hb02.trans (hb3.mono hb02.size)
            clear hb02 hb2' hb3 hk2 hk3 hr4 h3e hbd1 e1 g1 hbe1
            obtain ⟨v, hv⟩ : ∃ v, v = Cn.rowsF (Ma.gl L) xs (ends.set k x) := ⟨_, rfl⟩
            rw [← hv] at HN2 ⊢
            clear hv
            by_cases hlt : v < b
            · have HN3 : Hid (Cn.rowsTo (Ma.gl L) (Cn.rowsF (Ma.gl L) xs) x ends (k + 1) = v) := by show _ = _; rw [HN2.out]; omega
              have d2 : (v : Int) < (b : Int) := by omega
              clear HN2
              go_wp2
              go_roundw
              case rel => exact ⟨k + 1, v, by omega, by go_num, rfl, HN3, hb03⟩
              case measure => simp [intOf]; omega
            · have HN3 : Hid (Cn.rowsTo (Ma.gl L) (Cn.rowsF (Ma.gl L) xs) x ends (k + 1) = b) := by show _ = _; rw [HN2.out]; omega
              have d2 : (b : Int) ≤ (v : Int) := by omega
              clear HN2
              go_wp2
              go_roundw
              case rel => exact ⟨k + 1, b, by omega, by go_num, rfl, HN3, hb03⟩
              case measure => simp [intOf]; omega
        · have hfin : Hid (Cn.rowsF (Ma.gl L) (x :: xs) ends = b) := by
            show _ = _
            have e : k = ends.length := by rw [HQ.out]; omega
            rw [← HR.out, e]
            rfl
          go_wp2
          go_ret
          exact ⟨by rw [hfin.out]; rfl, hbel⟩
    · have HIH : Hid (∀ (es : List Nat) (A' : Option Addr) (q' c' : Nat) (W : World), Below w.heap.size w W → q' + (p - 1) ≤ 1000 → Rd W W.heap.size A' q' c' (upL es) →
          Calls Tryd.prog 10 #[.slice A n c, .slice (some ⟨b2, o2 + 1, none⟩) (p - 1) (c2 - 1), .slice A' q' c'] W fun e w' => e = .returned (.int .i64 ((Cn.rowsF (Ma.gl L) xs es : Nat) : Int)) ∧ Below W.heap.size W w') := by
        intro es A' q' c' W hW hq' hr'
        exact Rows_any A n c B L xs es _ (p - 1) (c2 - 1) A' q' c' W (by omega) (hL.below (hW.mono hB)) (Nat.le_trans hB hW.size) ((h2.past hW).tail hp1 h1c) hr'
      have hqp : q + 1 + (p - 1) ≤ 1000 := by omega
      have HST : Hid (∀ W : World, Below w.heap.size w W → W.cell? ⟨b2, o2, none⟩ = some (.int .i64 (x : Int))) := fun W hW => (hW.cell (p := ⟨b2, o2, none⟩) hb2).trans g0
      have e0 : w.drew.cell? ⟨b2, o2, none⟩ = some (.int .i64 (x : Int)) := g0
      have h3d : Rd w.drew w.drew.heap.size A3 q c3 (upL ends) := h3
      have hdr : Below w.heap.size w w.drew := (Below.refl _ _).drew
      have hwd : w.drew.heap.size = w.heap.size := rfl
      clear h2
      go_enter Tryd.func10, Tryd.ntmps10
      go_wp2
      go_region_held3 (fun w' : World => w'.cell? ⟨b2, o2, none⟩ = some (.int .i64 (x : Int))) (first | exact g0 | assumption)
        (first
          | (go_at_call 21; refine (Behind_rd A3 q c3 (q + 1) _ (x : Int) _ h3d (by omega) rfl).mono ?_; rintro e w2 ⟨A4, c4, rfl, hr4, hb2'⟩; rw [← upL_snoc] at hr4; have hk2 := (hb2'.cell (World.block_lt_of_cell? _ _ e0)).trans e0; have hb02 := hdr.trans (hb2'.mono (Nat.le_of_eq hwd.symm)))
          | (go_at_call 10; refine (HIH.out (ends ++ [x]) A4 (q + 1) c4 _ hb02 hqp hr4).mono ?_; rintro e w3 ⟨rfl, hb3⟩; have hk3 := HST.out w3 (hb02.trans (hb3.mono hb02.size))))
      have hb03 := hb02.trans (hb3.mono hb02.size)
      clear hb02 hb2' hb3 hk2 hk3 hr4 h3d hdr hwd e0 g0
      have HR0 : Hid (Cn.rowsTo (Ma.gl L) (Cn.rowsF (Ma.gl L) xs) x ends 0 = Cn.rowsF (Ma.gl L) xs (ends ++ [x])) := rfl
      obtain ⟨b, hb⟩ : ∃ b, b = Cn.rowsF (Ma.gl L) xs (ends ++ [x]) := ⟨_, rfl⟩
      rw [← hb] at HR0 ⊢
      clear hb
      go_wp2
      go_loopw [7, 8, 9] (fun bv kv _ wr => ∃ k b : Nat, k ≤ q ∧ kv = .int .i64 (k : Int) ∧ bv = .int .i64 (b : Int) ∧ Hid (Cn.rowsTo (Ma.gl L) (Cn.rowsF (Ma.gl L) xs) x ends k = b) ∧ Below w.heap.size w wr) (fun _ kv _ _ => q - (intOf kv).toNat)
      case atStart => exact ⟨0, b, Nat.zero_le _, rfl, rfl, HR0, hb03⟩
      case round =>
        clear HR0 hb03
        obtain ⟨k, b, hk, rfl, rfl, HR, hbel⟩ := hrel
        by_cases hlk : k < q
        · have h3w := h3.past hbel
          have hLw := (hL.below (hbel.mono hB)).more (Nat.le_trans hB hbel.size)
          have g0 := HST.out wr hbel
          obtain ⟨b3, o3, rfl, hb3, hc3⟩ := h3w.at_ (by omega)
          have g3 := hc3 k hlk
          rw [upL_at] at g3
          obtain ⟨y, hy⟩ : ∃ y : Nat, y = ends.getD k 0 := ⟨_, rfl⟩
          rw [← hy] at g3
          obtain ⟨t, ht⟩ : ∃ t, Gr.has L (y : Int) (x : Int) = t := ⟨_, rfl⟩
          have HT := Lib.hid ht
          have HN : Hid (Cn.rowsTo (Ma.gl L) (Cn.rowsF (Ma.gl L) xs) x ends (k + 1) = if t = true then min b (Cn.rowsF (Ma.gl L) xs (ends.set k x)) else b) := by
            show _ = _
            rw [rowsTo_succ, ← hy, HR.out]
            show (if Gr.has L (y : Int) (x : Int) = true then _ else _) = _
            rw [ht]
          have k1 : (0 : Int) ≤ (k : Int) := by omega
          have k2 : (k : Int) < (q : Int) := by omega
          clear hy ht hc3 HR
          cases t with
          | false =>
            have HN2 : Hid (Cn.rowsTo (Ma.gl L) (Cn.rowsF (Ma.gl L) xs) x ends (k + 1) = b) := HN.out
            clear HN
            go_wp2
            go_quiet (first | (go_at_call 20; exact Calls.quiet_of_same ((RefL.Goes_any A n c L (y : Int) (x : Int) false _ (hLw.drewN _) HT.out).mono fun _ _ h => ⟨h.1, h.2.symm⟩)))
            go_wp2
            go_roundw
            case rel => exact ⟨k + 1, b, by omega, by go_num, rfl, HN2, hbel.trans (Below.drewN' _ _ _)⟩
            case measure => simp [intOf]; omega
          | true =>
            have HN2 : Hid (Cn.rowsTo (Ma.gl L) (Cn.rowsF (Ma.gl L) xs) x ends (k + 1) = min b (Cn.rowsF (Ma.gl L) xs (ends.set k x))) := HN.out
            clear HN
            go_wp2
            go_quiet (first | (go_at_call 20; exact Calls.quiet_of_same ((RefL.Goes_any A n c L (y : Int) (x : Int) true _ (hLw.drewN _) HT.out).mono fun _ _ h => ⟨h.1, h.2.symm⟩)))
            obtain ⟨y1, hy1⟩ : ∃ y1, y1 = wr.drewN nq := ⟨_, rfl⟩
            have hbe1 : Below w.heap.size w y1 := by rw [hy1]; exact hbel.trans (Below.drewN' _ _ _)
            rw [← hy1]
            have g1 := HST.out y1 hbe1
            have e1 : y1.drew.cell? ⟨b2, o2, none⟩ = some (.int .i64 (x : Int)) := g1
            have hbd1 : Below w.heap.size w y1.drew := hbe1.drew
            have h3e : Rd y1.drew y1.drew.heap.size (some ⟨b3, o3, none⟩) q c3 (upL ends) := h3.past hbd1
            clear g0 g3 hLw h3w hy1 hbel hb3 HT
            go_wp2
            go_region_held3 (fun w' : World => w'.cell? ⟨b2, o2, none⟩ = some (.int .i64 (x : Int))) (first | exact g1 | assumption)
              (first
                | (go_at_call 22; refine (Set_rd _ q c3 _ k (x : Int) _ h3e hlk (by omega)).mono ?_; rintro e w2 ⟨A4, c4, rfl, hr4, hb2'⟩; rw [← upL_set] at hr4; have hk2 := (hb2'.cell (World.block_lt_of_cell? _ _ e1)).trans e1; have hb02 := hbd1.trans (hb2'.mono hbd1.size))
                | (go_at_call 10; refine (HIH.out (ends.set k x) A4 q c4 _ hb02 (by omega) hr4).mono ?_; rintro e w3 ⟨rfl, hb3⟩; have hk3 := HST.out w3 (hb02.trans (hb3.mono hb02.size))))
            have hb03 := hb02.trans (hb3.mono hb02.size)
            clear hb02 hb2' hb3 hk2 hk3 hr4 h3e hbd1 e1 g1 hbe1
            obtain ⟨v, hv⟩ : ∃ v, v = Cn.rowsF (Ma.gl L) xs (ends.set k x) := ⟨_, rfl⟩
            rw [← hv] at HN2 ⊢
            clear hv
            by_cases hlt : v < b
            · have HN3 : Hid (Cn.rowsTo (Ma.gl L) (Cn.rowsF (Ma.gl L) xs) x ends (k + 1) = v) := by show _ = _; rw [HN2.out]; omega
              have d2 : (v : Int) < (b : Int) := by omega
              clear HN2
              go_wp2
              go_roundw
              case rel => exact ⟨k + 1, v, by omega, by go_num, rfl, HN3, hb03⟩
              case measure => simp [intOf]; omega
            · have HN3 : Hid (Cn.rowsTo (Ma.gl L) (Cn.rowsF (Ma.gl L) xs) x ends (k + 1) = b) := by show _ = _; rw [HN2.out]; omega
              have d2 : (b : Int) ≤ (v : Int) := by omega
              clear HN2
              go_wp2
              go_roundw
              case rel => exact ⟨k + 1, b, by omega, by go_num, rfl, HN3, hb03⟩
              case measure => simp [intOf]; omega
        · have hfin : Hid (Cn.rowsF (Ma.gl L) (x :: xs) ends = b) := by
            show _ = _
            have e : k = ends.length := by rw [HQ.out]; omega
            rw [← HR.out, e]
            rfl
          go_wp2
          go_ret
          exact ⟨by rw [hfin.out]; rfl, hbel⟩

end Go.Proofs.YtinglgnddmadaaaDoor.RefCh
