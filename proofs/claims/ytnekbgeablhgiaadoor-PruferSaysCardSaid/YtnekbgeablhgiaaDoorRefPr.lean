/-
  The contract of the reference's Prufer: a tree's row, by the least end among all ends of lines, again and again. No statement of the program is proved here; there is no condition.
-/
import Derived.Test.YtnekbgeablhgiaaDoorPruferC
import Derived.Test.YtnekbgeablhgiaaDoorRefBut
import Derived.Deep.RegionLaw
namespace Go.Proofs.YtnekbgeablhgiaaDoor.RefPr
open Go.RowKit

set_option linter.unusedSimpArgs false
set_option linter.unusedVariables false

/-- the row's first k numbers -/
def rowTo (m : Nat) (ls : List Gr.Ln) (k : Nat) : List Int := (List.range k).map fun i => ((Pf.nbk m (Tr.ad ls) (fun _ => false) i : Nat) : Int)
theorem rowTo_len (m : Nat) (ls : List Gr.Ln) (k : Nat) : (rowTo m ls k).length = k := by simp [rowTo]
theorem rowTo_succ (m : Nat) (ls : List Gr.Ln) (k : Nat) : rowTo m ls (k + 1) = rowTo m ls k ++ [((Pf.nbk m (Tr.ad ls) (fun _ => false) k : Nat) : Int)] := by
  unfold rowTo
  rw [List.range_succ, List.map_append]
  rfl
theorem rowTo_all (m : Nat) (ls : List Gr.Ln) : rowTo m ls (m - 2) = upN (Pf.wr m ls) := by
  unfold rowTo upN Pf.wr
  rw [Pf.code_gw, List.map_map]
  rfl

/-- how long a slice is -/
def lenV : Value → Nat
  | .slice _ n _ => n
  | _ => 0
/-- another block has grown -/
theorem RdP_grown {w w' : World} {B : Nat} {A : Option Addr} {n c : Nat} {ps : List (Int × Int)} {row : Option Nat} (h : RdP w B A n c ps) (hB : B ≤ w.heap.size) (hg : w.grownBy w' row) (hs : ∀ b o, A = some ⟨b, o, none⟩ → row ≠ some b) : RdP w' w'.heap.size A n c ps := by
  refine ⟨h.1, h.2.1, h.2.2.1, h.2.2.2.1, fun hn => ?_⟩
  obtain ⟨b, o, rfl, hb, hc⟩ := h.at_ hn
  have hsz := hg.size
  refine ⟨b, o, rfl, by omega, fun k hk => ?_⟩
  have e : w'.heap[b]? = w.heap[b]? := hg.block b (by omega) (fun e => hs b o rfl e.symm)
  obtain ⟨c1, c2⟩ := hc k hk
  have key : ∀ j, w'.cell? ⟨b, j, none⟩ = w.cell? ⟨b, j, none⟩ := fun j => by unfold World.cell?; rw [e]
  exact ⟨(key _).trans c1, (key _).trans c2⟩
/-- at the head of the outer loop -/
def PrI (m : Nat) (ls : List Gr.Ln) (w : World) (k : Nat) (A : Option Addr) (nL c : Nat) (ov : Value) (W : World) : Prop :=
  ∃ L : List Gr.Ln, RdP W W.heap.size A nL c L ∧ nL ≤ 7 ∧ Pf.Lns m (Tr.ad ls) (Pf.gw m (Tr.ad ls) (fun _ => false) k) L ∧ Own W w.heap.size 3 ov (rowTo m ls k) ∧ (∀ b o, A = some ⟨b, o, none⟩ → ov.ownBlock ≠ some b) ∧ Below w.heap.size w W

set_option maxRecDepth 100000 in
set_option maxHeartbeats 8000000 in
theorem Prufer_any (m : Nat) (A : Option Addr) (k c : Nat) (ls : List Gr.Ln) (w : World) (hr : RdP w w.heap.size A k c ls) (ht : Tr.tcode (m : Int) ls = 0) (hm2 : 2 ≤ m) :
    Calls Tryd.prog 5 #[.int .i64 (m : Int), .slice A k c] w fun e w' => ∃ v, e = .returned v ∧ Own w' w.heap.size 3 v (upN (Pf.wr m ls)) ∧ Below w.heap.size w w' := by
  obtain ⟨hg, hT⟩ := Tr.tcode_zero.1 ht
  have hm8 : m ≤ 8 := by have := (Gr.code_zero.1 hg).2.1; omega
  have hk7 : k ≤ 7 := by have := hT.len; have := hr.len; omega
  have HTS := Lib.hid (Pf.tree_ts2 hT hm2)
  have H0 : PrI m ls w 0 A k c (.slice none 0 0) w := ⟨ls, hr, hk7, Pf.tree_lns hT, Own.nil _ _ _, (fun _ _ _ h => by cases h), Below.refl _ _⟩
  obtain ⟨r, hre⟩ : ∃ r, r = m - 2 := ⟨_, rfl⟩
  have hr2 : r + 2 = m := by omega
  have HR := Lib.hid hre
  clear ht hg hT hre
  go_enter Tryd.func5, Tryd.ntmps5
  go_wp2
  go_loopw [1, 5, 6, 7, 8, 9, 10, 11, 12] (fun lv ov _ _ _ _ _ _ _ wr => ∃ (q : Nat) (AL : Option Addr) (nL cL : Nat), q ≤ r ∧ lv = .slice AL nL cL ∧ PrI m ls w q AL nL cL ov wr) (fun _ ov _ _ _ _ _ _ _ _ => r - lenV ov)
  case atStart => exact ⟨0, A, k, c, Nat.zero_le _, rfl, H0⟩
  case round =>
    clear H0
    obtain ⟨q, AL, nL, cL, hq, rfl, L, hrl, hn7, hL, hown, hsep, hB⟩ := hrel
    obtain ⟨A5, c5, rfl, hr5⟩ := hown.rd
    rw [rowTo_len] at hr5 hown ⊢
    simp only [rowTo_len] at hsep
    have hbig := hrl.big
    have HL := Lib.hid hrl.len
    have HLN := Lib.hid hL
    clear hL
    by_cases hlt : q < r
    · have hlt' : (q : Int) < (m : Int) - 2 := by omega
      have HC0 : Hid (Pf.Ch m L 0 0 (m : Int) (-1)) := Pf.Ch.start m L
      go_wp2
      go_loop [6, 7, 8, 9, 10, 11, 12] (fun bv av iv _ _ _ _ => ∃ (i : Nat) (b a : Int), i ≤ nL ∧ iv = .int .i64 (i : Int) ∧ bv = .int .i64 b ∧ av = .int .i64 a ∧ Hid (Pf.Ch m L i 0 b a)) (fun _ _ iv _ _ _ _ => nL - (intOf iv).toNat)
      case atStart => exact ⟨0, (m : Int), -1, Nat.zero_le _, rfl, rfl, rfl, HC0⟩
      case round =>
        obtain ⟨i, b, a, hi, rfl, rfl, rfl, HCh⟩ := hrel
        by_cases hin : i < nL
        · have i0 : (0 : Int) ≤ (i : Int) := by omega
          have i1 : (i : Int) < (nL : Int) := by omega
          go_wp2
          go_loop [6, 7, 9, 10, 11, 12] (fun bv av sv _ _ _ => ∃ (s : Nat) (b a : Int), s ≤ 2 ∧ sv = .int .i64 (s : Int) ∧ bv = .int .i64 b ∧ av = .int .i64 a ∧ Hid (Pf.Ch m L i s b a)) (fun _ _ sv _ _ _ => 2 - (intOf sv).toNat)
          case atStart => exact ⟨0, b, a, Nat.zero_le _, rfl, rfl, rfl, HCh⟩
          case round =>
          clear HCh
          obtain ⟨s, b, a, hs, rfl, rfl, rfl, HCh⟩ := hrel
          obtain ⟨b1, o1, rfl, hb1, hcc⟩ := hrl.at_ (by omega)
          obtain ⟨c1, c2⟩ := hcc i hin
          have HCC := Lib.hid hcc
          clear hcc
          obtain rfl | rfl | rfl : s = 0 ∨ s = 1 ∨ s = 2 := by omega
          · -- end 0
            obtain ⟨p, hp⟩ : ∃ p, p = Pf.en L i 0 := ⟨_, rfl⟩
            have g2 : wr.cell? ⟨b1, o1 + i * 2, none⟩ = some (.int .i64 p) := by rw [hp]; exact c1
            have HPN : Hid (p = Pf.en L i 0) := hp
            clear hp c1 c2
            go_wp2
            go_loop [11, 12] (fun mv jv => ∃ j q : Nat, j ≤ nL ∧ q ≤ j ∧ jv = .int .i64 (j : Int) ∧ mv = .int .i64 (q : Int) ∧ Hid (q = Pf.manyTo L p j)) (fun _ jv => nL - (intOf jv).toNat)
            case atStart => exact ⟨0, 0, Nat.zero_le _, Nat.le_refl _, rfl, rfl, (Pf.manyTo_zero L p).symm⟩
            case round =>
              obtain ⟨j, q, hj, hqj, rfl, rfl, HQ⟩ := hrel
              by_cases hjl : j < nL
              · obtain ⟨d1, d2⟩ := HCC.out j hjl
                have hst := Pf.manyTo_succ (L := L) (p := p) (k := j) (by rw [HL.out]; exact hjl)
                obtain ⟨⟨x, y⟩, hxy⟩ : ∃ z, z = L.getD j (0, 0) := ⟨_, rfl⟩
                rw [← hxy] at d1 d2 hst
                simp only at d1 d2 hst
                have j0 : (0 : Int) ≤ (j : Int) := by omega
                have j1 : (j : Int) < (nL : Int) := by omega
                clear hxy
                by_cases hx : x = p
                · have e1 : (x == p) = true := by simpa using hx
                  have HN : Hid (q + 1 = Pf.manyTo L p (j + 1)) := by show _ = _; rw [hst, if_pos (.inl hx), HQ.out]
                  clear hx hst
                  go_wp2
                  go_round
                  case rel => exact ⟨j + 1, q + 1, by omega, by omega, by go_num, by go_num, HN⟩
                  case measure => simp [intOf]; omega
                · have e1 : (x == p) = false := by simpa using hx
                  by_cases hy : y = p
                  · have e2 : (y == p) = true := by simpa using hy
                    have HN : Hid (q + 1 = Pf.manyTo L p (j + 1)) := by show _ = _; rw [hst, if_pos (.inr hy), HQ.out]
                    clear hx hy hst
                    go_wp2
                    go_round
                    case rel => exact ⟨j + 1, q + 1, by omega, by omega, by go_num, by go_num, HN⟩
                    case measure => simp [intOf]; omega
                  · have e2 : (y == p) = false := by simpa using hy
                    have HN : Hid (q = Pf.manyTo L p (j + 1)) := by show _ = _; rw [hst, if_neg (fun h => h.elim hx hy), HQ.out]; rfl
                    clear hx hy hst
                    go_wp2
                    go_round
                    case rel => exact ⟨j + 1, q, by omega, by omega, by go_num, rfl, HN⟩
                    case measure => simp [intOf]; omega
              · obtain rfl : j = nL := by omega
                have HM : Hid (q = Pf.many L p) := by show _ = _; rw [HQ.out, ← HL.out, Pf.manyTo_all]
                by_cases hq : q = 1
                · have e1 : ((q : Int) == 1) = true := by simp [hq]
                  by_cases hlt : p < b
                  · have HN : Hid (Pf.Ch m L i (0 + 1) p (i : Int)) := by
                      have := HCh.out.yes (by omega) (by rw [← HPN.out, ← HM.out]; exact hq) (by rw [← HPN.out]; exact hlt)
                      rw [← HPN.out] at this
                      exact this
                    clear hq HQ
                    go_wp2
                    go_round
                    case rel => exact ⟨0 + 1, p, (i : Int), by omega, by go_num, rfl, rfl, HN⟩
                    case measure => simp [intOf]
                  · have e2 : decide (p < b) = false := by simpa using hlt
                    have HN : Hid (Pf.Ch m L i (0 + 1) b a) := HCh.out.no (.inr (by rw [← HPN.out]; omega))
                    clear hq HQ hlt
                    go_wp2
                    go_round
                    case rel => exact ⟨0 + 1, b, a, by omega, by go_num, rfl, rfl, HN⟩
                    case measure => simp [intOf]
                · have e1 : ((q : Int) == 1) = false := by simp; omega
                  have HN : Hid (Pf.Ch m L i (0 + 1) b a) := HCh.out.no (.inl (by rw [← HPN.out, ← HM.out]; exact hq))
                  clear hq HQ
                  go_wp2
                  go_round
                  case rel => exact ⟨0 + 1, b, a, by omega, by go_num, rfl, rfl, HN⟩
                  case measure => simp [intOf]
          · -- end 1
            obtain ⟨p, hp⟩ : ∃ p, p = Pf.en L i 1 := ⟨_, rfl⟩
            have c0 := c1
            obtain ⟨p0, hp0⟩ : ∃ p0, p0 = (L.getD i (0, 0)).1 := ⟨_, rfl⟩
            rw [← hp0] at c0
            have g2 : wr.cell? ⟨b1, o1 + i * 2 + 1, none⟩ = some (.int .i64 p) := by rw [hp]; exact c2
            have HPN : Hid (p = Pf.en L i 1) := hp
            clear hp c1 c2 hp0
            go_wp2
            go_loop [11, 12] (fun mv jv => ∃ j q : Nat, j ≤ nL ∧ q ≤ j ∧ jv = .int .i64 (j : Int) ∧ mv = .int .i64 (q : Int) ∧ Hid (q = Pf.manyTo L p j)) (fun _ jv => nL - (intOf jv).toNat)
            case atStart => exact ⟨0, 0, Nat.zero_le _, Nat.le_refl _, rfl, rfl, (Pf.manyTo_zero L p).symm⟩
            case round =>
              obtain ⟨j, q, hj, hqj, rfl, rfl, HQ⟩ := hrel
              by_cases hjl : j < nL
              · obtain ⟨d1, d2⟩ := HCC.out j hjl
                have hst := Pf.manyTo_succ (L := L) (p := p) (k := j) (by rw [HL.out]; exact hjl)
                obtain ⟨⟨x, y⟩, hxy⟩ : ∃ z, z = L.getD j (0, 0) := ⟨_, rfl⟩
                rw [← hxy] at d1 d2 hst
                simp only at d1 d2 hst
                have j0 : (0 : Int) ≤ (j : Int) := by omega
                have j1 : (j : Int) < (nL : Int) := by omega
                clear hxy
                by_cases hx : x = p
                · have e1 : (x == p) = true := by simpa using hx
                  have HN : Hid (q + 1 = Pf.manyTo L p (j + 1)) := by show _ = _; rw [hst, if_pos (.inl hx), HQ.out]
                  clear hx hst
                  go_wp2
                  go_round
                  case rel => exact ⟨j + 1, q + 1, by omega, by omega, by go_num, by go_num, HN⟩
                  case measure => simp [intOf]; omega
                · have e1 : (x == p) = false := by simpa using hx
                  by_cases hy : y = p
                  · have e2 : (y == p) = true := by simpa using hy
                    have HN : Hid (q + 1 = Pf.manyTo L p (j + 1)) := by show _ = _; rw [hst, if_pos (.inr hy), HQ.out]
                    clear hx hy hst
                    go_wp2
                    go_round
                    case rel => exact ⟨j + 1, q + 1, by omega, by omega, by go_num, by go_num, HN⟩
                    case measure => simp [intOf]; omega
                  · have e2 : (y == p) = false := by simpa using hy
                    have HN : Hid (q = Pf.manyTo L p (j + 1)) := by show _ = _; rw [hst, if_neg (fun h => h.elim hx hy), HQ.out]; rfl
                    clear hx hy hst
                    go_wp2
                    go_round
                    case rel => exact ⟨j + 1, q, by omega, by omega, by go_num, rfl, HN⟩
                    case measure => simp [intOf]; omega
              · obtain rfl : j = nL := by omega
                have HM : Hid (q = Pf.many L p) := by show _ = _; rw [HQ.out, ← HL.out, Pf.manyTo_all]
                by_cases hq : q = 1
                · have e1 : ((q : Int) == 1) = true := by simp [hq]
                  by_cases hlt : p < b
                  · have HN : Hid (Pf.Ch m L i (1 + 1) p (i : Int)) := by
                      have := HCh.out.yes (by omega) (by rw [← HPN.out, ← HM.out]; exact hq) (by rw [← HPN.out]; exact hlt)
                      rw [← HPN.out] at this
                      exact this
                    clear hq HQ
                    go_wp2
                    go_round
                    case rel => exact ⟨1 + 1, p, (i : Int), by omega, by go_num, rfl, rfl, HN⟩
                    case measure => simp [intOf]
                  · have e2 : decide (p < b) = false := by simpa using hlt
                    have HN : Hid (Pf.Ch m L i (1 + 1) b a) := HCh.out.no (.inr (by rw [← HPN.out]; omega))
                    clear hq HQ hlt
                    go_wp2
                    go_round
                    case rel => exact ⟨1 + 1, b, a, by omega, by go_num, rfl, rfl, HN⟩
                    case measure => simp [intOf]
                · have e1 : ((q : Int) == 1) = false := by simp; omega
                  have HN : Hid (Pf.Ch m L i (1 + 1) b a) := HCh.out.no (.inl (by rw [← HPN.out, ← HM.out]; exact hq))
                  clear hq HQ
                  go_wp2
                  go_round
                  case rel => exact ⟨1 + 1, b, a, by omega, by go_num, rfl, rfl, HN⟩
                  case measure => simp [intOf]
          · have HN : Hid (Pf.Ch m L (i + 1) 0 b a) := HCh.out.next
            clear c1 c2
            go_wp2
            go_round
            case rel => exact ⟨i + 1, b, a, by omega, by go_num, rfl, rfl, HN⟩
            case measure => simp [intOf]; omega
        · obtain rfl : i = nL := by omega
          have hTq := Pf.gw_ts HTS.out q (by rw [← HR.out]; omega)
          obtain ⟨k0, hk0, ha, hb, hsum, hless⟩ := Pf.Ch.end_ (by have := HCh.out; rw [← HL.out] at this; exact this) HLN.out hTq (by rw [← HR.out]; omega)
          obtain ⟨xa, ya, hxy, hxl, hyl, _⟩ := HLN.out.of (L[k0]) (List.getElem_mem hk0)
          have hgd : L.getD k0 (0, 0) = L[k0] := by simp [List.getD, hk0]
          have hnb : ((Pf.nb m (Tr.ad ls) (Pf.gw m (Tr.ad ls) (fun _ => false) q) (Pf.lf m (Tr.ad ls) (Pf.gw m (Tr.ad ls) (fun _ => false) q)) : Nat) : Int) = ((Pf.nbk m (Tr.ad ls) (fun _ => false) q : Nat) : Int) := rfl
          rw [hnb, hgd, hxy] at hsum
          have hlf := (hTq.lf_spec (by rw [← HR.out]; omega)).1
          obtain ⟨bl, hbl⟩ : ∃ bl, bl = Pf.lf m (Tr.ad ls) (Pf.gw m (Tr.ad ls) (fun _ => false) q) := ⟨_, rfl⟩
          rw [← hbl] at hb hlf
          obtain ⟨z, hz⟩ : ∃ z : Nat, z = Pf.nbk m (Tr.ad ls) (fun _ => false) q := ⟨_, rfl⟩
          rw [← hz] at hsum
          simp only at hsum
          have HROW := Lib.hid (rowTo_succ m ls q)
          rw [← hz] at HROW
          have HLESS : Hid (Pf.Lns m (Tr.ad ls) (Pf.gw m (Tr.ad ls) (fun _ => false) (q + 1)) (L.eraseIdx k0)) := hless
          have hle7 : (L.eraseIdx k0).length ≤ 7 := by
            have := List.length_eraseIdx_le L k0
            rw [HL.out] at this
            omega
          have hk0i : k0 < i := by rw [← HL.out]; exact hk0
          obtain ⟨b1, o1, rfl, hb1, hcc⟩ := hrl.at_ (by omega)
          obtain ⟨c1, c2⟩ := hcc k0 hk0i
          rw [hgd, hxy] at c1 c2
          simp only at c1 c2
          subst ha hb
          have hroom : (rowTo m ls q).length + 1 ≤ 17592186044416 := by rw [rowTo_len]; omega
          have hs := hB.size
          have k00 : (0 : Int) ≤ (k0 : Int) := by omega
          have k01 : (k0 : Int) < (i : Int) := by omega
          have hzz : (xa : Int) + (ya : Int) - (bl : Int) = (z : Int) := hsum
          have hzw : IntKind.i64.wrap (z : Int) = (z : Int) := by rw [IntKind.wrap_i64]; omega
          have hzx : IntKind.i64.wrap ((xa : Int) + (ya : Int) - (bl : Int)) = (z : Int) := by rw [IntKind.wrap_i64]; omega
          have hzv : IntKind.i64.wrap ((xa : Int) + (ya : Int)) = (xa : Int) + (ya : Int) := by rw [IntKind.wrap_i64]; omega
          have hownd : Own (wr.alloc (.cells #[.int .i64 (z : Int)] 3)).drew w.heap.size 3 (.slice A5 q c5) (rowTo m ls q) := Own.below (w := wr) hown (((Below.refl _ _).alloc (Nat.le_refl _) _).drew)
          have hBd : Below w.heap.size w (wr.alloc (.cells #[.int .i64 (z : Int)] 3)).drew := (hB.alloc (by exact hs) _).drew
          have hbW : Below wr.heap.size wr (wr.alloc (.cells #[.int .i64 (z : Int)] 3)).drew := ((Below.refl _ _).alloc (Nat.le_refl _) _).drew
          have hr6 := hrl.past hbW
          clear hTq hless hcc hnb hsum hz hbl hgd hxy
          have e1 : wr.drew.cell? ⟨b1, o1 + k0 * 2, none⟩ = some (.int .i64 (xa : Int)) := c1
          have e2 : wr.drew.cell? ⟨b1, o1 + k0 * 2 + 1, none⟩ = some (.int .i64 (ya : Int)) := c2
          have hbs : w.heap.size ≤ (wr.alloc (.cells #[.int .i64 (z : Int)] 3)).drew.heap.size := hBd.size
          go_wp2
          go_region_law (refine step_app (B := wr.heap.size + 1) _ rfl (.tmp 74) (.tmp 88) 23 rfl w.heap.size 3 Tryd.underlying23 intInfo (.slice A5 q c5) (rowTo m ls q) rfl hownd (some ⟨wr.heap.size, 0, none⟩) 1 1 [(z : Int)] rfl (Rd.one wr (z : Int) _).drew hroom hbs ?_; intro v3 w3 hown3 hg3 hat3)
          all_goals
            obtain ⟨A3, c3, hv3, _⟩ := hown3.rd
            rw [List.length_append, rowTo_len, List.length_singleton] at hv3
            subst hv3
            rw [← HROW.out] at hown3
            have hr7 := RdP_grown hr6 (Nat.le_refl _) hg3 hsep
            have hB3 : Below w.heap.size w w3 := hBd.grown hg3 hbs (fun x hx => hown.at_base x hx)
            have hs3 := hB3.size
            have hsep3 : ∀ x, (Value.slice A3 (q + 1) c3).ownBlock = some x → x < w3.heap.size := fun x hx => hown3.lt x hx
            clear hown hownd hr6 hg3 hat3 hsep hBd hbs
            go_wp2_with fail
            refine (But_any _ i cL k0 L _ hr7 (by omega)).mono ?_
            rintro e w8 ⟨v8, rfl, hown8, hb8⟩
            obtain ⟨A8, c8, rfl, hrd8⟩ := hown8.rd
            have hsep8 : ∀ b o, A8 = some ⟨b, o, none⟩ → (Value.slice A3 (q + 1) c3).ownBlock ≠ some b := fun b o e h => by
              have h1 := hsep3 b h
              have h2 := hown8.at_base b (by rw [e]; rfl)
              omega
            have hown9 := hown3.below hb8
            have hB9 := hB3.trans (hb8.mono hs3)
            obtain ⟨N8, hN8⟩ : ∃ N8, N8 = (L.eraseIdx k0).length := ⟨_, rfl⟩
            rw [← hN8] at hrd8 hle7 ⊢
            clear hown3 hown8 hr7 hb8 hB3 hN8
            go_wp2
            go_roundw
            case rel => exact ⟨q + 1, A8, N8, c8, by omega, rfl, L.eraseIdx k0, hrd8, hle7, HLESS.out, hown9, hsep8, hB9⟩
            case measure => simp [lenV]; omega
    · obtain rfl : q = r := by omega
      have hlt' : ¬ (q : Int) < (m : Int) - 2 := by omega
      have e : rowTo m ls q = upN (Pf.wr m ls) := by rw [HR.out]; exact rowTo_all m ls
      rw [e] at hown
      go_wp2
      go_ret
      exact ⟨_, rfl, hown, hB⟩

end Go.Proofs.YtnekbgeablhgiaaDoor.RefPr
