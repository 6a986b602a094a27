/-
  The contract of Name of package tree: the least name of a point of the middle, or what is wrong. No statement of the program is proved here; there is no condition.
-/
import Derived.Test.YtoofpmajiphldaaDoorTreeB
import Derived.Test.YtoofpmajiphldaaDoorTreeD
import Derived.Test.YtoofpmajiphldaaDoorMinT
namespace Go.Proofs.YtoofpmajiphldaaDoor
open Go.RowKit Go.Shelf
set_option linter.unusedSimpArgs false
set_option linter.unusedVariables false

set_option maxHeartbeats 400000 in
theorem Name_bad (n : Int) (A : Option Addr) (k c : Nat) (ls : List Gr.Ln) (w : World) (hr : RdP w w.heap.size A k c ls) (h : Tr.tcode n ls ≠ 0) :
    Calls Tryd.prog 14 #[.int .i64 n, .slice A k c] w fun e w' => e = .returned (.tuple #[.string ⟨#[]⟩, errv (Tr.tcode n ls)]) ∧ Below w.heap.size w w' := by
  have H := Lib.hid h
  clear h
  go_enter Tryd.func14, Tryd.ntmps14
  go_wp2_with fail
  refine (Middle_bad n A k c ls _ hr H.out).mono ?_
  rintro e w1 ⟨rfl, hb⟩
  go_wp2
  go_ret2
  exact ⟨rfl, hb⟩

/-- the names of the first points of the middle -/
def nmTo (m : Nat) (ls : List Gr.Ln) (i : Nat) : List (List Nat) := ((Tr.mids m (Tr.far m ls)).take i).map fun c => Nm.nm (Tr.ad ls) m m c m
theorem nmTo_zero (m : Nat) (ls : List Gr.Ln) : nmTo m ls 0 = [] := rfl
theorem nmTo_succ {m : Nat} {ls : List Gr.Ln} {i : Nat} (hi : i < (Tr.mids m (Tr.far m ls)).length) : nmTo m ls (i + 1) = nmTo m ls i ++ [Nm.nm (Tr.ad ls) m m ((Tr.mids m (Tr.far m ls)).getD i 0) m] := by
  unfold nmTo
  rw [List.take_succ_eq_append_getElem hi, List.map_append]
  simp [List.getD, hi]
theorem nmTo_len (m : Nat) (ls : List Gr.Ln) (i : Nat) : (nmTo m ls i).length ≤ i := by
  unfold nmTo
  rw [List.length_map, List.length_take]
  exact Nat.min_le_left _ _
theorem nmTo_all {m : Nat} {ls : List Gr.Ln} {L : Nat} (hL : L = (Tr.mids m (Tr.far m ls)).length) : Nm.least (nmTo m ls L) = Nm.wn (Tr.ad ls) m (Tr.far m ls) := by
  unfold nmTo Nm.wn
  rw [hL, List.take_length]

set_option maxRecDepth 100000 in
set_option maxHeartbeats 2000000 in
theorem Name_ok (m : Nat) (A : Option Addr) (k c : Nat) (ls : List Gr.Ln) (w : World) (hr : RdP w w.heap.size A k c ls) (h : Tr.tcode (m : Int) ls = 0) :
    Calls Tryd.prog 14 #[.int .i64 (m : Int), .slice A k c] w fun e w' => e = .returned (.tuple #[.string (Nm.bs (Nm.wn (Tr.ad ls) m (Tr.far m ls))), .nilIface]) ∧ Below w.heap.size w w' := by
  obtain ⟨hc, hT⟩ := Tr.tcode_zero.1 h
  have hm8 : m ≤ 8 := by have := (Gr.code_zero.1 hc).2.1; omega
  have hm1 : 1 ≤ m := by have := (Gr.code_zero.1 hc).1; omega
  have hmf : ∀ (fn : Fn) (first cap : Array Value) (w : World), (Instr.makeFunc fn first cap).run Tryd.prog w = .ok (.func fn first cap) w := fun _ _ _ _ => rfl
  have H := Lib.hid h
  have HC := Lib.hid hc
  have HT := Lib.hid hT
  clear h hc hT
  go_enter Tryd.func14, Tryd.ntmps14
  go_wp2_with fail
  refine (Middle_ok m A k c ls _ hr H.out).mono ?_
  rintro e w1 ⟨v, rfl, hown, hb1⟩
  obtain ⟨A1, c1, rfl, hrd⟩ := hown.rd
  obtain ⟨L, hL⟩ : ∃ L, L = (Tr.midI m ls m).length := ⟨_, rfl⟩
  have hLm : L ≤ m := by rw [hL]; exact Tr.midI_len m ls m
  have hLp : 1 ≤ L := by rw [hL]; exact Tr.midI_pos HT.out hm1
  rw [← hL] at hrd ⊢
  have HL := Lib.hid hL
  have hr1 := hr.past hb1
  clear hown hL
  go_wp2_with fail
  refine (Beside_any (m : Int) A k c ls _ hr1).mono ?_
  rintro e w2 ⟨hb2, (⟨h0, _⟩ | ⟨_, A2, c2, rfl, hrows⟩)⟩
  · exact absurd HC.out h0
  rw [Int.toNat_natCast] at hrows ⊢
  obtain ⟨s, hs⟩ : ∃ s, s = w2.heap.size := ⟨_, rfl⟩
  obtain ⟨x1, hx1⟩ : ∃ x1, x1 = (w2.alloc (.cells #[.slice A2 m c2] 32)).alloc (.cells #[.func (.func 25) #[] #[.pointer (some ⟨s, 0, none⟩), .pointer (some ⟨s + 1, 0, none⟩)]] 52) := ⟨_, rfl⟩
  have hbx : Below s w2 x1 := by rw [hx1, hs]; exact ((Below.refl _ _).alloc (Nat.le_refl _) _).alloc (by simp) _
  have hsx : x1.heap.size = s + 2 := by rw [hx1, hs]; simp
  have hGx : SeG s s (s + 1) m A2 c2 ls x1 := by
    refine ⟨by omega, (by rw [← hs] at hrows; exact hrows.below hbx), ?_, ?_⟩
    · rw [hx1, hs]
      exact ((Boxed.new w2 _ _).alloc _).cell
    · have := Boxed.new (w2.alloc (.cells #[.slice A2 m c2] 32)) 52 (.func (.func 25) #[] #[.pointer (some ⟨s, 0, none⟩), .pointer (some ⟨s + 1, 0, none⟩)])
      rw [World.size_alloc, ← hs] at this
      rw [hx1]
      exact this.cell
  have hb12 := hb2.size
  rw [← hs] at hb12
  have hw1s := hb1.size
  have hrdx : Rd x1 w1.heap.size A1 L c1 (Tr.midI m ls m) := (hrd.below hb2).below (hbx.mono hb12)
  have hbwx : Below w.heap.size w x1 := (hb1.trans (hb2.mono hb1.size)).trans (hbx.mono (by omega))
  have HS := Lib.hid hs
  have HX := Lib.hid hx1
  have ho0 : OwnT x1 (s + 2) 9 (.slice none 0 0) ((nmTo m ls 0).map Nm.bs) := OwnT.nil _ _ _
  have hB0 : Below (s + 2) x1 x1 := Below.refl _ _
  clear hs hx1 hb2 hrows hr1 hb1 hrd hbx hr
  go_wp2
  rw [← HS.out, ← HX.out]
  go_loopw [11, 13, 36] (fun nv _ iv wr => ∃ i : Nat, i ≤ L ∧ iv = .int .i64 (i : Int) ∧ OwnT wr (s + 2) 9 nv ((nmTo m ls i).map Nm.bs) ∧ Below (s + 2) x1 wr) (fun _ _ iv _ => L - (intOf iv).toNat)
  case atStart => exact ⟨0, Nat.zero_le _, rfl, ho0, hB0⟩
  case round =>
    clear ho0 hB0
    obtain ⟨i, hi, rfl, hown, hbw⟩ := hrel
    have hws := hbw.size
    rw [hsx] at hws
    by_cases hlt : i < L
    · have hGw := hGx.below (s := s + 2) (by omega) (by omega) (by omega) hbw
      have hrdw := hrdx.below (hbw.mono (show w1.heap.size ≤ s + 2 by omega))
      obtain ⟨b1, o1, rfl, hbl1, hc1⟩ := hrdw.at_ (by omega)
      have g1 := hc1 i hlt
      have hil : i < (Tr.midI m ls m).length := by rw [← HL.out]; exact hlt
      obtain ⟨e1, e2⟩ := Tr.midI_at ls hil
      rw [e1] at g1
      have hN := nmTo_succ (ls := ls) (m := m) (i := i) (by rw [Tr.mids_len]; exact hil)
      obtain ⟨v, hv⟩ : ∃ v, v = (Tr.mids m (Tr.far m ls)).getD i 0 := ⟨_, rfl⟩
      rw [← hv] at g1 e2 hN
      have HN := Lib.hid hN
      have g2 := hGw.2.2.2
      have i1 : (0 : Int) ≤ (i : Int) := by omega
      have i2 : (i : Int) < (L : Int) := by omega
      have HR : Hid (((nmTo m ls i).map Nm.bs).length + 1 ≤ 1000000) := by show _ ≤ _; rw [List.length_map]; have := nmTo_len m ls i; omega
      clear hc1 hil e1 hN hv
      go_wp2_with (first
        | (go_at_call 25; refine (seen_any s s (s + 1) m A2 c2 ls hm8 HT.out v e2 _ hGw).mono ?_; rintro e w5 ⟨rfl, hb5⟩; have hown5 := hown.below hb5; have h5s := hb5.size)
        | (at_builtin; refine wpList_appT _ rfl (.tmp 40) (.tmp 44) 53 rfl (s + 2) 9 Tryd.underlying53 infoT u11 _ rfl (hown5.below ((Below.refl _ _).alloc (Nat.le_refl _) _)) (some ⟨w5.heap.size, 0, none⟩) 1 1 [Nm.bs (Nm.nm (Tr.ad ls) m m v m)] rfl (RdT.one _ _ _) HR.out (by simp; omega) ?_; intro v' w6 hown6 hgrow hat))
      go_roundw
      case rel =>
        have hb05 : Below (s + 2) x1 w5 := hbw.trans (hb5.mono (by omega))
        have hba : Below (s + 2) x1 (w5.alloc (.cells #[.string (Nm.bs (Nm.nm (Tr.ad ls) m m v m))] 9)) := hb05.alloc (by omega) _
        exact ⟨i + 1, by omega, by go_num, by rw [HN.out, List.map_append]; exact hown6, hba.grown hgrow (by simp; omega) hown5.at_base⟩
      case measure => simp [intOf]; omega
    · obtain rfl : i = L := by omega
      have hlm : (nmTo m ls i).length = i := by
        unfold nmTo
        rw [List.length_map, List.length_take, Tr.mids_len, ← HL.out]
        omega
      obtain ⟨A3, c3, rfl, hrd3⟩ := hown.rd
      rw [List.length_map, hlm] at hrd3 ⊢
      have hsm : ∀ x ∈ nmTo m ls i, Nm.Sm x := fun x hx => by
        unfold nmTo at hx
        obtain ⟨y, _, rfl⟩ := List.mem_map.1 hx
        exact Nm.nm_sm _ _ _
      have HM := Lib.hid (MinT_any A3 i c3 (nmTo m ls i) hsm wr hrd3 hLp)
      have HW := Lib.hid (nmTo_all (m := m) (ls := ls) (L := i) (by rw [Tr.mids_len]; exact HL.out))
      have hbf := hbwx.trans (hbw.mono (by omega))
      clear hown hrd3 hsm hlm hGx hrdx
      go_wp2_with fail
      refine HM.out.mono ?_
      rintro e w7 ⟨rfl, rfl⟩
      go_wp2
      go_ret2
      exact ⟨by rw [← HW.out]; rfl, hbf⟩

end Go.Proofs.YtoofpmajiphldaaDoor
