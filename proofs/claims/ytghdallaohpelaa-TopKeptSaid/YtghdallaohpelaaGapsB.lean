/-
  Contracts of package gaps: Write and Read.
-/
import Derived.Test.YtghdallaohpelaaGapsA
namespace Go.Proofs.Ytghdallaohpelaa
open Go.RowKit

/-- what Write hands back -/
def WritePost (w w' : World) (l : List Int) (e : Ending) : Prop :=
  Below w.heap.size w w' ∧ ((Ga.code l ≠ 0 ∧ e = .returned (.tuple #[.slice none 0 0, errv (Ga.code l)])) ∨
    ∃ v, Ga.code l = 0 ∧ e = .returned (.tuple #[v, .nilIface]) ∧ Own w' w.heap.size 3 v (Ga.write l))

set_option maxHeartbeats 400000 in
theorem Write_any (A : Option Addr) (n c : Nat) (l : List Int) (w : World) (hr : Rd w w.heap.size A n c l) :
    Calls Try.prog 14 #[.slice A n c] w fun e w' => WritePost w w' l e := by
  have HX := Lib.hid hr.len
  have hbig := hr.big
  by_cases hc : Ga.code l = 0
  · have HE := Lib.hid (errOf_zero hc)
    have hn30 := (Ga.code_zero hc).1
    rw [HX.out] at hn30
    have hnums := Ga.nums_nums hc
    have hgl : (Ga.gaps (-1) l).length ≤ 30 := by rw [Ga.gaps_len, HX.out]; exact hn30
    have HC := Lib.hid hc
    have hnl : Hid (Ga.nums l = [(n : Int) + 1] ++ Ga.gaps (-1) l) := by show _ = _; unfold Ga.nums; rw [HX.out]; rfl
    clear hc
    go_enter Try.func14, Try.ntmps14
    go_wp2_with fail
    refine (Check_any _ _ _ _ _ hr).mono ?_
    rintro e w' ⟨rfl, rfl⟩
    rw [HE.out]
    go_wp2_with fail
    refine (gapsOf_any _ _ _ l _ ((hr.alloc (Nat.le_refl _) _).more (by simp)) HC.out).mono ?_
    rintro e w1 ⟨v1, rfl, hown1, hb1⟩
    obtain ⟨A1, c1, rfl, hr1⟩ := hown1.rd
    have hs1 := hb1.size
    simp at hs1
    have hone := (Own.one w w.heap.size 3 ((n : Int) + 1) (Nat.le_refl _)).below hb1
    have hbw : Below w.heap.size w w1 := ((Below.refl _ _).alloc (Nat.le_refl _) _).trans (hb1.mono (by simp))
    go_wp2_with (at_builtin; refine wpList_app _ rfl (.tmp 13) (.tmp 15) _ rfl w.heap.size 3 Try.underlying31 intInfo _ _ rfl hone _ _ _ _ rfl hr1 (by simp; omega) (by omega) ?_; intro v2 w2 hown2 hg2 hat2)
    have hb2 := below_app hbw hone hg2 (by omega)
    have hs2 := hb2.size
    rw [← hnl.out] at hown2
    obtain ⟨A2, c2, rfl, hr2⟩ := hown2.rd
    refine (deltasOf_any _ _ _ _ _ hr2 hnums (by rw [Ga.nums_len, HX.out]; omega)).mono ?_
    rintro e w3 ⟨v3, rfl, hown3, hb3⟩
    go_wp2
    go_ret2
    exact ⟨hb2.trans (hb3.mono hs2), .inr ⟨_, HC.out, rfl, hown3.mono hs2⟩⟩
  · have HE := Lib.hid (errOf_pos hc)
    have HC := Lib.hid hc
    clear hc
    go_enter Try.func14, Try.ntmps14
    go_wp2_with fail
    refine (Check_any _ _ _ _ _ hr).mono ?_
    rintro e w' ⟨rfl, rfl⟩
    rw [HE.out]
    go_wp2
    go_ret2
    exact ⟨Below.refl _ _, .inl ⟨HC.out, rfl⟩⟩

/-- the number of the error of Read, and its list -/
def gcode (bs : List Int) : Int := if rcode (El.readD bs) bs = 0 then Ga.rcode ((El.readD bs).getD []) else rcode (El.readD bs) bs
def glist (bs : List Int) : List Int := Ga.rlist ((El.readD bs).getD [])
theorem gcode_first {bs : List Int} (h : rcode (El.readD bs) bs ≠ 0) : gcode bs = rcode (El.readD bs) bs := if_neg h
theorem gcode_then {bs ns : List Int} (h : rcode (El.readD bs) bs = 0) (h1 : El.readD bs = some ns) : gcode bs = Ga.rcode ns := by
  unfold gcode
  rw [if_pos h, h1]
  rfl
theorem glist_then {bs ns : List Int} (h1 : El.readD bs = some ns) : glist bs = Ga.rlist ns := by
  unfold glist
  rw [h1]
  rfl
/-- what Read hands back -/
def GReadPost (w w' : World) (bs : List Int) (e : Ending) : Prop :=
  Below w.heap.size w w' ∧ ((gcode bs ≠ 0 ∧ e = .returned (.tuple #[.slice none 0 0, errv (gcode bs)])) ∨
    ∃ v, gcode bs = 0 ∧ e = .returned (.tuple #[v, .nilIface]) ∧ Own w' w.heap.size 3 v (glist bs))

set_option maxHeartbeats 1000000 in
theorem Read_any (A : Option Addr) (n c : Nat) (bs : List Int) (w : World) (hr : Rd w w.heap.size A n c bs) :
    Calls Try.prog 17 #[.slice A n c] w fun e w' => GReadPost w w' bs e := by
  go_enter Try.func17, Try.ntmps17
  go_wp2_with fail
  refine (ReadDelta_any _ _ _ _ _ hr).mono ?_
  rintro e w1 ⟨hb1, ⟨h0, rfl⟩ | ⟨v, ns, h0, h1, rfl, hown⟩⟩
  · have HG := Lib.hid (gcode_first h0)
    have H0 := Lib.hid h0
    clear h0
    go_wp2
    go_ret2
    unfold GReadPost
    rw [HG.out]
    exact ⟨hb1, .inl ⟨H0.out, rfl⟩⟩
  · have HG := Lib.hid (gcode_then h0 h1)
    have HL := Lib.hid (glist_then h1)
    have hnums := (El.readD_some (rcode_zero h0).2.1 h1).2
    clear h0 h1
    obtain ⟨A1, c1, rfl, hr1⟩ := hown.rd
    have hs1 := hb1.size
    have hbig := hr1.big
    have hle := hr1.le
    obtain ⟨m, hm⟩ : ∃ m, m = ns.length := ⟨_, rfl⟩
    rw [← hm] at hr1 hbig hle ⊢
    have HM := Lib.hid hm
    clear hm
    by_cases hz : m = 0
    · subst hz
      have hcode : Hid (gcode bs = 5) := by show _ = _; rw [HG.out, Ga.rcode_none HM.out.symm]
      go_wp2
      go_ret2
      unfold GReadPost
      rw [hcode.out]
      exact ⟨hb1, .inl ⟨by omega, rfl⟩⟩
    · have hmp : 0 < m := by omega
      have hz' : ((m : Int) == 0) = false := by simp; omega
      clear hz
      by_cases h31 : 31 < m
      · have hcode : Hid (gcode bs = 4) := by show _ = _; rw [HG.out, Ga.rcode_full (by rw [← HM.out]; exact h31)]
        go_wp2
        go_ret2
        unfold GReadPost
        rw [hcode.out]
        exact ⟨hb1, .inl ⟨by omega, rfl⟩⟩
      · obtain ⟨b, off, rfl, hbb, hcl⟩ := hr1.at_ hmp
        have g0 := hcl 0 hmp
        clear hcl
        obtain ⟨p, hp⟩ : ∃ p, p = ns.getD 0 0 := ⟨_, rfl⟩
        rw [← hp, Nat.add_zero] at g0
        have HP := Lib.hid hp
        clear hp
        by_cases hpm : p = (m : Int)
        · subst hpm
          have hmm : ((m : Int) != (m : Int)) = false := by simp
          have hok : Hid (∀ l, Ga.list (-1) ns.tail = some l → gcode bs = 0 ∧ glist bs = l) := by
            intro l hl
            rw [HG.out, HL.out]
            exact ⟨Ga.rcode_ok (by rw [← HM.out]; omega) (by rw [← HM.out]; omega) (by rw [← HM.out, ← HP.out]) hl, Ga.rlist_ok hl⟩
          have hno : Hid (Ga.list (-1) ns.tail = none → gcode bs = 1) := by
            intro hl
            rw [HG.out]
            exact Ga.rcode_range (by rw [← HM.out]; omega) (by rw [← HM.out]; omega) (by rw [← HM.out, ← HP.out]) hl
          have hnt : El.Nums ns.tail := fun x hx => hnums x (List.mem_of_mem_tail hx)
          have hcap := hr1.cap
          have htl : ns.tail.length = m - 1 := by rw [List.length_tail, ← HM.out]
          by_cases hc1 : c1 = 1
          · subst hc1
            have hrt := Rd.empty w1 w1.heap.size ⟨b, off, none⟩ 0 0 ns.tail (by omega) rfl (by omega)
            clear htl
            go_wp2_with fail
            refine (listOf_any _ _ _ _ _ hrt hnt (by omega)).mono ?_
            rintro e w2 ⟨hb2, ⟨hn, rfl⟩ | ⟨v2, l, hl, rfl, hown2⟩⟩
            · have hcode := Lib.hid (hno.out hn)
              clear hn
              go_wp2
              go_ret2
              unfold GReadPost
              rw [hcode.out]
              exact ⟨hb1.trans (hb2.mono hs1), .inl ⟨by omega, rfl⟩⟩
            · have hcode := Lib.hid (hok.out l hl)
              clear hl
              go_wp2
              go_ret2
              unfold GReadPost
              rw [hcode.out.1, hcode.out.2]
              exact ⟨hb1.trans (hb2.mono hs1), .inr ⟨_, rfl, rfl, hown2.mono hs1⟩⟩
          · have hrt := hr1.tail (by omega) hc1
            clear htl
            go_wp2_with fail
            refine (listOf_any _ _ _ _ _ hrt hnt (by omega)).mono ?_
            rintro e w2 ⟨hb2, ⟨hn, rfl⟩ | ⟨v2, l, hl, rfl, hown2⟩⟩
            · have hcode := Lib.hid (hno.out hn)
              clear hn
              go_wp2
              go_ret2
              unfold GReadPost
              rw [hcode.out]
              exact ⟨hb1.trans (hb2.mono hs1), .inl ⟨by omega, rfl⟩⟩
            · have hcode := Lib.hid (hok.out l hl)
              clear hl
              go_wp2
              go_ret2
              unfold GReadPost
              rw [hcode.out.1, hcode.out.2]
              exact ⟨hb1.trans (hb2.mono hs1), .inr ⟨_, rfl, rfl, hown2.mono hs1⟩⟩
        · have hne : (p != (m : Int)) = true := by simpa using hpm
          have hcode : Hid (gcode bs = 3) := by show _ = _; rw [HG.out, Ga.rcode_shape (by rw [← HM.out]; omega) (by rw [← HM.out]; omega) (by rw [← HM.out, ← HP.out]; exact hpm)]
          clear hpm
          go_wp2
          go_ret2
          unfold GReadPost
          rw [hcode.out]
          exact ⟨hb1, .inl ⟨by omega, rfl⟩⟩

end Go.Proofs.Ytghdallaohpelaa
