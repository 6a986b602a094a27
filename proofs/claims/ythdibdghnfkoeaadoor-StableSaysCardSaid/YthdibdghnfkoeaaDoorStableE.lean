/-
  Contracts of package stable: Pairs.
-/
import Derived.Test.YthdibdghnfkoeaaDoorStableD
import Derived.Test.YthdibdghnfkoeaaDoorLibT
namespace Go.Proofs.YthdibdghnfkoeaaDoor
open Go.RowKit Go.Shelf

attribute [local go_sem] Oper.semAt_some
set_option linter.unusedSimpArgs false
set_option linter.unusedVariables false

theorem Pairs_err (A B : Option Addr) (k m c d : Nat) (left right : List (List Int)) (w : World) (hl : RdR w w.heap.size A k c left) (hr : RdR w w.heap.size B m d right) (h : St.code left right ≠ 0) :
    Calls Tryd.prog 8 #[.slice A k c, .slice B m d] w fun e w' => e = .returned (.tuple #[.slice none 0 0, errv (St.code left right)]) ∧ Below w.heap.size w w' := by
  have H := Lib.hid h
  clear h
  go_enter Tryd.func8, Tryd.ntmps8
  go_wp2_with fail
  refine (SCheck_any A B k m c d left right _ hl hr).mono ?_
  rintro e w1 ⟨rfl, hb⟩
  rw [errOf_pos H.out]
  go_wp2
  go_ret2
  exact ⟨rfl, hb⟩

theorem six_new (w : World) : ArI (w.alloc (.cells #[.int .i64 0, .int .i64 0, .int .i64 0, .int .i64 0, .int .i64 0, .int .i64 0] 46)) w.heap.size 46 (List.replicate 6 0) := ArI.new w _ (List.replicate 6 0)

namespace St
/-- the pairs that are laid once the right ones below j are done -/
def PlI (n j : Nat) (g : List Nat) (zs : List Int) : Prop := zs.length = n ∧ ∀ i, i < n → g.getD i 0 < j → zs.getD i 0 = ((g.getD i 0 : Nat) : Int)
theorem PlI.step {n j : Nat} {g : List Nat} {zs : List Int} (hg : Pr n g) (h : PlI n j g zs) {i : Nat} (hi : i < n) (e : g.getD i 0 = j) : PlI n (j + 1) g (zs.set i (j : Int)) := by
  refine ⟨by rw [List.length_set]; exact h.1, fun a ha hlt => ?_⟩
  rw [set_getI _ _ _ _ (by rw [h.1]; exact hi)]
  by_cases ea : a = i
  · subst ea; rw [if_pos rfl, e]
  · rw [if_neg ea]
    refine h.2 a ha ?_
    have : g.getD a 0 ≠ g.getD i 0 := fun e2 => ea (hg.at_inj ha hi e2)
    omega
theorem PlI.all {n : Nat} {g : List Nat} {zs : List Int} (hg : Pr n g) (h : PlI n n g zs) : zs = up g := by
  refine List.ext_getElem (by rw [h.1, up_len, hg.1]) fun i h1 h2 => ?_
  have hi : i < n := by rw [← h.1]; exact h1
  have := h.2 i hi (hg.at_lt hi)
  rw [← up_at] at this
  simpa [List.getD, h1, h2] using this
end St

set_option maxHeartbeats 1000000 in
theorem Pairs_ok (n : Nat) (A B : Option Addr) (c d : Nat) (left right : List (List Int)) (w : World) (hl : RdR w w.heap.size A n c left) (hr : RdR w w.heap.size B n d right) (h : St.code left right = 0) :
    Calls Tryd.prog 8 #[.slice A n c, .slice B n d] w fun e w' => ∃ v g, e = .returned (.tuple #[v, .nilIface]) ∧ St.Opt n (St.pl left) (St.pl right) g ∧ Own w' w.heap.size 3 v (St.up g) ∧ Below w.heap.size w w' := by
  obtain ⟨i0, hi, hz0, hz1, hz2⟩ := info_parts intInfo
  have H := Lib.hid h
  have hcz := St.code_zero.1 h
  rw [hl.len] at hcz
  have h6 := hcz.1
  have HK := Lib.hid hcz.2.1
  have HK2 := Lib.hid hcz.2.2
  clear h hcz
  go_enter Tryd.func8, Tryd.ntmps8
  go_wp2_with fail
  refine (SCheck_any A B n n c d left right _ hl hr).mono ?_
  rintro e w1 ⟨rfl, hb1⟩
  rw [errOf_zero H.out]
  have hl1 := hl.past hb1
  have hr1 := hr.past hb1
  go_wp2_with fail
  refine (placesOf_any n h6 B d right _ hr1 HK2.out).mono ?_
  rintro e w2 ⟨ts, rfl, hts, hb2⟩
  have hl2 := hl1.past hb2
  have HT := Lib.hid hts
  clear hts
  go_wp2_with fail
  refine (accepted_any n h6 A c left right ts _ hl2 HK.out HK2.out HT.out).mono ?_
  rintro e w3 ⟨es, g, rfl, hes, hopt, hinv, hb3⟩
  have HE := Lib.hid hes
  have HO := Lib.hid hopt
  have HV := Lib.hid hinv
  clear hes hopt hinv
  have hb13 := (hb1.trans (hb2.mono hb1.size)).trans (hb3.mono (Nat.le_trans hb1.size hb2.size))
  clear hb1 hb2 hb3 hl1 hr1 hl2 HT
  have hs3 := hb13.size
  have t0 := six_new w3
  have hinf : (Tryd.prog.info? 46).map (·.size) = some es.length := by rw [HE.out]; exact sixInfo
  have hl6 : (List.replicate 6 (0 : Int)).length = es.length := by rw [HE.out]; simp
  go_wp2_with (first
    | (refine wpList_storeA rfl 46 (.tmp 7) (.tmp 19) rfl _ rfl es rfl _ _ t0 hinf hl6 ?_; intro w4 u1 u2 u3 u4; rw [World.size_alloc] at u4; have hb4 : Below w.heap.size w w4 := (hb13.alloc hs3 _).trans (u3 _ hs3); have hs4 := hb4.size)
    | (at_make; refine wpList_make_full _ rfl (.tmp 21) (.tmp 21) 23 rfl w4.heap.size 3 i0 (.int .i64 0) 1 Tryd.underlying23 hi hz0 hz1 .i64 .i64 _ _ n rfl rfl (by omega) (by omega) (by rw [hz2]; omega) (by simp only [maxLen]; omega) (Nat.le_refl _) ?_; intro w5 hown5 hg5; have hown := Own.made hown5; clear hown5))
  rw [u4] at hown
  have hb5 : Below w.heap.size w w5 := hb4.grown hg5 hs4 (fun _ e => by cases e)
  have t5 : ArI w5 w3.heap.size 46 es := u1.same (hg5.block _ (by rw [u4]; omega) (fun e => by cases e))
  have hP0 : St.PlI n 0 g (List.replicate n 0) := ⟨by simp, fun i _ hlt => by omega⟩
  clear u1 u2 u3 u4 hb13 t0 hinf hl6 hg5 hb4 hs4
  obtain ⟨b, hb⟩ : ∃ b, b = w3.heap.size := ⟨_, rfl⟩
  rw [← hb] at hown t5 hs3 ⊢
  clear hb
  go_loopw [9, 25] (fun _ i wr => ∃ j : Nat, j ≤ n ∧ i = .int .i64 j ∧ ∃ zs, ArI wr b 46 es ∧ Own wr (b + 1) 3 (.slice (some ⟨b + 1, 0, none⟩) n n) zs ∧ Hid (St.PlI n j g zs) ∧ Below w.heap.size w wr) (fun _ i _ => n - (intOf i).toNat)
  case atStart => exact ⟨0, Nat.zero_le _, rfl, _, t5, hown, hP0, hb5⟩
  case round =>
    clear hown t5 hP0 hb5
    obtain ⟨j, hj, rfl, zs, t5, hown, hP, hbel⟩ := hrel
    by_cases hlt : j < n
    · obtain ⟨i, hin, e⟩ := HO.out.1.by hlt
      have g1 : wr.cell? ⟨b, j, none⟩ = some (.int .i64 (i : Int)) := by
        rw [← HV.out i hin, e]
        exact t5.cell (by rw [HE.out]; omega)
      have g2 := hown.cell i hin
      have hf := hown.frozen i
      obtain ⟨hst, hgr⟩ := hown.store i (j : Int)
      have ht6 := t5.other (a := ⟨b + 1, i, none⟩) (.int .i64 (j : Int)) (by simp)
      have hP2 : Hid (St.PlI n (j + 1) g (zs.set i (j : Int))) := hP.out.step HO.out.1 hin e
      have hb6 : Below w.heap.size w (wr.setCell ⟨b + 1, i, none⟩ (.int .i64 (j : Int))) := hbel.setCell (by simp; omega) _
      clear e hP hgr t5 hown
      go_wp2
      go_roundw
      case rel => exact ⟨j + 1, by omega, by push_cast; rfl, _, ht6, hst, hP2, hb6⟩
      case measure => simp [intOf]; omega
    · obtain rfl : j = n := by omega
      have hz := hP.out.all HO.out.1
      have HZ := Lib.hid hz
      clear hz hP
      go_wp2
      go_ret2
      exact ⟨_, g, rfl, HO.out, by rw [← HZ.out]; exact hown.mono (by omega), hbel⟩

end Go.Proofs.YthdibdghnfkoeaaDoor
