/-
  Contracts of brambleweirref1 on lines: Goes, Beside, Near, Lines.
-/
import Derived.Test.YtojkjdccjomaaaaGraphE
namespace Go.Proofs.Ytojkjdccjomaaaa.RefL
open Go.RowKit


set_option maxHeartbeats 1000000 in
theorem Goes_any (A : Option Addr) (n c : Nat) (ls : List Gr.Ln) (a b : Int) (t : Bool) (w : World) (hr : RdP w w.heap.size A n c ls) (ht : Gr.has ls a b = t) :
    Calls Try.prog 28 #[.slice A n c, .int .i64 a, .int .i64 b] w fun e w' => e = .returned (.bool t) ∧ w = w' := by
  have HX := Lib.hid hr.len
  have HT := Lib.hid ht
  clear ht
  have hbig := hr.big
  go_enter Try.func28, Try.ntmps28
  go_wp2
  go_loop [7] (fun i => ∃ k : Nat, k ≤ n ∧ i = .int .i64 k ∧ Hid (t = (ls.drop k).contains (a, b))) (fun i => n - (intOf i).toNat)
  case atStart => exact ⟨0, Nat.zero_le _, rfl, by show _ = _; rw [← HT.out]; rfl⟩
  case round =>
    obtain ⟨k, hk, rfl, H⟩ := hrel
    by_cases hlt : k < n
    · obtain ⟨b1, o1, rfl, hbb, hcc⟩ := hr.at_ (by omega)
      obtain ⟨g1, g2⟩ := hcc k hlt
      clear hcc
      obtain ⟨⟨p, q⟩, hp⟩ : ∃ p, p = ls.getD k (0, 0) := ⟨_, rfl⟩
      rw [← hp] at g1 g2
      have HP := Lib.hid hp
      clear hp
      simp only at g1 g2
      by_cases he : p = a ∧ q = b
      · obtain ⟨rfl, rfl⟩ := he
        have hfin : Hid (t = true) := by show _ = _; rw [← HT.out]; exact has_at (by rw [HX.out]; exact hlt) _ HP.out rfl
        go_wp2
        go_ret
        exact ⟨by rw [hfin.out]; rfl, rfl⟩
      · have hnext : Hid (t = (ls.drop (k + 1)).contains (a, b)) := by
          show _ = _
          rw [H.out, has_drop (by rw [HX.out]; exact hlt) _ HP.out (by intro e; simp only [Prod.mk.injEq] at e; exact he e)]
        by_cases hpa : p = a
        · subst hpa
          have hd : (q == b) = false := by simpa using he
          clear he
          go_wp2
          go_round
          case rel => exact ⟨k + 1, by omega, by go_num, hnext⟩
          case measure => simp [intOf]; omega
        · have hd : (p == a) = false := by simpa using hpa
          clear he hpa
          go_wp2
          go_round
          case rel => exact ⟨k + 1, by omega, by go_num, hnext⟩
          case measure => simp [intOf]; omega
    · have hfin : Hid (t = false) := by
        show _ = _
        rw [H.out, List.drop_eq_nil_of_le (by rw [HX.out]; omega)]; rfl
      go_wp2
      go_ret
      exact ⟨by rw [hfin.out]; rfl, rfl⟩

theorem Beside_any (A : Option Addr) (n c : Nat) (ls : List Gr.Ln) (a b : Int) (t : Bool) (w : World) (hr : RdP w w.heap.size A n c ls) (ht : Gr.adj ls a b = t) :
    Calls Try.prog 16 #[.slice A n c, .int .i64 a, .int .i64 b] w fun e w' => e = .returned (.bool t) ∧ w = w' := by
  cases h1 : Gr.has ls a b
  · have h2 : Gr.has ls b a = t := by rw [← ht]; unfold Gr.adj; rw [h1]; rfl
    clear ht
    have H1 := Lib.hid h1
    have H2 := Lib.hid h2
    clear h1 h2
    go_enter Try.func16, Try.ntmps16
    go_wp2_with fail
    refine (Goes_any A n c ls a b false _ hr H1.out).mono ?_
    rintro e w1 ⟨rfl, rfl⟩
    go_wp2_with fail
    refine (Goes_any A n c ls b a t _ hr H2.out).mono ?_
    rintro e w2 ⟨rfl, rfl⟩
    go_wp2
    go_ret
    exact ⟨rfl, rfl⟩
  · have h2 : Hid (t = true) := by show _ = _; rw [← ht]; unfold Gr.adj; rw [h1]; rfl
    clear ht
    have H1 := Lib.hid h1
    clear h1
    go_enter Try.func16, Try.ntmps16
    go_wp2_with fail
    refine (Goes_any A n c ls a b true _ hr H1.out).mono ?_
    rintro e w1 ⟨rfl, rfl⟩
    go_wp2
    go_ret
    exact ⟨by rw [h2.out]; rfl, rfl⟩

/-- the points beside a, up to b -/
def rowTo (ls : List Gr.Ln) (a b : Nat) : List Int := ((List.range b).filter fun b : Nat => Gr.adj ls (a : Int) (b : Int)).map fun b => ((b : Nat) : Int)
theorem rowTo_hit {ls : List Gr.Ln} {a b : Nat} (h : Gr.adj ls (a : Int) (b : Int) = true) : rowTo ls a (b + 1) = rowTo ls a b ++ [(b : Int)] := by simp [rowTo, List.range_succ, List.filter_append, h]
theorem rowTo_miss {ls : List Gr.Ln} {a b : Nat} (h : Gr.adj ls (a : Int) (b : Int) = false) : rowTo ls a (b + 1) = rowTo ls a b := by simp [rowTo, List.range_succ, List.filter_append, h]
theorem rowTo_len (ls : List Gr.Ln) (a b : Nat) : (rowTo ls a b).length ≤ b := by
  have := List.length_filter_le (fun b : Nat => Gr.adj ls (a : Int) (b : Int)) (List.range b)
  simpa [rowTo] using this



end Go.Proofs.Ytojkjdccjomaaaa.RefL
