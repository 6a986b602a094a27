/-
  The walk of the law GapsBack: for every two lists it returns true.
-/
import Derived.Test.YtiafekjdefnifaaGapsF
namespace Go.Proofs.Ytiafekjdefnifaa.gapsBack
open Go.RowKit

theorem delta_bits (n : Nat) : El.Bits (El.delta n) := by
  intro x hx
  rcases List.mem_append.1 hx with hx | hx
  · rcases List.mem_append.1 hx with hx | hx
    · exact .inl (List.eq_of_mem_replicate hx)
    · exact El.bin_bits _ x hx
  · exact El.bin_bits _ x (List.mem_of_mem_tail hx)
theorem write_bits (l : List Int) : El.Bits (Ga.write l) := by
  intro x hx
  obtain ⟨n, _, hn⟩ := List.mem_flatMap.1 hx
  exact delta_bits _ x hn
theorem back {l : List Int} (h : Ga.code l = 0) (h6 : (Ga.write l).length ≤ 600) : gcode (Ga.write l) = 0 ∧ glist (Ga.write l) = l := by
  have h1 := Ga.write_read h
  have h2 := Ga.read_nums h
  have h3 : rcode (El.readD (Ga.write l)) (Ga.write l) = 0 := by
    rw [rcode_bits (by omega) (write_bits l), h1]
    rfl
  exact ⟨(gcode_then h3 h1).trans h2.1, (glist_then h1).trans h2.2⟩
theorem same {a b : List Int} (ha : Ga.code a = 0) (hb : Ga.code b = 0) : (decide (Ga.write a = Ga.write b) == decide (a = b)) = true := by
  by_cases h : a = b
  · subst h
    simp
  · have : Ga.write a ≠ Ga.write b := fun e => h (Ga.write_inj ha hb e)
    simp [h, this]

set_option maxRecDepth 100000 in
set_option maxHeartbeats 4000000 in
theorem walk (w : World) (a0 : Option Addr) (n0 c0 : Nat) (z0 : List Int) (w0 : Rd w w.heap.size a0 n0 c0 z0) (a1 : Option Addr) (n1 c1 : Nat) (z1 : List Int) (w1 : Rd w w.heap.size a1 n1 c1 z1) :
    Calls Try.prog 3 #[.slice a0 n0 c0, .slice a1 n1 c1] w fun e w' => e = .returned (.bool true) ∧ Below w.heap.size w w' := by
  go_enter Try.func3, Try.ntmps3
  go_wp2_with fail
  refine (gfact_any _).mono ?_
  rintro e x1 ⟨rfl, hb1⟩
  have r01 := w0.past hb1
  have r11 := w1.past hb1
  have hs1 := hb1.size
  go_wp2_with fail
  refine (Write_any _ _ _ z0 _ r01).mono ?_
  rintro e x2 ⟨hb2, ⟨h0, rfl⟩ | ⟨v2, h0, rfl, hown2⟩⟩
  · clear h0
    go_wp2
    go_ret
    exact ⟨rfl, hb1.trans (hb2.mono hs1)⟩
  have r02 := r01.past hb2
  have r12 := r11.past hb2
  have hs2 := hb2.size
  obtain ⟨A2, c2, rfl, r22⟩ := hown2.rd
  have hbig2 := r22.big
  have HC := Lib.hid h0
  have hw2 : Below w.heap.size w x2 := hb1.trans (hb2.mono hs1)
  clear h0 hown2 hb2 hb1 r01 r11
  by_cases h6 : (Ga.write z0).length ≤ 600
  · have hbk := Lib.hid (back HC.out h6)
    go_wp2_with fail
    refine (Read_any _ _ _ _ _ r22).mono ?_
    rintro e x3 ⟨hb3, ⟨h3, rfl⟩ | ⟨v3, h3, rfl, hown3⟩⟩
    · exact absurd hbk.out.1 h3
    rw [hbk.out.2] at hown3
    clear h3
    obtain ⟨A3, c3, rfl, r33⟩ := hown3.rd
    have r03 := r02.past hb3
    have r13 := r12.past hb3
    have r23 := r22.past hb3
    have hw3 : Below w.heap.size w x3 := hw2.trans (hb3.mono hw2.size)
    clear hown3 hb3 r02 r12 r22
    go_wp2_with fail
    refine (Ints_any _ _ _ _ _ _ z0 z0 _ r33 r03).mono ?_
    rintro e x4 ⟨rfl, hb4⟩
    have hdec : decide (z0 = z0) = true := by simp
    rw [hdec]
    clear hdec
    have r04 := r03.past hb4
    have r14 := r13.past hb4
    have r24 := r23.past hb4
    have hw4 : Below w.heap.size w x4 := hw3.trans (hb4.mono hw3.size)
    clear hb4 r33 r03 r13 r23
    go_wp2_with fail
    refine (Write_any _ _ _ z1 _ r14).mono ?_
    rintro e x5 ⟨hb5, ⟨h0, rfl⟩ | ⟨v5, h0, rfl, hown5⟩⟩
    · clear h0
      go_wp2
      go_ret
      exact ⟨rfl, hw4.trans (hb5.mono hw4.size)⟩
    have hsame := Lib.hid (same HC.out h0)
    clear h0
    obtain ⟨A5, c5, rfl, r55⟩ := hown5.rd
    have r05 := r04.past hb5
    have r15 := r14.past hb5
    have r25 := r24.past hb5
    have hw5 : Below w.heap.size w x5 := hw4.trans (hb5.mono hw4.size)
    clear hown5 hb5 r04 r14 r24
    go_wp2_with fail
    refine (Ints_any _ _ _ _ _ _ (Ga.write z0) (Ga.write z1) _ r25 r55).mono ?_
    rintro e x6 ⟨rfl, hb6⟩
    have r06 := r05.past hb6
    have r16 := r15.past hb6
    have hw6 : Below w.heap.size w x6 := hw5.trans (hb6.mono hw5.size)
    clear hb6 r05 r15 r25 r55
    go_wp2_with fail
    refine (Ints_any _ _ _ _ _ _ z0 z1 _ r06 r16).mono ?_
    rintro e x7 ⟨rfl, hb7⟩
    go_wp2
    go_ret
    exact ⟨by rw [hsame.out]; rfl, hw6.trans (hb7.mono hw6.size)⟩
  · have r04 := r02
    have r14 := r12
    have r24 := r22
    have hw4 := hw2
    clear r02 r12 r22 hw2
    go_wp2_with fail
    refine (Write_any _ _ _ z1 _ r14).mono ?_
    rintro e x5 ⟨hb5, ⟨h0, rfl⟩ | ⟨v5, h0, rfl, hown5⟩⟩
    · clear h0
      go_wp2
      go_ret
      exact ⟨rfl, hw4.trans (hb5.mono hw4.size)⟩
    have hsame := Lib.hid (same HC.out h0)
    clear h0
    obtain ⟨A5, c5, rfl, r55⟩ := hown5.rd
    have r05 := r04.past hb5
    have r15 := r14.past hb5
    have r25 := r24.past hb5
    have hw5 : Below w.heap.size w x5 := hw4.trans (hb5.mono hw4.size)
    clear hown5 hb5 r04 r14 r24
    go_wp2_with fail
    refine (Ints_any _ _ _ _ _ _ (Ga.write z0) (Ga.write z1) _ r25 r55).mono ?_
    rintro e x6 ⟨rfl, hb6⟩
    have r06 := r05.past hb6
    have r16 := r15.past hb6
    have hw6 : Below w.heap.size w x6 := hw5.trans (hb6.mono hw5.size)
    clear hb6 r05 r15 r25 r55
    go_wp2_with fail
    refine (Ints_any _ _ _ _ _ _ z0 z1 _ r06 r16).mono ?_
    rintro e x7 ⟨rfl, hb7⟩
    go_wp2
    go_ret
    exact ⟨by rw [hsame.out]; rfl, hw6.trans (hb7.mono hw6.size)⟩

end Go.Proofs.Ytiafekjdefnifaa.gapsBack
