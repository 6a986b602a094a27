/-
  The walk of the law TopKept: for every number of points, lines and point it returns true.
-/
import Derived.Test.YtghdallaohpelaaGraphB
import Derived.Test.YtghdallaohpelaaGraphL
import Derived.Test.YtghdallaohpelaaGapsB
namespace Go.Proofs.Ytghdallaohpelaa.topKept
open Go.RowKit

theorem delta_bits (n : Nat) : El.Bits (El.delta n) := by
  intro x hx
  rcases List.mem_append.1 hx with hx | hx
  · rcases List.mem_append.1 hx with hx | hx
    · exact .inl (List.eq_of_mem_replicate hx)
    · exact El.bin_bits _ x hx
  · exact El.bin_bits _ x (List.mem_of_mem_tail hx)
theorem write_bits (l : List Int) : El.Bits (Ga.write l) := by
  intro x hx
  obtain ⟨n, _, hn⟩ := List.mem_flatMap.1 hx
  exact delta_bits _ x hn
theorem back {l : List Int} (h : Ga.code l = 0) (h6 : (Ga.write l).length ≤ 600) : gcode (Ga.write l) = 0 ∧ glist (Ga.write l) = l ∧ rcode (El.readD (Ga.write l)) (Ga.write l) = 0 := by
  have h1 := Ga.write_read h
  have h2 := Ga.read_nums h
  have h3 : rcode (El.readD (Ga.write l)) (Ga.write l) = 0 := by
    rw [rcode_bits (by omega) (write_bits l), h1]
    rfl
  exact ⟨(gcode_then h3 h1).trans h2.1, (glist_then h1).trans h2.2, h3⟩
theorem codeN : Ga.code [] = 0 := by decide
theorem writeN : Ga.write [] = [1] := by
  have b1 : El.bin 1 = [1] := El.bin_small (by omega)
  have e : Ga.nums [] = [1] := by decide
  rw [Ga.write, e, El.codes_cons, show ((1 : Int).toNat) = 1 from rfl, El.delta, b1, El.gamma, show ([1] : List Int).length = 1 from rfl, b1]
  rfl

/-- a row of points is a list without fault -/
theorem up_map : ∀ (l : List Nat) (a : Int), l.Pairwise (· < ·) → (∀ x ∈ l, a < (x : Int) ∧ x < 8) → Ga.Up a (l.map fun b => ((b : Nat) : Int)) := by
  intro l
  induction l with
  | nil => intro _ _ _; trivial
  | cons x xs ih =>
    intro a hp hb
    obtain ⟨h1, h2⟩ := List.pairwise_cons.1 hp
    obtain ⟨b1, b2⟩ := hb x (by simp)
    refine ⟨by show (0 : Int) ≤ (x : Int); omega, by show (x : Int) < 1000000; omega, b1, ih _ h2 (fun y hy => ⟨?_, (hb y (List.mem_cons_of_mem _ hy)).2⟩)⟩
    have := h1 y hy
    show (x : Int) < (y : Int)
    omega
theorem row_code {m : Nat} (hm : m ≤ 8) (ls : List Gr.Ln) (a : Nat) : Ga.code (Gr.row m ls a) = 0 ∧ (Ga.write (Gr.row m ls a)).length ≤ 600 := by
  have hlen := Gr.row_len m ls a
  have hcode : Ga.code (Gr.row m ls a) = 0 := by
    refine Ga.code_up (by omega) (up_map _ _ (List.Pairwise.filter _ List.pairwise_lt_range) (fun x hx => ?_))
    have := List.mem_range.1 (List.mem_filter.1 hx).1
    exact ⟨by omega, by omega⟩
  refine ⟨hcode, ?_⟩
  have h1 := Ga.codes_le _ (Ga.nums_nums hcode)
  rw [Ga.nums_len] at h1
  unfold Ga.write
  omega

set_option maxRecDepth 100000 in
set_option maxHeartbeats 4000000 in
theorem walk (w : World) (a0 : Int) (_w0 : (Lit.int .i64 a0).wf = true) (a1 : Option Addr) (n1 c1 : Nat) (z1 : List Gr.Ln) (w1 : RdP w w.heap.size a1 n1 c1 z1) (a2 : Int) (_w2 : (Lit.int .i64 a2).wf = true) :
    Calls Try.prog 5 #[.int .i64 a0, .slice a1 n1 c1, .int .i64 a2] w fun e w' => e = .returned (.bool true) ∧ Below w.heap.size w w' := by
  have HX := Lib.hid w1.len
  have hbig := w1.big
  go_enter Try.func5, Try.ntmps5
  go_wp2_with fail
  refine (Beside_any a0 a1 n1 c1 z1 _ w1).mono ?_
  rintro e x1 ⟨hb1, (⟨hne, rfl⟩ | ⟨h0, A, c, rfl, hr⟩)⟩
  · clear hne
    go_wp2_with fail
    refine (Write_any _ _ _ [] _ (Rd.nil _ _)).mono ?_
    rintro e x2 ⟨hb2, ⟨hw, rfl⟩ | ⟨v2, _, rfl, hown2⟩⟩
    · exact absurd codeN hw
    rw [writeN] at hown2
    obtain ⟨A2, c2, rfl, r2⟩ := hown2.rd
    have hb12 := hb1.trans (hb2.mono hb1.size)
    have hba := (Below.refl x2.heap.size x2).alloc (Nat.le_refl _) (.cells #[.int .i64 1] 3)
    go_wp2_with fail
    refine (Ints_any _ _ _ _ _ _ [1] [1] _ (r2.past hba) ((Rd.one x2 1 3).more (by simp))).mono ?_
    rintro e x3 ⟨rfl, hb3⟩
    have hb23 := hba.trans (hb3.mono hba.size)
    have hdec : decide (([1] : List Int) = [1]) = true := by simp
    rw [hdec]
    clear hdec
    go_wp2
    go_ret
    exact ⟨rfl, hb12.trans (hb23.mono hb12.size)⟩
  obtain ⟨z1', z8, _, _⟩ := Gr.code_zero.1 h0
  obtain ⟨m, rfl⟩ : ∃ m : Nat, a0 = (m : Int) := ⟨a0.toNat, by omega⟩
  simp only [Int.toNat_natCast] at hr ⊢
  have HC := Lib.hid h0
  clear h0
  go_wp2_with fail
  refine (Write_any _ _ _ [] _ (Rd.nil _ _)).mono ?_
  rintro e x2 ⟨hb2, ⟨hw, rfl⟩ | ⟨v2, _, rfl, hown2⟩⟩
  · exact absurd codeN hw
  rw [writeN] at hown2
  obtain ⟨A2, c2, rfl, r2⟩ := hown2.rd
  have hb12 := hb1.trans (hb2.mono hb1.size)
  have hba := (Below.refl x2.heap.size x2).alloc (Nat.le_refl _) (.cells #[.int .i64 1] 3)
  go_wp2_with fail
  refine (Ints_any _ _ _ _ _ _ [1] [1] _ (r2.past hba) ((Rd.one x2 1 3).more (by simp))).mono ?_
  rintro e x3 ⟨rfl, hb3⟩
  have hb23 := hba.trans (hb3.mono hba.size)
  have hdec : decide (([1] : List Int) = [1]) = true := by simp
  rw [hdec]
  clear hdec
  have hb13 := hb2.trans (hb23.mono hb2.size)
  have hb03 := hb1.trans (hb13.mono hb1.size)
  have hr3 := hr.past hb13
  clear hr hb1 hb2 hb3 hb12 hba hb23 hb13 r2 hown2
  by_cases hin : a2 < 0 ∨ (m : Int) - 1 < a2
  · go_wp2_with fail
    refine (topIn_no a2 0 ((m : Int) - 1) _ (by omega)).mono ?_
    rintro e x4 ⟨rfl, rfl⟩
    go_wp2
    go_ret
    exact ⟨rfl, hb03⟩
  obtain ⟨t, rfl⟩ : ∃ t : Nat, a2 = (t : Int) := ⟨a2.toNat, by omega⟩
  have htm : t < m := by omega
  obtain ⟨b, off, rfl, hbl, hc⟩ := hr3.at_ (by omega)
  obtain ⟨Ai, ci, gi, ri⟩ := hc t htm
  rw [Gr.rows_getD z1 htm] at gi ri
  obtain ⟨hrc, hrw⟩ := row_code (m := m) (by omega) z1 t
  have hrl := Gr.row_len m z1 t
  obtain ⟨rs, hrs⟩ : ∃ rs, rs = Gr.row m z1 t := ⟨_, rfl⟩
  rw [← hrs] at hrl
  rw [← hrs] at gi ri hrc hrw
  clear hrs hc hr3
  obtain ⟨L, hL⟩ : ∃ L, L = rs.length := ⟨_, rfl⟩
  rw [← hL] at gi ri
  rw [← hL] at hrl
  have hL8 : L ≤ 8 := by omega
  clear hrl
  have HL := Lib.hid hL
  have hLb := ri.big
  obtain ⟨k1, k2, k3⟩ := back hrc hrw
  have K1 := Lib.hid k1
  have K2 := Lib.hid k2
  have K3 := Lib.hid k3
  have K4 := Lib.hid hrc
  have K5 := Lib.hid (Ga.write_read hrc)
  clear hL k1 k2 k3 hrc
  have hnn : ((m : Int) != (m : Int)) = false := by simp
  go_wp2_with fail
  refine (topIn_yes (t : Int) 0 ((m : Int) - 1) _ (by omega) (by omega)).mono ?_
  rintro e x4 ⟨rfl, rfl⟩
  go_wp2_with fail
  refine (Write_any Ai L ci rs _ ri).mono ?_
  rintro e x4 ⟨hb4, ⟨hw, rfl⟩ | ⟨v4, _, rfl, hown4⟩⟩
  · exact absurd K4.out hw
  obtain ⟨A4, c4, rfl, r4⟩ := hown4.rd
  obtain ⟨bs, hbs⟩ : ∃ bs, bs = Ga.write rs := ⟨_, rfl⟩
  rw [← hbs] at r4 hrw ⊢
  obtain ⟨q, hq⟩ : ∃ q, q = bs.length := ⟨_, rfl⟩
  rw [← hq] at r4 hrw ⊢
  have HB := Lib.hid hbs
  have gi4 : x4.cell? ⟨b, off + t, none⟩ = some (.slice Ai L ci) := (hb4.cell (World.block_lt_of_cell? _ _ gi)).trans gi
  have ri4 := ri.past hb4
  clear hbs hq hown4 gi ri
  go_wp2_with fail
  refine (Read_any A4 q c4 bs _ r4).mono ?_
  rintro e x5 ⟨hb5, ⟨h5, rfl⟩ | ⟨v5, _, rfl, hown5⟩⟩
  · rw [HB.out] at h5
    exact absurd K1.out h5
  rw [HB.out, K2.out] at hown5
  obtain ⟨A5, c5, rfl, r5⟩ := hown5.rd
  rw [← HL.out] at r5 ⊢
  have gi5 : x5.cell? ⟨b, off + t, none⟩ = some (.slice Ai L ci) := (hb5.cell (World.block_lt_of_cell? _ _ gi4)).trans gi4
  have ri5 := ri4.past hb5
  have r45 := r4.past hb5
  clear gi4 ri4 r4 hown5
  go_wp2_with fail
  refine (ReadDelta_any A4 q c4 bs _ r45).mono ?_
  rintro e x6 ⟨hb6, ⟨h6, rfl⟩ | ⟨v6, ns, _, hns, rfl, hown6⟩⟩
  · rw [HB.out] at h6
    exact absurd K3.out h6
  rw [HB.out, K5.out, Option.some.injEq] at hns
  obtain ⟨A6, c6, rfl, r6⟩ := hown6.rd
  have hnl : ns.length = L + 1 := by rw [← hns, Ga.nums_len, HL.out]
  rw [hnl]
  have gi6 : x6.cell? ⟨b, off + t, none⟩ = some (.slice Ai L ci) := (hb6.cell (World.block_lt_of_cell? _ _ gi5)).trans gi5
  have ri6 := ri5.past hb6
  have r56 := r5.past hb6
  clear gi5 ri5 r5 hown6 hns hnl r6
  go_wp2_with fail
  refine (Ints_any A5 Ai L L c5 ci rs rs _ r56 ri6).mono ?_
  rintro e x7 ⟨rfl, hb7⟩
  have hdec : decide (rs = rs) = true := by simp
  rw [hdec]
  clear hdec
  have gi7 : x7.cell? ⟨b, off + t, none⟩ = some (.slice Ai L ci) := (hb7.cell (World.block_lt_of_cell? _ _ gi6)).trans gi6
  have hb45 := hb4.trans (hb5.mono hb4.size)
  have hb46 := hb45.trans (hb6.mono hb45.size)
  have hb47 := hb46.trans (hb7.mono hb46.size)
  have hbf := hb03.trans (hb47.mono hb03.size)
  clear hb45 hb46 hb47 hb4 hb5 hb6 hb7 hb03 gi6 r56 ri6 r45
  go_wp2
  go_ret
  exact ⟨rfl, hbf⟩

end Go.Proofs.Ytghdallaohpelaa.topKept
