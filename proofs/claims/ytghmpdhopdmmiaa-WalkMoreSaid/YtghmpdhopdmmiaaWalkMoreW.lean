/-
  The walk of the law WalkMore: for every number of points, lines, one line more and point it returns true.
-/
import Derived.Test.YtghmpdhopdmmiaaWalkE
import Derived.Test.YtghmpdhopdmmiaaWalkQ
import Derived.Test.YtghmpdhopdmmiaaRefL
namespace Go.Proofs.Ytghmpdhopdmmiaa.walkMore
open Go.RowKit

set_option linter.unusedSimpArgs false
set_option linter.unusedVariables false

theorem adj_more {ls : List Gr.Ln} {p : Gr.Ln} {a b : Int} (h : Gr.adj ls a b = true) : Gr.adj (ls ++ [p]) a b = true := by
  rw [Gr.adj_iff] at *
  rcases h with h | h
  · exact .inl (List.mem_append_left _ h)
  · exact .inr (List.mem_append_left _ h)
theorem nrow_more {m : Nat} {ls : List Gr.Ln} {p : Gr.Ln} : ∀ a, a < m → ∀ b ∈ Wa.nrow m ls a, b ∈ Wa.nrow m (ls ++ [p]) a := fun a _ b hb => Wa.mem_nrow.2 ⟨(Wa.mem_nrow.1 hb).1, adj_more (Wa.mem_nrow.1 hb).2⟩
/-- the line joins two parts, or is there already, or closes a ring -/
theorem closes {m a b : Nat} {ls : List Gr.Ln} (ha : a < m) (hb : b < m) (hl : Wa.lab m (Wa.nrow m ls) m a = Wa.lab m (Wa.nrow m ls) m b) (hn : Gr.adj ls (a : Int) (b : Int) = false) : 0 < Wa.girth m (Wa.nrow m (ls ++ [((a : Int), (b : Int))])) := by
  refine Wa.girth_pos (Wa.nrow_ok m ls) (Wa.nrow_ok m _) nrow_more ha (Wa.mem_nrow.2 ⟨hb, ?_⟩) (fun h => ?_) ((Wa.lab_eq (Wa.nrow_ok m ls) (Wa.nrow_sym m ls) ha hb).1 hl)
  · rw [Gr.adj_iff]; exact .inl (by simp)
  · have := (Wa.mem_nrow.1 h).2
    rw [hn] at this
    cases this

theorem bes_q (A : Option Addr) (n c : Nat) (ls : List Gr.Ln) (a b : Int) (t : Bool) (w : World) (k : Nat) (hr : RdP w w.heap.size A n c ls) (ht : Gr.adj ls a b = t) :
    Calls Try.prog 10 #[.slice A n c, .int .i64 a, .int .i64 b] (w.drewN k) fun e w' => e = .returned (.bool t) ∧ ∃ m, w' = w.drewN m :=
  Calls.quiet_of_same ((RefL.Beside_any A n c ls a b t _ (hr.drewN k) ht).mono fun _ _ h => ⟨h.1, h.2.symm⟩)

set_option maxRecDepth 100000 in
set_option maxHeartbeats 4000000 in
/-- something is wrong with the lines, or with the point -/
theorem bad (w : World) (a0 : Int) (a1 : Option Addr) (n1 c1 : Nat) (z1 : List Gr.Ln) (w1 : RdP w w.heap.size a1 n1 c1 z1) (p q : Int) (a3 : Int) (hc : Wa.fcode a0 z1 a3 ≠ 0) :
    Calls Try.prog 6 #[.int .i64 a0, .slice a1 n1 c1, .agg #[.int .i64 p, .int .i64 q], .int .i64 a3] w fun e w' => e = .returned (.bool true) ∧ Below w.heap.size w w' := by
  have H := Lib.hid hc
  clear hc
  obtain ⟨x0, hx0⟩ : ∃ x0, x0 = w.alloc (.cells #[.int .i64 p, .int .i64 q] 38) := ⟨_, rfl⟩
  have hb0 : Below w.heap.size w x0 := by rw [hx0]; exact (Below.refl _ _).alloc (Nat.le_refl _) _
  go_enter Try.func6, Try.ntmps6
  go_wp2_with fail
  rw [← hx0]
  clear hx0
  refine (walkFact_any _).mono ?_
  rintro e x1 ⟨rfl, hb1⟩
  have hb01 := hb0.trans (hb1.mono hb0.size)
  go_wp2_with fail
  refine (From_bad a0 a1 n1 c1 z1 a3 _ (w1.past hb01) H.out).mono ?_
  rintro e x2 ⟨rfl, hb2⟩
  have hb02 := hb01.trans (hb2.mono hb01.size)
  clear hb0 hb1 hb01 hb2
  go_wp2
  go_ret
  exact ⟨rfl, hb02⟩

set_option maxRecDepth 100000 in
set_option maxHeartbeats 4000000 in
/-- there are as many lines as there may be -/
theorem fullup (w : World) (m f : Nat) (a1 : Option Addr) (c1 : Nat) (z1 : List Gr.Ln) (w1 : RdP w w.heap.size a1 24 c1 z1) (p q : Int) (h0 : Gr.code (m : Int) z1 = 0) (hf : f < m) :
    Calls Try.prog 6 #[.int .i64 (m : Int), .slice a1 24 c1, .agg #[.int .i64 p, .int .i64 q], .int .i64 (f : Int)] w fun e w' => e = .returned (.bool true) ∧ Below w.heap.size w w' := by
  have H := Lib.hid h0
  clear h0
  obtain ⟨x0, hx0⟩ : ∃ x0, x0 = w.alloc (.cells #[.int .i64 p, .int .i64 q] 38) := ⟨_, rfl⟩
  have hb0 : Below w.heap.size w x0 := by rw [hx0]; exact (Below.refl _ _).alloc (Nat.le_refl _) _
  go_enter Try.func6, Try.ntmps6
  go_wp2_with fail
  rw [← hx0]
  clear hx0
  refine (walkFact_any _).mono ?_
  rintro e x1 ⟨rfl, hb1⟩
  have hb01 := hb0.trans (hb1.mono hb0.size)
  go_wp2_with fail
  refine (From_good m f a1 24 c1 z1 _ (w1.past hb01) H.out hf).mono ?_
  rintro e x2 ⟨g, rfl, _, hb2⟩
  have hb02 := hb01.trans (hb2.mono hb01.size)
  clear hb0 hb1 hb01 hb2
  go_wp2
  go_ret
  exact ⟨rfl, hb02⟩

set_option maxRecDepth 100000 in
set_option maxHeartbeats 4000000 in
/-- the line more is wrong -/
theorem bad2 (w : World) (m f : Nat) (a1 : Option Addr) (n1 c1 : Nat) (z1 : List Gr.Ln) (w1 : RdP w w.heap.size a1 n1 c1 z1) (p q : Int) (h0 : Gr.code (m : Int) z1 = 0) (hf : f < m) (h24 : n1 < 24) (hc : Wa.fcode (m : Int) (z1 ++ [(p, q)]) (f : Int) ≠ 0) :
    Calls Try.prog 6 #[.int .i64 (m : Int), .slice a1 n1 c1, .agg #[.int .i64 p, .int .i64 q], .int .i64 (f : Int)] w fun e w' => e = .returned (.bool true) ∧ Below w.heap.size w w' := by
  have H := Lib.hid h0
  have HB := Lib.hid hc
  clear hc
  have HL := Lib.hid w1.len
  clear h0
  have d1 : (n1 == 24) = false := by simp; omega
  have d2 : ((n1 : Int) == 24) = false := by simp; omega
  obtain ⟨x0, hx0⟩ : ∃ x0, x0 = w.alloc (.cells #[.int .i64 p, .int .i64 q] 38) := ⟨_, rfl⟩
  have hb0 : Below w.heap.size w x0 := by rw [hx0]; exact (Below.refl _ _).alloc (Nat.le_refl _) _
  have hbl0 : w.heap.size < x0.heap.size := by rw [hx0]; simp
  have g0 : x0.cell? ⟨w.heap.size, 0, none⟩ = some (.int .i64 p) := by rw [hx0]; simp
  have g1 : x0.cell? ⟨w.heap.size, 1, none⟩ = some (.int .i64 q) := by rw [hx0]; simp
  obtain ⟨u, hu⟩ : ∃ u, u = w.heap.size := ⟨_, rfl⟩
  rw [← hu] at hbl0 g0 g1
  go_enter Try.func6, Try.ntmps6
  go_wp2_with fail
  rw [← hx0, ← hu]
  have HU := Lib.hid hu
  clear hx0 hu
  refine (walkFact_any _).mono ?_
  rintro e x1 ⟨rfl, hb1⟩
  have hb01 := hb0.trans (hb1.mono hb0.size)
  go_wp2_with fail
  refine (From_good m f a1 n1 c1 z1 _ (w1.past hb01) H.out hf).mono ?_
  rintro e x2 ⟨g, rfl, hox, hb2⟩
  have hb02 := hb01.trans (hb2.mono hb01.size)
  have hb12 := hb1.trans (hb2.mono hb1.size)
  replace g0 := (hb12.cell (p := ⟨u, 0, none⟩) hbl0).trans g0
  replace g1 := (hb12.cell (p := ⟨u, 1, none⟩) hbl0).trans g1
  have hr2 := w1.past hb02
  have hbl2 : u < x2.heap.size := Nat.lt_of_lt_of_le hbl0 hb12.size
  clear hb0 hb1 hb01 hb2 hb12 hbl0 w1
  have ho := OwnP.nil x2 x2.heap.size 38
  have hroom : ([] : List (Int × Int)).length + n1 ≤ 8796093022208 := by simp; omega
  have hroom2 : z1.length + 1 ≤ 8796093022208 := by rw [HL.out]; omega
  go_wp2_with (first
    | (at_builtin; refine wpList_appP _ rfl (.tmp 43) (.tmp 44) 22 rfl x2.heap.size 38 Try.underlying22 lineInfo (.slice none 0 0) _ rfl ho _ n1 c1 z1 rfl hr2 hroom (Nat.le_refl _) ?_; intro v3 x3 ho3 hg3 _
       have hb23 := below_appP (Below.refl x2.heap.size x2) ho hg3 (Nat.le_refl _)
       have g0' := (hb23.cell (p := ⟨u, 0, none⟩) hbl2).trans g0
       have g1' := (hb23.cell (p := ⟨u, 1, none⟩) hbl2).trans g1
       rw [List.nil_append] at ho3
       have hba := (Below.refl x3.heap.size x3).alloc (Nat.le_refl _) (.cells #[.int .i64 p, .int .i64 q] 38)
       have ho3' := ho3.below hba
       have hs3 : x2.heap.size ≤ (x3.alloc (.cells #[.int .i64 p, .int .i64 q] 38)).heap.size := Nat.le_trans hb23.size hba.size
       clear hg3)
    | (at_builtin; refine wpList_appP _ rfl (.tmp 46) (.tmp 48) 22 rfl x2.heap.size 38 Try.underlying22 lineInfo v3 _ rfl ho3' _ 1 1 [(p, q)] rfl (RdP.one x3 _ _) hroom2 hs3 ?_; intro v5 x5 ho5 hg5 _
       have hb25 := below_appP (hb23.trans (hba.mono hb23.size)) ho3' hg5 hs3
       obtain ⟨A5, c5, rfl, hr5⟩ := ho5.rd
       rw [List.length_append, HL.out, List.length_cons, List.length_nil, Nat.zero_add] at hr5
       rw [List.length_append, HL.out, List.length_cons, List.length_nil, Nat.zero_add]
       replace g0 := (hb25.cell (p := ⟨u, 0, none⟩) hbl2).trans g0
       replace g1 := (hb25.cell (p := ⟨u, 1, none⟩) hbl2).trans g1
       clear hg5 ho5 ho3 ho3' hba hs3 hb23 g0' g1'))
  refine (From_bad (m : Int) A5 (n1 + 1) c5 (z1 ++ [(p, q)]) (f : Int) _ hr5 HB.out).mono ?_
  rintro e x6 ⟨rfl, hb6⟩
  have hb := hb02.trans ((hb25.trans (hb6.mono hb25.size)).mono hb02.size)
  clear hb6 hb25 hb02 g0 g1 hr2 hr5
  go_wp2
  go_ret
  exact ⟨rfl, hb⟩

set_option maxRecDepth 100000 in
set_option maxHeartbeats 4000000 in
/-- nothing is wrong -/
theorem good (w : World) (m f a b : Nat) (a1 : Option Addr) (n1 c1 : Nat) (z1 : List Gr.Ln) (w1 : RdP w w.heap.size a1 n1 c1 z1) (p q : Int) (hp : p = (a : Int)) (hq : q = (b : Int)) (ha : a < m) (hb : b < m) (h0 : Gr.code (m : Int) z1 = 0) (hf : f < m) (h24 : n1 < 24) (hc : Gr.code (m : Int) (z1 ++ [(p, q)]) = 0) :
    Calls Try.prog 6 #[.int .i64 (m : Int), .slice a1 n1 c1, .agg #[.int .i64 p, .int .i64 q], .int .i64 (f : Int)] w fun e w' => e = .returned (.bool true) ∧ Below w.heap.size w w' := by
  have H := Lib.hid h0
  have HB := Lib.hid hc
  have HP := Lib.hid hp
  have HQ := Lib.hid hq
  clear hc hp hq
  have HL := Lib.hid w1.len
  clear h0
  have d1 : (n1 == 24) = false := by simp; omega
  have d2 : ((n1 : Int) == 24) = false := by simp; omega
  obtain ⟨x0, hx0⟩ : ∃ x0, x0 = w.alloc (.cells #[.int .i64 p, .int .i64 q] 38) := ⟨_, rfl⟩
  have hb0 : Below w.heap.size w x0 := by rw [hx0]; exact (Below.refl _ _).alloc (Nat.le_refl _) _
  have hbl0 : w.heap.size < x0.heap.size := by rw [hx0]; simp
  have g0 : x0.cell? ⟨w.heap.size, 0, none⟩ = some (.int .i64 p) := by rw [hx0]; simp
  have g1 : x0.cell? ⟨w.heap.size, 1, none⟩ = some (.int .i64 q) := by rw [hx0]; simp
  obtain ⟨u, hu⟩ : ∃ u, u = w.heap.size := ⟨_, rfl⟩
  rw [← hu] at hbl0 g0 g1
  go_enter Try.func6, Try.ntmps6
  go_wp2_with fail
  rw [← hx0, ← hu]
  have HU := Lib.hid hu
  clear hx0 hu
  refine (walkFact_any _).mono ?_
  rintro e x1 ⟨rfl, hb1⟩
  have hb01 := hb0.trans (hb1.mono hb0.size)
  go_wp2_with fail
  refine (From_good m f a1 n1 c1 z1 _ (w1.past hb01) H.out hf).mono ?_
  rintro e x2 ⟨g, rfl, hox, hb2⟩
  have hb02 := hb01.trans (hb2.mono hb01.size)
  have hb12 := hb1.trans (hb2.mono hb1.size)
  replace g0 := (hb12.cell (p := ⟨u, 0, none⟩) hbl0).trans g0
  replace g1 := (hb12.cell (p := ⟨u, 1, none⟩) hbl0).trans g1
  have hr2 := w1.past hb02
  have hbl2 : u < x2.heap.size := Nat.lt_of_lt_of_le hbl0 hb12.size
  clear hb0 hb1 hb01 hb2 hb12 hbl0 w1
  have g0x := g0
  have g1x := g1
  have ho := OwnP.nil x2 x2.heap.size 38
  have hroom : ([] : List (Int × Int)).length + n1 ≤ 8796093022208 := by simp; omega
  have hroom2 : z1.length + 1 ≤ 8796093022208 := by rw [HL.out]; omega
  go_wp2_with (first
    | (at_builtin; refine wpList_appP _ rfl (.tmp 43) (.tmp 44) 22 rfl x2.heap.size 38 Try.underlying22 lineInfo (.slice none 0 0) _ rfl ho _ n1 c1 z1 rfl hr2 hroom (Nat.le_refl _) ?_; intro v3 x3 ho3 hg3 _
       have hb23 := below_appP (Below.refl x2.heap.size x2) ho hg3 (Nat.le_refl _)
       have g0' := (hb23.cell (p := ⟨u, 0, none⟩) hbl2).trans g0
       have g1' := (hb23.cell (p := ⟨u, 1, none⟩) hbl2).trans g1
       rw [List.nil_append] at ho3
       have hba := (Below.refl x3.heap.size x3).alloc (Nat.le_refl _) (.cells #[.int .i64 p, .int .i64 q] 38)
       have ho3' := ho3.below hba
       have hs3 : x2.heap.size ≤ (x3.alloc (.cells #[.int .i64 p, .int .i64 q] 38)).heap.size := Nat.le_trans hb23.size hba.size
       clear hg3)
    | (at_builtin; refine wpList_appP _ rfl (.tmp 46) (.tmp 48) 22 rfl x2.heap.size 38 Try.underlying22 lineInfo v3 _ rfl ho3' _ 1 1 [(p, q)] rfl (RdP.one x3 _ _) hroom2 hs3 ?_; intro v5 x5 ho5 hg5 _
       have hb25 := below_appP (hb23.trans (hba.mono hb23.size)) ho3' hg5 hs3
       obtain ⟨A5, c5, rfl, hr5⟩ := ho5.rd
       rw [List.length_append, HL.out, List.length_cons, List.length_nil, Nat.zero_add] at hr5
       rw [List.length_append, HL.out, List.length_cons, List.length_nil, Nat.zero_add]
       replace g0 := (hb25.cell (p := ⟨u, 0, none⟩) hbl2).trans g0
       replace g1 := (hb25.cell (p := ⟨u, 1, none⟩) hbl2).trans g1
       clear hg5 ho5 ho3 ho3' hba hs3 hb23 g0' g1'))
  refine (From_good m f A5 (n1 + 1) c5 (z1 ++ [(p, q)]) _ hr5 HB.out hf).mono ?_
  rintro e x6 ⟨gy, rfl, hoy, hb6⟩
  have hb56 := hb25.trans (hb6.mono hb25.size)
  go_wp2_with fail
  refine (Parts_good m a1 n1 c1 z1 _ (hr2.past hb56) H.out).mono ?_
  rintro e x7 ⟨gp, rfl, hop, hb7⟩
  have hb57 := hb56.trans (hb7.mono hb56.size)
  go_wp2_with fail
  refine (Ring_good m A5 (n1 + 1) c5 (z1 ++ [(p, q)]) _ ((hr5.past hb6).past hb7) HB.out).mono ?_
  rintro e x8 ⟨rfl, hb8⟩
  have hb28 := hb57.trans (hb8.mono hb57.size)
  have hb08 := hb02.trans (hb28.mono hb02.size)
  have ox := hox.below hb28
  have oy := (hoy.below hb7).below hb8
  have op := hop.below hb8
  have hz := hr2.past hb28
  have g0' := (hb28.cell (p := ⟨u, 0, none⟩) hbl2).trans g0x
  have g1' := (hb28.cell (p := ⟨u, 1, none⟩) hbl2).trans g1x
  have hbl8 : u < x8.heap.size := Nat.lt_of_lt_of_le hbl2 hb28.size
  have hp := HP.out
  have hq := HQ.out
  subst hp hq
  have HX : Hid (∀ wr : World, Below x8.heap.size x8 wr → ∀ j, j < m → wr.cell? ⟨g, j, none⟩ = some (.int .i64 (Wa.dist m (Wa.nrow m z1) f j))) := by
    intro wr hbel j hj
    have := (ox.below hbel).cell j hj
    rwa [Wa.dists_at _ _ hj] at this
  have HY : Hid (∀ wr : World, Below x8.heap.size x8 wr → ∀ j, j < m → wr.cell? ⟨gy, j, none⟩ = some (.int .i64 (Wa.dist m (Wa.nrow m (z1 ++ [((a : Int), (b : Int))])) f j))) := by
    intro wr hbel j hj
    have := (oy.below hbel).cell j hj
    rwa [Wa.dists_at _ _ hj] at this
  have HM : Hid (∀ j, 0 ≤ Wa.dist m (Wa.nrow m z1) f j → 0 ≤ Wa.dist m (Wa.nrow m (z1 ++ [((a : Int), (b : Int))])) f j ∧ Wa.dist m (Wa.nrow m (z1 ++ [((a : Int), (b : Int))])) f j ≤ Wa.dist m (Wa.nrow m z1) f j) := fun j h => Wa.dist_mono (Wa.nrow_ok m z1) (Wa.nrow_ok m _) nrow_more hf h
  have HR : Hid (Wa.lab m (Wa.nrow m z1) m a = Wa.lab m (Wa.nrow m z1) m b → Gr.adj z1 (a : Int) (b : Int) = false → 0 < Wa.girth m (Wa.nrow m (z1 ++ [((a : Int), (b : Int))]))) := fun h1 h2 => closes ha hb h1 h2
  generalize Wa.girth m (Wa.nrow m (z1 ++ [((a : Int), (b : Int))])) = k at HR ⊢
  have hm8 : m ≤ 8 := by have := (Gr.code_zero.1 H.out).2.1; omega
  have ha1 : (0 : Int) ≤ (a : Int) := by omega
  have ha2 : (a : Int) < (m : Int) := by omega
  have hb1 : (0 : Int) ≤ (b : Int) := by omega
  have hb2 : (b : Int) < (m : Int) := by omega
  have hwr : IntKind.i64.wrap ((m : Int) - 1) = (m : Int) - 1 := by rw [IntKind.wrap_i64]; omega
  have hnn : ((m : Int) != (m : Int)) = false := by simp
  have hnn2 : (m != m) = false := by simp
  clear hox hoy hop hb6 hb7 hb8 hb56 hb57 hb25 hr5 hr2 HB HP HQ g0x g1x g0 g1 hb02 hb28 ox oy hbl2 ho
  go_wp2_with (go_at_call 9; refine (in_yes _ _ _ _ (by omega) (by omega)).mono ?_; rintro e x9 ⟨rfl, rfl⟩)
  go_loopw [18] (fun iv wr => ∃ i : Nat, i ≤ m ∧ iv = .int .i64 (i : Int) ∧ Below x8.heap.size x8 wr) (fun iv _ => m - (intOf iv).toNat)
  case atStart => exact ⟨0, Nat.zero_le _, rfl, Below.refl _ _⟩
  case round =>
    obtain ⟨i, him, rfl, hbel⟩ := hrel
    by_cases hlt : i < m
    · have hi1 : (0 : Int) ≤ (i : Int) := by omega
      have hi2 : (i : Int) < (m : Int) := by omega
      have p1 := HX.out wr hbel i hlt
      have p2 := HY.out wr hbel i hlt
      have hmo := HM.out i
      generalize Wa.dist m (Wa.nrow m z1) f i = s at p1 hmo
      generalize Wa.dist m (Wa.nrow m (z1 ++ [((a : Int), (b : Int))])) f i = t at p2 hmo
      clear g0' g1'
      by_cases hs : 0 ≤ s
      · obtain ⟨h1, h2⟩ := hmo hs
        have e1 : decide (0 ≤ s) = true := by simpa using hs
        have e2 : decide (t < 0) = false := by simp; omega
        have e3 : decide (s < t) = false := by simp; omega
        clear hmo
        go_wp2
        go_quiet (fail)
        go_wp2
        go_roundw
        case rel => exact ⟨i + 1, by omega, by go_num, hbel.trans (Below.drewN' _ _ _)⟩
        case measure => simp [intOf]; omega
      · have e1 : decide (0 ≤ s) = false := by simpa using hs
        clear hmo
        go_wp2
        go_quiet (fail)
        go_wp2
        go_roundw
        case rel => exact ⟨i + 1, by omega, by go_num, hbel.trans (Below.drewN' _ _ _)⟩
        case measure => simp [intOf]; omega
    · obtain rfl : i = m := by omega
      have q0 := (hbel.cell (p := ⟨u, 0, none⟩) hbl8).trans g0'
      have q1 := (hbel.cell (p := ⟨u, 1, none⟩) hbl8).trans g1'
      have p1 := (op.below hbel).cell a ha
      have p2 := (op.below hbel).cell b hb
      rw [Wa.labs_at _ _ ha] at p1
      rw [Wa.labs_at _ _ hb] at p2
      have hzr := hz.past hbel
      have hlast := HR.out
      generalize Wa.lab i (Wa.nrow i z1) i a = s at p1 hlast
      generalize Wa.lab i (Wa.nrow i z1) i b = t at p2 hlast
      clear HR HX HY HM g0' g1' op
      by_cases hst : s = t
      · have e1 : (s != t) = false := by simp [hst]
        have e2 : (s == t) = true := by simp [hst]
        cases hadj : Gr.adj z1 (a : Int) (b : Int) with
        | true =>
          have HA := Lib.hid hadj
          clear hadj hlast hst
          go_wp2
          go_quiet (first | (go_at_call 10; exact bes_q _ _ _ _ _ _ _ _ _ hzr HA.out))
          go_wp2
          go_ret
          exact ⟨rfl, hb08.trans ((hbel.trans (Below.drewN' _ _ _)).mono hb08.size)⟩
        | false =>
          have HA := Lib.hid hadj
          have hk := hlast hst hadj
          have e3 : decide (0 < k) = true := by simpa using hk
          clear hadj hlast hst
          go_wp2
          go_quiet (first | (go_at_call 10; exact bes_q _ _ _ _ _ _ _ _ _ hzr HA.out))
          go_wp2
          go_ret
          exact ⟨rfl, hb08.trans ((hbel.trans (Below.drewN' _ _ _)).mono hb08.size)⟩
      · have e1 : (s != t) = true := by simpa using hst
        have e2 : (s == t) = false := by simpa using hst
        clear hlast hst
        go_wp2
        go_quiet (fail)
        go_wp2
        go_ret
        exact ⟨rfl, hb08.trans ((hbel.trans (Below.drewN' _ _ _)).mono hb08.size)⟩

theorem walk (w : World) (a0 : Int) (_w0 : (Lit.int .i64 a0).wf = true) (a1 : Option Addr) (n1 c1 : Nat) (z1 : List Gr.Ln) (w1 : RdP w w.heap.size a1 n1 c1 z1) (p q : Int) (a3 : Int) (_w3 : (Lit.int .i64 a3).wf = true) :
    Calls Try.prog 6 #[.int .i64 a0, .slice a1 n1 c1, .agg #[.int .i64 p, .int .i64 q], .int .i64 a3] w fun e w' => e = .returned (.bool true) ∧ Below w.heap.size w w' := by
  by_cases hc : Wa.fcode a0 z1 a3 = 0
  · obtain ⟨h0, h1, h2⟩ := Wa.fcode_zero.1 hc
    obtain ⟨m, rfl⟩ : ∃ m : Nat, a0 = (m : Int) := ⟨a0.toNat, by have := (Gr.code_zero.1 h0).1; omega⟩
    obtain ⟨f, rfl⟩ : ∃ f : Nat, a3 = (f : Int) := ⟨a3.toNat, by omega⟩
    have hf : f < m := by omega
    have hl := (Gr.code_zero.1 h0).2.2.1
    rw [w1.len] at hl
    by_cases h24 : n1 = 24
    · subst h24
      exact fullup w m f a1 c1 z1 w1 p q h0 hf
    · by_cases hc2 : Wa.fcode (m : Int) (z1 ++ [(p, q)]) (f : Int) = 0
      · have h3 := (Wa.fcode_zero.1 hc2).1
        have hg := (Gr.code_zero.1 h3).2.2.2 (p, q) (by simp)
        obtain ⟨g1, g2, g3, g4, _⟩ := hg
        obtain ⟨a, ha⟩ : ∃ a : Nat, p = (a : Int) := ⟨p.toNat, by simp at g1; omega⟩
        obtain ⟨b, hb⟩ : ∃ b : Nat, q = (b : Int) := ⟨q.toNat, by simp at g3; omega⟩
        simp only at g2 g4
        exact good w m f a b a1 n1 c1 z1 w1 p q ha hb (by omega) (by omega) h0 hf (by omega) h3
      · exact bad2 w m f a1 n1 c1 z1 w1 p q h0 hf (by omega) hc2
  · exact bad w a0 a1 n1 c1 z1 w1 p q a3 hc

end Go.Proofs.Ytghmpdhopdmmiaa.walkMore
