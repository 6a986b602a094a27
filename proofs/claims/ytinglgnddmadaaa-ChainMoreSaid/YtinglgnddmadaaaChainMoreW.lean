/-
  The walk of the law ChainMore: for every number of points and lines, and every line more, it returns true.
-/
import Derived.Test.YtinglgnddmadaaaChainF
import Derived.BigQuiet
namespace Go.Proofs.Ytinglgnddmadaaa.chainMore
open Go.RowKit
set_option linter.unusedSimpArgs false
set_option linter.unusedVariables false

/-- one line more: rows no shorter, and no more of them -/
theorem longer {m d e : Nat} {ls : List Gr.Ln} {p : Gr.Ln} {o o' : List Int} (h : Cn.Fine m ls o) (h' : Cn.Fine m (ls ++ [p]) o') (hd : To.Top m ls d) (he : To.Top m (ls ++ [p]) e) : d ≤ e := by
  obtain ⟨_, ⟨i, hi, e1⟩, _⟩ := h.only hd
  obtain ⟨_, _, h2⟩ := h'.only he
  have h3 := Cn.deeper_more h.good h.step h.len h'.good h'.step h'.len (fun x hx => List.mem_append_left _ hx) hi
  have := h2 i hi
  omega
theorem fewer {m : Nat} {ls : List Gr.Ln} {p : Gr.Ln} {o o' : List Int} (h : Cn.Fine m ls o) (h' : Cn.Fine m (ls ++ [p]) o') : Ma.nu (To.comes m ls) m m ≤ Ma.nu (To.comes m (ls ++ [p])) m m :=
  Ma.nu_mono fun i hi j _ hg => Cn.comes_more h.good h'.good (fun x hx => List.mem_append_left _ hx) hi hg

set_option maxRecDepth 100000 in
set_option maxHeartbeats 4000000 in
/-- something is wrong, or there is no order -/
theorem bad (w : World) (a0 : Int) (a1 : Option Addr) (n1 c1 : Nat) (z1 : List Gr.Ln) (w1 : RdP w w.heap.size a1 n1 c1 z1) (p q : Int) (k : Int) (hk : Cn.Wrong a0 z1 k) :
    Calls Try.prog 5 #[.int .i64 a0, .slice a1 n1 c1, .agg #[.int .i64 p, .int .i64 q]] w fun e w' => e = .returned (.bool true) ∧ Below w.heap.size w w' := by
  obtain ⟨x0, hx0⟩ : ∃ x0, x0 = w.alloc (.cells #[.int .i64 p, .int .i64 q] 38) := ⟨_, rfl⟩
  have hb0 : Below w.heap.size w x0 := by rw [hx0]; exact (Below.refl _ _).alloc (Nat.le_refl _) _
  go_enter Try.func5, Try.ntmps5
  go_wp2_with fail
  rw [← hx0]
  clear hx0
  refine (chainFact_any _).mono ?_
  rintro e x1 ⟨rfl, hb1⟩
  have hb01 := hb0.trans (hb1.mono hb0.size)
  go_wp2_with fail
  refine (Longest_wrong a0 a1 n1 c1 z1 k _ (w1.past hb01) hk).mono ?_
  rintro e x2 ⟨rfl, hb2⟩
  have hb02 := hb01.trans (hb2.mono hb01.size)
  clear hb0 hb1 hb01 hb2
  go_wp2
  go_ret
  exact ⟨rfl, hb02⟩

set_option maxRecDepth 100000 in
set_option maxHeartbeats 4000000 in
/-- there are as many lines as there may be -/
theorem fullup (w : World) (m d : Nat) (x : Int) (a1 : Option Addr) (c1 : Nat) (z1 : List Gr.Ln) (o : List Int) (w1 : RdP w w.heap.size a1 24 c1 z1) (p q : Int) (h : Cn.Fine m z1 o) (hd : To.Top m z1 d) (hx : x = (d : Int) + 1) :
    Calls Try.prog 5 #[.int .i64 (m : Int), .slice a1 24 c1, .agg #[.int .i64 p, .int .i64 q]] w fun e w' => e = .returned (.bool true) ∧ Below w.heap.size w w' := by
  have HX := Lib.hid hx
  clear hx
  obtain ⟨x0, hx0⟩ : ∃ x0, x0 = w.alloc (.cells #[.int .i64 p, .int .i64 q] 38) := ⟨_, rfl⟩
  have hb0 : Below w.heap.size w x0 := by rw [hx0]; exact (Below.refl _ _).alloc (Nat.le_refl _) _
  go_enter Try.func5, Try.ntmps5
  go_wp2_with fail
  rw [← hx0]
  clear hx0
  refine (chainFact_any _).mono ?_
  rintro e x1 ⟨rfl, hb1⟩
  have hb01 := hb0.trans (hb1.mono hb0.size)
  go_wp2_with fail
  refine (Longest_yes m d x a1 24 c1 z1 o _ (w1.past hb01) h hd HX.out).mono ?_
  rintro e x2 ⟨rfl, hb2⟩
  have hb02 := hb01.trans (hb2.mono hb01.size)
  clear hb0 hb1 hb01 hb2
  go_wp2
  go_ret
  exact ⟨rfl, hb02⟩

set_option maxRecDepth 100000 in
set_option maxHeartbeats 4000000 in
/-- with the line more something is wrong, or there is no order -/
theorem bad2 (w : World) (m d : Nat) (x : Int) (a1 : Option Addr) (n1 c1 : Nat) (z1 : List Gr.Ln) (o : List Int) (w1 : RdP w w.heap.size a1 n1 c1 z1) (p q : Int) (h : Cn.Fine m z1 o) (hd : To.Top m z1 d) (hx : x = (d : Int) + 1) (h24 : n1 < 24) (k : Int) (hk : Cn.Wrong (m : Int) (z1 ++ [(p, q)]) k) :
    Calls Try.prog 5 #[.int .i64 (m : Int), .slice a1 n1 c1, .agg #[.int .i64 p, .int .i64 q]] w fun e w' => e = .returned (.bool true) ∧ Below w.heap.size w w' := by
  have HX := Lib.hid hx
  have HL := Lib.hid w1.len
  clear hx
  have d1 : (n1 == 24) = false := by simp; omega
  have d2 : ((n1 : Int) == 24) = false := by simp; omega
  obtain ⟨x0, hx0⟩ : ∃ x0, x0 = w.alloc (.cells #[.int .i64 p, .int .i64 q] 38) := ⟨_, rfl⟩
  have hb0 : Below w.heap.size w x0 := by rw [hx0]; exact (Below.refl _ _).alloc (Nat.le_refl _) _
  have hbl0 : w.heap.size < x0.heap.size := by rw [hx0]; simp
  have g0 : x0.cell? ⟨w.heap.size, 0, none⟩ = some (.int .i64 p) := by rw [hx0]; simp
  have g1 : x0.cell? ⟨w.heap.size, 1, none⟩ = some (.int .i64 q) := by rw [hx0]; simp
  obtain ⟨u, hu⟩ : ∃ u, u = w.heap.size := ⟨_, rfl⟩
  rw [← hu] at hbl0 g0 g1
  go_enter Try.func5, Try.ntmps5
  go_wp2_with fail
  rw [← hx0, ← hu]
  have HU := Lib.hid hu
  clear hx0 hu
  refine (chainFact_any _).mono ?_
  rintro e x1 ⟨rfl, hb1⟩
  have hb01 := hb0.trans (hb1.mono hb0.size)
  go_wp2_with fail
  refine (Longest_yes m d x a1 n1 c1 z1 o _ (w1.past hb01) h hd HX.out).mono ?_
  rintro e x2 ⟨rfl, hb2⟩
  have hb02 := hb01.trans (hb2.mono hb01.size)
  have hb12 := hb1.trans (hb2.mono hb1.size)
  replace g0 := (hb12.cell (p := ⟨u, 0, none⟩) hbl0).trans g0
  replace g1 := (hb12.cell (p := ⟨u, 1, none⟩) hbl0).trans g1
  have hr2 := w1.past hb02
  have hbl2 : u < x2.heap.size := Nat.lt_of_lt_of_le hbl0 hb12.size
  clear hb0 hb1 hb01 hb2 hb12 hbl0 w1
  have ho := OwnP.nil x2 x2.heap.size 38
  have hroom : ([] : List (Int × Int)).length + n1 ≤ 8796093022208 := by simp; omega
  have hroom2 : z1.length + 1 ≤ 8796093022208 := by rw [HL.out]; omega
  go_wp2_with (first
    | (at_builtin; refine wpList_appP _ rfl (.tmp 38) (.tmp 39) 22 rfl x2.heap.size 38 Try.underlying22 lineInfo (.slice none 0 0) _ rfl ho _ n1 c1 z1 rfl hr2 hroom (Nat.le_refl _) ?_; intro v3 x3 ho3 hg3 _
       have hb23 := below_appP (Below.refl x2.heap.size x2) ho hg3 (Nat.le_refl _)
       have g0' := (hb23.cell (p := ⟨u, 0, none⟩) hbl2).trans g0
       have g1' := (hb23.cell (p := ⟨u, 1, none⟩) hbl2).trans g1
       rw [List.nil_append] at ho3
       have hba := (Below.refl x3.heap.size x3).alloc (Nat.le_refl _) (.cells #[.int .i64 p, .int .i64 q] 38)
       have ho3' := ho3.below hba
       have hs3 : x2.heap.size ≤ (x3.alloc (.cells #[.int .i64 p, .int .i64 q] 38)).heap.size := Nat.le_trans hb23.size hba.size
       clear hg3)
    | (at_builtin; refine wpList_appP _ rfl (.tmp 41) (.tmp 43) 22 rfl x2.heap.size 38 Try.underlying22 lineInfo v3 _ rfl ho3' _ 1 1 [(p, q)] rfl (RdP.one x3 _ _) hroom2 hs3 ?_; intro v5 x5 ho5 hg5 _
       have hb25 := below_appP (hb23.trans (hba.mono hb23.size)) ho3' hg5 hs3
       obtain ⟨A5, c5, rfl, hr5⟩ := ho5.rd
       rw [List.length_append, HL.out, List.length_cons, List.length_nil, Nat.zero_add] at hr5
       rw [List.length_append, HL.out, List.length_cons, List.length_nil, Nat.zero_add]
       clear hg5 ho5 ho3 ho3' hba hs3 hb23 g0' g1'))
  refine (Longest_wrong (m : Int) A5 (n1 + 1) c5 (z1 ++ [(p, q)]) k _ hr5 hk).mono ?_
  rintro e x6 ⟨rfl, hb6⟩
  have hb := hb02.trans ((hb25.trans (hb6.mono hb25.size)).mono hb02.size)
  clear hb6 hb25 hb02 g0 g1 hr2 hr5
  go_wp2
  go_ret
  exact ⟨rfl, hb⟩

set_option maxRecDepth 100000 in
set_option maxHeartbeats 4000000 in
/-- there are too many points for rows -/
theorem many (w : World) (m d : Nat) (x : Int) (a1 : Option Addr) (n1 c1 : Nat) (z1 : List Gr.Ln) (o : List Int) (w1 : RdP w w.heap.size a1 n1 c1 z1) (p q : Int) (h : Cn.Fine m z1 o) (hd : To.Top m z1 d) (hx : x = (d : Int) + 1) (h24 : n1 < 24) (d2' : Nat) (y : Int) (o' : List Int) (h' : Cn.Fine m (z1 ++ [(p, q)]) o') (hd' : To.Top m (z1 ++ [(p, q)]) d2') (hy : y = (d2' : Int) + 1) (h6 : 6 < m) :
    Calls Try.prog 5 #[.int .i64 (m : Int), .slice a1 n1 c1, .agg #[.int .i64 p, .int .i64 q]] w fun e w' => e = .returned (.bool true) ∧ Below w.heap.size w w' := by
  have k1 : x ≤ y := by have := longer h h' hd hd'; omega
  have HY := Lib.hid hy
  clear hy
  have HX := Lib.hid hx
  have HL := Lib.hid w1.len
  clear hx
  have d1 : (n1 == 24) = false := by simp; omega
  have d2 : ((n1 : Int) == 24) = false := by simp; omega
  obtain ⟨x0, hx0⟩ : ∃ x0, x0 = w.alloc (.cells #[.int .i64 p, .int .i64 q] 38) := ⟨_, rfl⟩
  have hb0 : Below w.heap.size w x0 := by rw [hx0]; exact (Below.refl _ _).alloc (Nat.le_refl _) _
  have hbl0 : w.heap.size < x0.heap.size := by rw [hx0]; simp
  have g0 : x0.cell? ⟨w.heap.size, 0, none⟩ = some (.int .i64 p) := by rw [hx0]; simp
  have g1 : x0.cell? ⟨w.heap.size, 1, none⟩ = some (.int .i64 q) := by rw [hx0]; simp
  obtain ⟨u, hu⟩ : ∃ u, u = w.heap.size := ⟨_, rfl⟩
  rw [← hu] at hbl0 g0 g1
  go_enter Try.func5, Try.ntmps5
  go_wp2_with fail
  rw [← hx0, ← hu]
  have HU := Lib.hid hu
  clear hx0 hu
  refine (chainFact_any _).mono ?_
  rintro e x1 ⟨rfl, hb1⟩
  have hb01 := hb0.trans (hb1.mono hb0.size)
  go_wp2_with fail
  refine (Longest_yes m d x a1 n1 c1 z1 o _ (w1.past hb01) h hd HX.out).mono ?_
  rintro e x2 ⟨rfl, hb2⟩
  have hb02 := hb01.trans (hb2.mono hb01.size)
  have hb12 := hb1.trans (hb2.mono hb1.size)
  replace g0 := (hb12.cell (p := ⟨u, 0, none⟩) hbl0).trans g0
  replace g1 := (hb12.cell (p := ⟨u, 1, none⟩) hbl0).trans g1
  have hr2 := w1.past hb02
  have hbl2 : u < x2.heap.size := Nat.lt_of_lt_of_le hbl0 hb12.size
  clear hb0 hb1 hb01 hb2 hb12 hbl0 w1
  have ho := OwnP.nil x2 x2.heap.size 38
  have hroom : ([] : List (Int × Int)).length + n1 ≤ 8796093022208 := by simp; omega
  have hroom2 : z1.length + 1 ≤ 8796093022208 := by rw [HL.out]; omega
  go_wp2_with (first
    | (at_builtin; refine wpList_appP _ rfl (.tmp 38) (.tmp 39) 22 rfl x2.heap.size 38 Try.underlying22 lineInfo (.slice none 0 0) _ rfl ho _ n1 c1 z1 rfl hr2 hroom (Nat.le_refl _) ?_; intro v3 x3 ho3 hg3 _
       have hb23 := below_appP (Below.refl x2.heap.size x2) ho hg3 (Nat.le_refl _)
       have g0' := (hb23.cell (p := ⟨u, 0, none⟩) hbl2).trans g0
       have g1' := (hb23.cell (p := ⟨u, 1, none⟩) hbl2).trans g1
       rw [List.nil_append] at ho3
       have hba := (Below.refl x3.heap.size x3).alloc (Nat.le_refl _) (.cells #[.int .i64 p, .int .i64 q] 38)
       have ho3' := ho3.below hba
       have hs3 : x2.heap.size ≤ (x3.alloc (.cells #[.int .i64 p, .int .i64 q] 38)).heap.size := Nat.le_trans hb23.size hba.size
       clear hg3)
    | (at_builtin; refine wpList_appP _ rfl (.tmp 41) (.tmp 43) 22 rfl x2.heap.size 38 Try.underlying22 lineInfo v3 _ rfl ho3' _ 1 1 [(p, q)] rfl (RdP.one x3 _ _) hroom2 hs3 ?_; intro v5 x5 ho5 hg5 _
       have hb25 := below_appP (hb23.trans (hba.mono hb23.size)) ho3' hg5 hs3
       obtain ⟨A5, c5, rfl, hr5⟩ := ho5.rd
       rw [List.length_append, HL.out, List.length_cons, List.length_nil, Nat.zero_add] at hr5
       rw [List.length_append, HL.out, List.length_cons, List.length_nil, Nat.zero_add]
       clear hg5 ho5 ho3 ho3' hba hs3 hb23 g0' g1'))
  refine (Longest_yes m d2' y A5 (n1 + 1) c5 (z1 ++ [(p, q)]) o' _ hr5 h' hd' HY.out).mono ?_
  rintro e x6 ⟨rfl, hb6⟩
  have hb26 := hb25.trans (hb6.mono hb25.size)
  have hr6 := hr5.past hb6
  have hr2' := hr2.past hb26
  clear hb6 hb25 g0 g1 hr2 hr5
  go_wp2_with fail
  refine (Rows_full m a1 n1 c1 z1 o _ hr2' h h6).mono ?_
  rintro e x7 ⟨rfl, hb7⟩
  have hb27 := hb26.trans (hb7.mono hb26.size)
  have hr7 := hr6.past hb7
  clear hr2' hr6 hb7 hb26
  go_wp2_with fail
  refine (Rows_full m A5 (n1 + 1) c5 (z1 ++ [(p, q)]) o' _ hr7 h' h6).mono ?_
  rintro e x8 ⟨rfl, hb8⟩
  have hb := hb02.trans ((hb27.trans (hb8.mono hb27.size)).mono hb02.size)
  clear hr7 hb8 hb27 hb02
  go_wp2
  go_quiet (fail)
  go_wp2
  go_ret
  exact ⟨rfl, hb.trans (Below.drewN' _ _ _)⟩

set_option maxRecDepth 100000 in
set_option maxHeartbeats 4000000 in
/-- there are few enough -/
theorem good (w : World) (m d : Nat) (x : Int) (a1 : Option Addr) (n1 c1 : Nat) (z1 : List Gr.Ln) (o : List Int) (w1 : RdP w w.heap.size a1 n1 c1 z1) (p q : Int) (h : Cn.Fine m z1 o) (hd : To.Top m z1 d) (hx : x = (d : Int) + 1) (h24 : n1 < 24) (d2' : Nat) (y : Int) (o' : List Int) (h' : Cn.Fine m (z1 ++ [(p, q)]) o') (hd' : To.Top m (z1 ++ [(p, q)]) d2') (hy : y = (d2' : Int) + 1) (h6 : m ≤ 6) (r s : Int) (hr : r + (Ma.nu (To.comes m z1) m m : Nat) = (m : Int)) (hs : s + (Ma.nu (To.comes m (z1 ++ [(p, q)])) m m : Nat) = (m : Int)) :
    Calls Try.prog 5 #[.int .i64 (m : Int), .slice a1 n1 c1, .agg #[.int .i64 p, .int .i64 q]] w fun e w' => e = .returned (.bool true) ∧ Below w.heap.size w w' := by
  have k1 : x ≤ y := by have := longer h h' hd hd'; omega
  have k2 : s ≤ r := by have := fewer h h'; omega
  have HY := Lib.hid hy
  have HR := Lib.hid hr
  have HS := Lib.hid hs
  clear hy hr hs
  have HX := Lib.hid hx
  have HL := Lib.hid w1.len
  clear hx
  have d1 : (n1 == 24) = false := by simp; omega
  have d2 : ((n1 : Int) == 24) = false := by simp; omega
  obtain ⟨x0, hx0⟩ : ∃ x0, x0 = w.alloc (.cells #[.int .i64 p, .int .i64 q] 38) := ⟨_, rfl⟩
  have hb0 : Below w.heap.size w x0 := by rw [hx0]; exact (Below.refl _ _).alloc (Nat.le_refl _) _
  have hbl0 : w.heap.size < x0.heap.size := by rw [hx0]; simp
  have g0 : x0.cell? ⟨w.heap.size, 0, none⟩ = some (.int .i64 p) := by rw [hx0]; simp
  have g1 : x0.cell? ⟨w.heap.size, 1, none⟩ = some (.int .i64 q) := by rw [hx0]; simp
  obtain ⟨u, hu⟩ : ∃ u, u = w.heap.size := ⟨_, rfl⟩
  rw [← hu] at hbl0 g0 g1
  go_enter Try.func5, Try.ntmps5
  go_wp2_with fail
  rw [← hx0, ← hu]
  have HU := Lib.hid hu
  clear hx0 hu
  refine (chainFact_any _).mono ?_
  rintro e x1 ⟨rfl, hb1⟩
  have hb01 := hb0.trans (hb1.mono hb0.size)
  go_wp2_with fail
  refine (Longest_yes m d x a1 n1 c1 z1 o _ (w1.past hb01) h hd HX.out).mono ?_
  rintro e x2 ⟨rfl, hb2⟩
  have hb02 := hb01.trans (hb2.mono hb01.size)
  have hb12 := hb1.trans (hb2.mono hb1.size)
  replace g0 := (hb12.cell (p := ⟨u, 0, none⟩) hbl0).trans g0
  replace g1 := (hb12.cell (p := ⟨u, 1, none⟩) hbl0).trans g1
  have hr2 := w1.past hb02
  have hbl2 : u < x2.heap.size := Nat.lt_of_lt_of_le hbl0 hb12.size
  clear hb0 hb1 hb01 hb2 hb12 hbl0 w1
  have ho := OwnP.nil x2 x2.heap.size 38
  have hroom : ([] : List (Int × Int)).length + n1 ≤ 8796093022208 := by simp; omega
  have hroom2 : z1.length + 1 ≤ 8796093022208 := by rw [HL.out]; omega
  go_wp2_with (first
    | (at_builtin; refine wpList_appP _ rfl (.tmp 38) (.tmp 39) 22 rfl x2.heap.size 38 Try.underlying22 lineInfo (.slice none 0 0) _ rfl ho _ n1 c1 z1 rfl hr2 hroom (Nat.le_refl _) ?_; intro v3 x3 ho3 hg3 _
       have hb23 := below_appP (Below.refl x2.heap.size x2) ho hg3 (Nat.le_refl _)
       have g0' := (hb23.cell (p := ⟨u, 0, none⟩) hbl2).trans g0
       have g1' := (hb23.cell (p := ⟨u, 1, none⟩) hbl2).trans g1
       rw [List.nil_append] at ho3
       have hba := (Below.refl x3.heap.size x3).alloc (Nat.le_refl _) (.cells #[.int .i64 p, .int .i64 q] 38)
       have ho3' := ho3.below hba
       have hs3 : x2.heap.size ≤ (x3.alloc (.cells #[.int .i64 p, .int .i64 q] 38)).heap.size := Nat.le_trans hb23.size hba.size
       clear hg3)
    | (at_builtin; refine wpList_appP _ rfl (.tmp 41) (.tmp 43) 22 rfl x2.heap.size 38 Try.underlying22 lineInfo v3 _ rfl ho3' _ 1 1 [(p, q)] rfl (RdP.one x3 _ _) hroom2 hs3 ?_; intro v5 x5 ho5 hg5 _
       have hb25 := below_appP (hb23.trans (hba.mono hb23.size)) ho3' hg5 hs3
       obtain ⟨A5, c5, rfl, hr5⟩ := ho5.rd
       rw [List.length_append, HL.out, List.length_cons, List.length_nil, Nat.zero_add] at hr5
       rw [List.length_append, HL.out, List.length_cons, List.length_nil, Nat.zero_add]
       clear hg5 ho5 ho3 ho3' hba hs3 hb23 g0' g1'))
  refine (Longest_yes m d2' y A5 (n1 + 1) c5 (z1 ++ [(p, q)]) o' _ hr5 h' hd' HY.out).mono ?_
  rintro e x6 ⟨rfl, hb6⟩
  have hb26 := hb25.trans (hb6.mono hb25.size)
  have hr6 := hr5.past hb6
  have hr2' := hr2.past hb26
  clear hb6 hb25 g0 g1 hr2 hr5
  go_wp2_with fail
  refine (Rows_yes m r a1 n1 c1 z1 o _ hr2' h h6 HR.out).mono ?_
  rintro e x7 ⟨rfl, hb7⟩
  have hb27 := hb26.trans (hb7.mono hb26.size)
  have hr7 := hr6.past hb7
  clear hr2' hr6 hb7 hb26
  go_wp2_with fail
  refine (Rows_yes m s A5 (n1 + 1) c5 (z1 ++ [(p, q)]) o' _ hr7 h' h6 HS.out).mono ?_
  rintro e x8 ⟨rfl, hb8⟩
  have hb := hb02.trans ((hb27.trans (hb8.mono hb27.size)).mono hb02.size)
  clear hr7 hb8 hb27 hb02
  go_wp2
  go_quiet (fail)
  go_wp2
  go_ret
  exact ⟨rfl, hb.trans (Below.drewN' _ _ _)⟩

theorem walk (w : World) (a0 : Int) (w0 : (Lit.int .i64 a0).wf = true) (a1 : Option Addr) (n1 c1 : Nat) (z1 : List Gr.Ln) (w1 : RdP w w.heap.size a1 n1 c1 z1) (p q : Int) :
    Calls Try.prog 5 #[.int .i64 a0, .slice a1 n1 c1, .agg #[.int .i64 p, .int .i64 q]] w fun e w' => e = .returned (.bool true) ∧ Below w.heap.size w w' := by
  rcases Cn.wrong_or_fine a0 z1 with ⟨k, hk⟩ | ⟨m, o, rfl, h⟩
  · exact bad w a0 a1 n1 c1 z1 w1 p q k hk
  · obtain ⟨d, _, hd, _⟩ := h.top
    have hl := w1.len
    have h24 : n1 ≤ 24 := by have := (Gr.code_zero.1 h.code).2.2.1; omega
    rcases Nat.lt_or_ge n1 24 with hn | hn
    · rcases Cn.wrong_or_fine (m : Int) (z1 ++ [(p, q)]) with ⟨k, hk⟩ | ⟨m', o', e, h'⟩
      · exact bad2 w m d _ a1 n1 c1 z1 o w1 p q h hd rfl hn k hk
      · obtain rfl : m = m' := by omega
        obtain ⟨d', _, hd', _⟩ := h'.top
        rcases Nat.lt_or_ge 6 m with h6 | h6
        · exact many w m d _ a1 n1 c1 z1 o w1 p q h hd rfl hn d' _ o' h' hd' rfl h6
        · exact good w m d _ a1 n1 c1 z1 o w1 p q h hd rfl hn d' _ o' h' hd' rfl h6 ((m : Int) - (Ma.nu (To.comes m z1) m m : Nat)) ((m : Int) - (Ma.nu (To.comes m (z1 ++ [(p, q)])) m m : Nat)) (by omega) (by omega)
    · obtain rfl : n1 = 24 := by omega
      exact fullup w m d _ a1 c1 z1 o w1 p q h hd rfl

end Go.Proofs.Ytinglgnddmadaaa.chainMore
