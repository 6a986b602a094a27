/-
  The walk of the law StrongMore: for every number of points and lines, and every line more, it returns true.
-/
import Derived.Test.YtcapinapfobcbaaStrongF
import Derived.BigQuiet
namespace Go.Proofs.Ytcapinapfobcbaa.strongMore
open Go.RowKit
set_option linter.unusedSimpArgs false
set_option linter.unusedVariables false

/-- one line more joins parts, and parts none -/
theorem more {m : Nat} {ls : List Gr.Ln} {p : Gr.Ln} (h : Gr.code (m : Int) ls = 0) (h' : Gr.code (m : Int) (ls ++ [p]) = 0) {a b : Nat} (ha : a < m) (hb : b < m) (e : Sg.pt m ls a = Sg.pt m ls b) : Sg.pt m (ls ++ [p]) a = Sg.pt m (ls ++ [p]) b :=
  (Sg.pt_eq ha hb).2 (Sg.both_more (Gr.code_zero.1 h).2.2.2 (Gr.code_zero.1 h').2.2.2 (fun x hx => List.mem_append_left _ hx) ha hb ((Sg.pt_eq ha hb).1 e))

set_option maxRecDepth 100000 in
set_option maxHeartbeats 2000000 in
/-- something is wrong -/
theorem bad (w : World) (a0 : Int) (a1 : Option Addr) (n1 c1 : Nat) (z1 : List Gr.Ln) (w1 : RdP w w.heap.size a1 n1 c1 z1) (p q : Int) (hk : Gr.code a0 z1 ≠ 0) :
    Calls Try.prog 6 #[.int .i64 a0, .slice a1 n1 c1, .agg #[.int .i64 p, .int .i64 q]] w fun e w' => e = .returned (.bool true) ∧ Below w.heap.size w w' := by
  have HK := Lib.hid hk
  clear hk
  obtain ⟨x0, hx0⟩ : ∃ x0, x0 = w.alloc (.cells #[.int .i64 p, .int .i64 q] 42) := ⟨_, rfl⟩
  have hb0 : Below w.heap.size w x0 := by rw [hx0]; exact (Below.refl _ _).alloc (Nat.le_refl _) _
  go_enter Try.func6, Try.ntmps6
  go_wp2_with fail
  rw [← hx0]
  clear hx0
  refine (strongFact_any _).mono ?_
  rintro e x1 ⟨rfl, hb1⟩
  have hb01 := hb0.trans (hb1.mono hb0.size)
  go_wp2_with fail
  refine (Parts_code a0 a1 n1 c1 z1 _ (w1.past hb01) HK.out).mono ?_
  rintro e x2 ⟨rfl, hb2⟩
  have hb02 := hb01.trans (hb2.mono hb01.size)
  clear hb0 hb1 hb01 hb2
  go_wp2
  go_ret
  exact ⟨rfl, hb02⟩

set_option maxRecDepth 100000 in
set_option maxHeartbeats 2000000 in
/-- there are as many lines as there may be -/
theorem fullup (w : World) (m : Nat) (a1 : Option Addr) (c1 : Nat) (z1 : List Gr.Ln) (w1 : RdP w w.heap.size a1 24 c1 z1) (p q : Int) (h : Gr.code (m : Int) z1 = 0) :
    Calls Try.prog 6 #[.int .i64 (m : Int), .slice a1 24 c1, .agg #[.int .i64 p, .int .i64 q]] w fun e w' => e = .returned (.bool true) ∧ Below w.heap.size w w' := by
  have H := Lib.hid h
  clear h
  obtain ⟨x0, hx0⟩ : ∃ x0, x0 = w.alloc (.cells #[.int .i64 p, .int .i64 q] 42) := ⟨_, rfl⟩
  have hb0 : Below w.heap.size w x0 := by rw [hx0]; exact (Below.refl _ _).alloc (Nat.le_refl _) _
  go_enter Try.func6, Try.ntmps6
  go_wp2_with fail
  rw [← hx0]
  clear hx0
  refine (strongFact_any _).mono ?_
  rintro e x1 ⟨rfl, hb1⟩
  have hb01 := hb0.trans (hb1.mono hb0.size)
  go_wp2_with fail
  refine (Parts_yes m a1 24 c1 z1 _ (w1.past hb01) H.out).mono ?_
  rintro e x2 ⟨A2, c2, rfl, _, hb2⟩
  have hb02 := hb01.trans (hb2.mono hb01.size)
  clear hb0 hb1 hb01 hb2
  go_wp2
  go_ret
  exact ⟨rfl, hb02⟩

/-- both lists, in a world -/
def Two (w : World) (b1 o1 c1 b2 o2 c2 m : Nat) (ls ks : List Gr.Ln) (W : World) : Prop := Rd W W.heap.size (some ⟨b1, o1, none⟩) m c1 (Sg.parts m ls) ∧ Rd W W.heap.size (some ⟨b2, o2, none⟩) m c2 (Sg.parts m ks) ∧ Below w.heap.size w W
theorem Two.past {w W W' : World} {b1 o1 c1 b2 o2 c2 m : Nat} {ls ks : List Gr.Ln} (h : Two w b1 o1 c1 b2 o2 c2 m ls ks W) (hb : Below W.heap.size W W') : Two w b1 o1 c1 b2 o2 c2 m ls ks W' := ⟨h.1.past hb, h.2.1.past hb, h.2.2.trans (hb.mono h.2.2.size)⟩
theorem part_of {W : World} {b o m c : Nat} {ls : List Gr.Ln} (h : Rd W W.heap.size (some ⟨b, o, none⟩) m c (Sg.parts m ls)) {a : Nat} (ha : a < m) : W.cell? ⟨b, o + a, none⟩ = some (.int .i64 ((Sg.pt m ls a : Nat) : Int)) := by
  obtain ⟨b', o', e, _, hc⟩ := h.at_ (show 0 < m by omega)
  cases e
  have := hc a ha
  rwa [Sg.parts_at ha] at this

set_option maxRecDepth 100000 in
set_option maxHeartbeats 4000000 in
/-- with the line more something is wrong -/
theorem bad2 (w : World) (m : Nat) (a1 : Option Addr) (n1 c1 : Nat) (z1 : List Gr.Ln) (w1 : RdP w w.heap.size a1 n1 c1 z1) (p q : Int) (h : Gr.code (m : Int) z1 = 0) (h24 : n1 < 24) (hk : Gr.code (m : Int) (z1 ++ [(p, q)]) ≠ 0) :
    Calls Try.prog 6 #[.int .i64 (m : Int), .slice a1 n1 c1, .agg #[.int .i64 p, .int .i64 q]] w fun e w' => e = .returned (.bool true) ∧ Below w.heap.size w w' := by
  have hm8 : m ≤ 8 := by have := (Gr.code_zero.1 h).2.1; omega
  have hm1 : 1 ≤ m := by have := (Gr.code_zero.1 h).1; omega
  have H := Lib.hid h
  have HK := Lib.hid hk
  have HL := Lib.hid w1.len
  clear h hk
  have d1 : (n1 == 24) = false := by simp; omega
  have d2 : ((n1 : Int) == 24) = false := by simp; omega
  obtain ⟨x0, hx0⟩ : ∃ x0, x0 = w.alloc (.cells #[.int .i64 p, .int .i64 q] 42) := ⟨_, rfl⟩
  have hb0 : Below w.heap.size w x0 := by rw [hx0]; exact (Below.refl _ _).alloc (Nat.le_refl _) _
  have hbl0 : w.heap.size < x0.heap.size := by rw [hx0]; simp
  have g0 : x0.cell? ⟨w.heap.size, 0, none⟩ = some (.int .i64 p) := by rw [hx0]; simp
  have g1 : x0.cell? ⟨w.heap.size, 1, none⟩ = some (.int .i64 q) := by rw [hx0]; simp
  obtain ⟨u, hu⟩ : ∃ u, u = w.heap.size := ⟨_, rfl⟩
  rw [← hu] at hbl0 g0 g1
  go_enter Try.func6, Try.ntmps6
  go_wp2_with fail
  rw [← hx0, ← hu]
  have HU := Lib.hid hu
  clear hx0 hu
  refine (strongFact_any _).mono ?_
  rintro e x1 ⟨rfl, hb1⟩
  have hb01 := hb0.trans (hb1.mono hb0.size)
  go_wp2_with fail
  refine (Parts_yes m a1 n1 c1 z1 _ (w1.past hb01) H.out).mono ?_
  rintro e x2 ⟨A2, c2, rfl, rP, hb2⟩
  have hb02 := hb01.trans (hb2.mono hb01.size)
  have hb12 := hb1.trans (hb2.mono hb1.size)
  replace g0 := (hb12.cell (p := ⟨u, 0, none⟩) hbl0).trans g0
  replace g1 := (hb12.cell (p := ⟨u, 1, none⟩) hbl0).trans g1
  have hr2 := w1.past hb02
  have hbl2 : u < x2.heap.size := Nat.lt_of_lt_of_le hbl0 hb12.size
  clear hb0 hb1 hb01 hb2 hb12 hbl0 w1
  have ho := OwnP.nil x2 x2.heap.size 42
  have hroom : ([] : List (Int × Int)).length + n1 ≤ 8796093022208 := by simp; omega
  have hroom2 : z1.length + 1 ≤ 8796093022208 := by rw [HL.out]; omega
  go_wp2_with (first
    | (at_builtin; refine wpList_appP _ rfl (.tmp 37) (.tmp 38) 22 rfl x2.heap.size 42 Try.underlying22 lineInfo (.slice none 0 0) _ rfl ho _ n1 c1 z1 rfl hr2 hroom (Nat.le_refl _) ?_; intro v3 x3 ho3 hg3 _
       have hb23 := below_appP (Below.refl x2.heap.size x2) ho hg3 (Nat.le_refl _)
       have g0' := (hb23.cell (p := ⟨u, 0, none⟩) hbl2).trans g0
       have g1' := (hb23.cell (p := ⟨u, 1, none⟩) hbl2).trans g1
       rw [List.nil_append] at ho3
       have hba := (Below.refl x3.heap.size x3).alloc (Nat.le_refl _) (.cells #[.int .i64 p, .int .i64 q] 42)
       have ho3' := ho3.below hba
       have hs3 : x2.heap.size ≤ (x3.alloc (.cells #[.int .i64 p, .int .i64 q] 42)).heap.size := Nat.le_trans hb23.size hba.size
       clear hg3)
    | (at_builtin; refine wpList_appP _ rfl (.tmp 42) (.tmp 44) 22 rfl x2.heap.size 42 Try.underlying22 lineInfo v3 _ rfl ho3' _ 1 1 [(p, q)] rfl (RdP.one x3 _ _) hroom2 hs3 ?_; intro v5 x5 ho5 hg5 _
       have hb25 := below_appP (hb23.trans (hba.mono hb23.size)) ho3' hg5 hs3
       obtain ⟨A5, c5, rfl, hr5⟩ := ho5.rd
       rw [List.length_append, HL.out, List.length_cons, List.length_nil, Nat.zero_add] at hr5
       rw [List.length_append, HL.out, List.length_cons, List.length_nil, Nat.zero_add]
       clear hg5 ho5 ho3 ho3' hba hs3 hb23 g0' g1'))
  refine (Parts_code (m : Int) A5 (n1 + 1) c5 (z1 ++ [(p, q)]) _ hr5 HK.out).mono ?_
  rintro e x6 ⟨rfl, hb6⟩
  have hb := hb02.trans ((hb25.trans (hb6.mono hb25.size)).mono hb02.size)
  clear hb6 hb25 hb02 g0 g1 hr2 hr5 rP
  go_wp2
  go_ret
  exact ⟨rfl, hb⟩

set_option maxRecDepth 100000 in
set_option maxHeartbeats 4000000 in
/-- with the line more all is well -/
theorem good (w : World) (m : Nat) (a1 : Option Addr) (n1 c1 : Nat) (z1 : List Gr.Ln) (w1 : RdP w w.heap.size a1 n1 c1 z1) (p q : Int) (h : Gr.code (m : Int) z1 = 0) (h24 : n1 < 24) (hk : Gr.code (m : Int) (z1 ++ [(p, q)]) = 0) :
    Calls Try.prog 6 #[.int .i64 (m : Int), .slice a1 n1 c1, .agg #[.int .i64 p, .int .i64 q]] w fun e w' => e = .returned (.bool true) ∧ Below w.heap.size w w' := by
  have hm8 : m ≤ 8 := by have := (Gr.code_zero.1 h).2.1; omega
  have hm1 : 1 ≤ m := by have := (Gr.code_zero.1 h).1; omega
  have H := Lib.hid h
  have HK := Lib.hid hk
  have HL := Lib.hid w1.len
  clear h hk
  have d1 : (n1 == 24) = false := by simp; omega
  have d2 : ((n1 : Int) == 24) = false := by simp; omega
  obtain ⟨x0, hx0⟩ : ∃ x0, x0 = w.alloc (.cells #[.int .i64 p, .int .i64 q] 42) := ⟨_, rfl⟩
  have hb0 : Below w.heap.size w x0 := by rw [hx0]; exact (Below.refl _ _).alloc (Nat.le_refl _) _
  have hbl0 : w.heap.size < x0.heap.size := by rw [hx0]; simp
  have g0 : x0.cell? ⟨w.heap.size, 0, none⟩ = some (.int .i64 p) := by rw [hx0]; simp
  have g1 : x0.cell? ⟨w.heap.size, 1, none⟩ = some (.int .i64 q) := by rw [hx0]; simp
  obtain ⟨u, hu⟩ : ∃ u, u = w.heap.size := ⟨_, rfl⟩
  rw [← hu] at hbl0 g0 g1
  go_enter Try.func6, Try.ntmps6
  go_wp2_with fail
  rw [← hx0, ← hu]
  have HU := Lib.hid hu
  clear hx0 hu
  refine (strongFact_any _).mono ?_
  rintro e x1 ⟨rfl, hb1⟩
  have hb01 := hb0.trans (hb1.mono hb0.size)
  go_wp2_with fail
  refine (Parts_yes m a1 n1 c1 z1 _ (w1.past hb01) H.out).mono ?_
  rintro e x2 ⟨A2, c2, rfl, rP, hb2⟩
  have hb02 := hb01.trans (hb2.mono hb01.size)
  have hb12 := hb1.trans (hb2.mono hb1.size)
  replace g0 := (hb12.cell (p := ⟨u, 0, none⟩) hbl0).trans g0
  replace g1 := (hb12.cell (p := ⟨u, 1, none⟩) hbl0).trans g1
  have hr2 := w1.past hb02
  have hbl2 : u < x2.heap.size := Nat.lt_of_lt_of_le hbl0 hb12.size
  clear hb0 hb1 hb01 hb2 hb12 hbl0 w1
  have ho := OwnP.nil x2 x2.heap.size 42
  have hroom : ([] : List (Int × Int)).length + n1 ≤ 8796093022208 := by simp; omega
  have hroom2 : z1.length + 1 ≤ 8796093022208 := by rw [HL.out]; omega
  go_wp2_with (first
    | (at_builtin; refine wpList_appP _ rfl (.tmp 37) (.tmp 38) 22 rfl x2.heap.size 42 Try.underlying22 lineInfo (.slice none 0 0) _ rfl ho _ n1 c1 z1 rfl hr2 hroom (Nat.le_refl _) ?_; intro v3 x3 ho3 hg3 _
       have hb23 := below_appP (Below.refl x2.heap.size x2) ho hg3 (Nat.le_refl _)
       have g0' := (hb23.cell (p := ⟨u, 0, none⟩) hbl2).trans g0
       have g1' := (hb23.cell (p := ⟨u, 1, none⟩) hbl2).trans g1
       rw [List.nil_append] at ho3
       have hba := (Below.refl x3.heap.size x3).alloc (Nat.le_refl _) (.cells #[.int .i64 p, .int .i64 q] 42)
       have ho3' := ho3.below hba
       have hs3 : x2.heap.size ≤ (x3.alloc (.cells #[.int .i64 p, .int .i64 q] 42)).heap.size := Nat.le_trans hb23.size hba.size
       clear hg3)
    | (at_builtin; refine wpList_appP _ rfl (.tmp 42) (.tmp 44) 22 rfl x2.heap.size 42 Try.underlying22 lineInfo v3 _ rfl ho3' _ 1 1 [(p, q)] rfl (RdP.one x3 _ _) hroom2 hs3 ?_; intro v5 x5 ho5 hg5 _
       have hb25 := below_appP (hb23.trans (hba.mono hb23.size)) ho3' hg5 hs3
       obtain ⟨A5, c5, rfl, hr5⟩ := ho5.rd
       rw [List.length_append, HL.out, List.length_cons, List.length_nil, Nat.zero_add] at hr5
       rw [List.length_append, HL.out, List.length_cons, List.length_nil, Nat.zero_add]
       clear hg5 ho5 ho3 ho3' hba hs3 hb23 g0' g1'))
  refine (Parts_yes m A5 (n1 + 1) c5 (z1 ++ [(p, q)]) _ hr5 HK.out).mono ?_
  rintro e x6 ⟨A6, c6, rfl, rQ, hb6⟩
  have hb := hb02.trans ((hb25.trans (hb6.mono hb25.size)).mono hb02.size)
  have rP6 := rP.past (hb25.trans (hb6.mono hb25.size))
  obtain ⟨bA, oA, rfl, _, _⟩ := rP6.at_ (by omega)
  obtain ⟨bB, oB, rfl, _, _⟩ := rQ.at_ (by omega)
  have HW : Two w bA oA c2 bB oB c6 m z1 (z1 ++ [(p, q)]) x6 := ⟨rP6, rQ, hb⟩
  have HMO : Hid (∀ a b : Nat, a < m → b < m → Sg.pt m z1 a = Sg.pt m z1 b → Sg.pt m (z1 ++ [(p, q)]) a = Sg.pt m (z1 ++ [(p, q)]) b) := fun a b ha hb e => more H.out HK.out ha hb e
  clear hb6 hb25 hb02 g0 g1 hr2 hr5 rP rP6 rQ hb
  go_wp2
  go_loopw [12, 13] (fun iv _ wr => ∃ a : Nat, a ≤ m ∧ iv = .int .i64 (a : Int) ∧ Two w bA oA c2 bB oB c6 m z1 (z1 ++ [(p, q)]) wr) (fun iv _ _ => m - (intOf iv).toNat)
  case atStart => exact ⟨0, Nat.zero_le _, rfl, HW⟩
  case round =>
    clear HW
    obtain ⟨a, ha, rfl, HW⟩ := hrel
    by_cases hlt : a < m
    · have a1' : (0 : Int) ≤ (a : Int) := by omega
      have a2' : (a : Int) < (m : Int) := by omega
      go_wp2
      go_loopw [13] (fun iv wr => ∃ b : Nat, b ≤ m ∧ iv = .int .i64 (b : Int) ∧ Two w bA oA c2 bB oB c6 m z1 (z1 ++ [(p, q)]) wr) (fun iv _ => m - (intOf iv).toNat)
      case atStart => exact ⟨0, Nat.zero_le _, rfl, HW⟩
      case round =>
        clear HW
        obtain ⟨b, hb, rfl, HW⟩ := hrel
        by_cases hlb : b < m
        · have b1' : (0 : Int) ≤ (b : Int) := by omega
          have b2' : (b : Int) < (m : Int) := by omega
          have g1 := part_of HW.1 hlt
          have g2 := part_of HW.1 hlb
          have g3 := part_of HW.2.1 hlt
          have g4 := part_of HW.2.1 hlb
          have hmo := HMO.out a b hlt hlb
          obtain ⟨y1, hy1⟩ : ∃ y, y = Sg.pt m z1 a := ⟨_, rfl⟩
          obtain ⟨y2, hy2⟩ : ∃ y, y = Sg.pt m z1 b := ⟨_, rfl⟩
          obtain ⟨y3, hy3⟩ : ∃ y, y = Sg.pt m (z1 ++ [(p, q)]) a := ⟨_, rfl⟩
          obtain ⟨y4, hy4⟩ : ∃ y, y = Sg.pt m (z1 ++ [(p, q)]) b := ⟨_, rfl⟩
          rw [← hy1] at g1
          rw [← hy2] at g2
          rw [← hy3] at g3
          rw [← hy4] at g4
          rw [← hy1, ← hy2, ← hy3, ← hy4] at hmo
          clear hy1 hy2 hy3 hy4
          by_cases he : y1 = y2
          · have e34 := hmo he
            clear hmo
            subst he
            subst e34
            go_wp2
            go_quiet (fail)
            go_wp2
            go_roundw
            case rel => exact ⟨b + 1, by omega, by go_num, HW.past (Below.drewN' _ _ _)⟩
            case measure => simp [intOf]; omega
          · have d3 : ((y1 : Int) == (y2 : Int)) = false := by simp; omega
            clear he hmo
            go_wp2
            go_quiet (fail)
            go_wp2
            go_roundw
            case rel => exact ⟨b + 1, by omega, by go_num, HW.past (Below.drewN' _ _ _)⟩
            case measure => simp [intOf]; omega
        · go_wp2
          go_roundw
          case rel => exact ⟨a + 1, by omega, by go_num, HW⟩
          case measure => simp [intOf]; omega
    · go_wp2
      go_ret
      exact ⟨rfl, HW.2.2⟩

theorem walk (w : World) (a0 : Int) (w0 : (Lit.int .i64 a0).wf = true) (a1 : Option Addr) (n1 c1 : Nat) (z1 : List Gr.Ln) (w1 : RdP w w.heap.size a1 n1 c1 z1) (x2 y2 : Int) :
    Calls Try.prog 6 #[.int .i64 a0, .slice a1 n1 c1, .agg #[.int .i64 x2, .int .i64 y2]] w fun e w' => e = .returned (.bool true) ∧ Below w.heap.size w w' := by
  by_cases h : Gr.code a0 z1 = 0
  · obtain ⟨m, rfl⟩ : ∃ m : Nat, a0 = (m : Int) := ⟨a0.toNat, by have := (Gr.code_zero.1 h).1; omega⟩
    have hl := w1.len
    have h24 := (Gr.code_zero.1 h).2.2.1
    by_cases hn : n1 = 24
    · subst hn
      exact fullup w m a1 c1 z1 w1 x2 y2 h
    · by_cases hk : Gr.code (m : Int) (z1 ++ [(x2, y2)]) = 0
      · exact good w m a1 n1 c1 z1 w1 x2 y2 h (by omega) hk
      · exact bad2 w m a1 n1 c1 z1 w1 x2 y2 h (by omega) hk
  · exact bad w a0 a1 n1 c1 z1 w1 x2 y2 h

end Go.Proofs.Ytcapinapfobcbaa.strongMore
