/-
  Contracts of the reference on ors of two: 'in', Ors (what is wrong), Right, Answer (by trying all).
-/
import Derived.Test.YthalopmplekdoaaDoorLibO
import Derived.Test.YthalopmplekdoaaDoorLibB
import Derived.Test.YthalopmplekdoaaDoorPairsP
import Derived.Test.YthalopmplekdoaaDoorSeen
import Derived.BigQuiet
namespace Go.Proofs.YthalopmplekdoaaDoor.RefPa
open Go.RowKit
set_option linter.unusedSimpArgs false
set_option linter.unusedVariables false

theorem in_yes (n a b : Int) (w : World) (h1 : a ≤ n) (h2 : n ≤ b) :
    Calls Tryd.prog 18 #[.int .i64 n, .int .i64 a, .int .i64 b] w fun e w' => e = .returned (.bool true) ∧ w = w' := by
  go_enter Tryd.func18, Tryd.ntmps18
  go_wp2
  go_ret
  exact ⟨rfl, rfl⟩
theorem in_no (n a b : Int) (w : World) (h : n < a ∨ b < n) :
    Calls Tryd.prog 18 #[.int .i64 n, .int .i64 a, .int .i64 b] w fun e w' => e = .returned (.bool false) ∧ w = w' := by
  by_cases ha : n < a
  · go_enter Tryd.func18, Tryd.ntmps18
    go_wp2
    go_ret
    exact ⟨rfl, rfl⟩
  · have h1 : a ≤ n := by omega
    have hd : decide (n ≤ b) = false := by simp; omega
    clear h ha
    go_enter Tryd.func18, Tryd.ntmps18
    go_wp2
    go_ret
    exact ⟨rfl, rfl⟩

set_option maxRecDepth 100000 in
set_option maxHeartbeats 1000000 in
theorem Ors_any (n : Int) (A : Option Addr) (k c : Nat) (cs : List Or2) (w : World) (hr : RdO w w.heap.size A k c cs) :
    Calls Tryd.prog 7 #[.int .i64 n, .slice A k c] w fun e w' => e = .returned (.int .i64 (Pa.code n cs)) ∧ w = w' := by
  have HX := Lib.hid hr.len
  have hbig := hr.big
  by_cases h1 : n < 1 ∨ 4 < n
  · have hfin : Hid (Pa.code n cs = 1) := Pa.code_range h1
    go_enter Tryd.func7, Tryd.ntmps7
    go_wp2_with fail
    refine (in_no n 1 4 _ h1).mono ?_
    rintro e w1 ⟨rfl, rfl⟩
    go_wp2
    go_ret
    exact ⟨by rw [hfin.out]; rfl, rfl⟩
  by_cases h20 : 20 < k
  · have hfin : Hid (Pa.code n cs = 4) := Pa.code_full h1 (by rw [HX.out]; exact h20)
    go_enter Tryd.func7, Tryd.ntmps7
    go_wp2_with fail
    refine (in_yes n 1 4 _ (by omega) (by omega)).mono ?_
    rintro e w1 ⟨rfl, rfl⟩
    go_wp2
    go_ret
    exact ⟨by rw [hfin.out]; rfl, rfl⟩
  have h0 : Hid (∀ i : Nat, i < 0 → Pa.fits n (cs.getD i or0) = true) := fun i hi => by omega
  have H1 := Lib.hid h1
  have s1 : IntKind.i64.wrap (n - 1) = n - 1 := by rw [IntKind.wrap_i64]; omega
  go_enter Tryd.func7, Tryd.ntmps7
  go_wp2_with fail
  refine (in_yes n 1 4 _ (by omega) (by omega)).mono ?_
  rintro e w1 ⟨rfl, rfl⟩
  go_wp2
  go_loop [5] (fun i => ∃ j : Nat, j ≤ k ∧ i = .int .i64 j ∧ Hid (∀ i : Nat, i < j → Pa.fits n (cs.getD i or0) = true)) (fun i => k - (intOf i).toNat)
  case atStart => exact ⟨0, Nat.zero_le _, rfl, h0⟩
  case round =>
    clear h0
    obtain ⟨j, hj, rfl, H⟩ := hrel
    by_cases hlt : j < k
    · obtain ⟨b1, o1, rfl, hbb, hcc⟩ := hr.at_ (by omega)
      obtain ⟨g0, g1, g2, g3⟩ := hcc j hlt
      clear hcc
      have hmem : Hid (cs.getD j or0 ∈ cs) := by
        show _ ∈ _
        have : j < cs.length := by rw [HX.out]; exact hlt
        simp [List.getD, this]
      obtain ⟨⟨⟨a, s⟩, ⟨b, t⟩⟩, hp⟩ : ∃ p, p = cs.getD j or0 := ⟨_, rfl⟩
      rw [← hp] at g0 g1 g2 g3 hmem
      have HP := Lib.hid hp
      clear hp
      simp only at g0 g1 g2 g3
      by_cases ha : a < 0 ∨ n ≤ a
      · have hfin : Hid (Pa.code n cs = 1) := Pa.code_name H1.out (by rw [HX.out]; exact h20) hmem.out (by unfold Pa.fits Pa.isName; simp; omega)
        go_wp2_with fail
        refine (in_no a 0 (n - 1) _ (by omega)).mono ?_
        rintro e w1 ⟨rfl, rfl⟩
        go_wp2
        go_ret
        exact ⟨by rw [hfin.out]; rfl, rfl⟩
      · by_cases hb : b < 0 ∨ n ≤ b
        · have hfin : Hid (Pa.code n cs = 1) := Pa.code_name H1.out (by rw [HX.out]; exact h20) hmem.out (by unfold Pa.fits Pa.isName; simp; omega)
          go_wp2_with fail
          refine (in_yes a 0 (n - 1) _ (by omega) (by omega)).mono ?_
          rintro e w1 ⟨rfl, rfl⟩
          go_wp2_with fail
          refine (in_no b 0 (n - 1) _ (by omega)).mono ?_
          rintro e w1 ⟨rfl, rfl⟩
          go_wp2
          go_ret
          exact ⟨by rw [hfin.out]; rfl, rfl⟩
        · have hnext : Hid (∀ i : Nat, i < j + 1 → Pa.fits n (cs.getD i or0) = true) := by
            intro i hi
            by_cases e : i = j
            · rw [e, ← HP.out]; unfold Pa.fits Pa.isName; simp; omega
            · exact H.out i (by omega)
          go_wp2_with fail
          refine (in_yes a 0 (n - 1) _ (by omega) (by omega)).mono ?_
          rintro e w1 ⟨rfl, rfl⟩
          go_wp2_with fail
          refine (in_yes b 0 (n - 1) _ (by omega) (by omega)).mono ?_
          rintro e w1 ⟨rfl, rfl⟩
          go_wp2
          go_round
          case rel => exact ⟨j + 1, by omega, by go_num, hnext⟩
          case measure => simp [intOf]; omega
    · have hfin : Hid (Pa.code n cs = 0) := by
        refine Pa.code_zero.2 ⟨by omega, by omega, by rw [HX.out]; omega, fun c hc => ?_⟩
        obtain ⟨i, hi, e⟩ := List.mem_iff_getElem.1 hc
        have := H.out i (by rw [HX.out] at hi; omega)
        rw [← e]
        simpa [List.getD, hi] using this
      go_wp2
      go_ret
      exact ⟨by rw [hfin.out]; rfl, rfl⟩

set_option maxRecDepth 100000 in
set_option maxHeartbeats 2000000 in
theorem Right_any (N : Nat) (A B : Option Addr) (k c d : Nat) (cs : List Or2) (v : List Bool) (t : Bool) (w : World) (hr : RdO w w.heap.size A k c cs) (hv : RdB w w.heap.size B N d v) (hg : ∀ c ∈ cs, Pa.Good N c) (ht : Pa.right cs v = t) :
    Calls Tryd.prog 14 #[.slice A k c, .slice B N d] w fun e w' => e = .returned (.bool t) ∧ Below w.heap.size w w' := by
  have HG := Lib.hid hg
  have HT := Lib.hid ht
  have HX := Lib.hid hr.len
  have hbig := hr.big
  clear hg ht
  have h0 : Hid (Pa.right (cs.take 0) v = true) := by show _ = _; simp [Pa.right]
  go_enter Tryd.func14, Tryd.ntmps14
  go_wp2
  go_loopw [5, 6, 7] (fun i _ _ wr => ∃ j : Nat, j ≤ k ∧ i = .int .i64 j ∧ Below w.heap.size w wr ∧ Hid (Pa.right (cs.take j) v = true)) (fun i _ _ _ => k - (intOf i).toNat)
  case atStart => exact ⟨0, Nat.zero_le _, rfl, Below.refl _ _, h0⟩
  case round =>
    clear h0
    obtain ⟨j, hj, rfl, hbel, HR⟩ := hrel
    have hrr := hr.past hbel
    have hvr := hv.past hbel
    by_cases hlt : j < k
    · obtain ⟨b1, o1, rfl, hbb, hcc⟩ := hrr.at_ (by omega)
      obtain ⟨g0, g1, g2, g3⟩ := hcc j hlt
      clear hcc
      have hjl : j < cs.length := by rw [HX.out]; exact hlt
      have hmem : cs.getD j or0 ∈ cs := by simp [List.getD, hjl]
      have hgood := HG.out _ hmem
      obtain ⟨⟨⟨a, s⟩, ⟨b, u⟩⟩, hp⟩ : ∃ p, p = cs.getD j or0 := ⟨_, rfl⟩
      rw [← hp] at g0 g1 g2 g3 hgood
      unfold Pa.Good at hgood
      simp only at g0 g1 g2 g3 hgood
      obtain ⟨ha0, haN, hb0, hbN⟩ := hgood
      obtain ⟨a', rfl⟩ : ∃ a' : Nat, a = (a' : Int) := ⟨a.toNat, by omega⟩
      obtain ⟨b', rfl⟩ : ∃ b' : Nat, b = (b' : Int) := ⟨b.toNat, by omega⟩
      obtain ⟨b2, o2, rfl, hb2, hc2⟩ := hvr.at_ (by omega)
      have k1 := hc2 a' (by omega)
      have k2 := hc2 b' (by omega)
      obtain ⟨x, hx⟩ : ∃ x, x = v.getD a' false := ⟨_, rfl⟩
      obtain ⟨y, hy⟩ : ∃ y, y = v.getD b' false := ⟨_, rfl⟩
      rw [← hx] at k1
      rw [← hy] at k2
      obtain ⟨t1, ht1⟩ : ∃ t1, (x == s) = t1 := ⟨_, rfl⟩
      obtain ⟨t2, ht2⟩ : ∃ t2, (y == u) = t2 := ⟨_, rfl⟩
      have e1 : Pa.say v ((a' : Int), s) = !t1 := by rw [← ht1, hx]; unfold Pa.say; simp only [Int.toNat_natCast]; cases v.getD a' false <;> cases s <;> rfl
      have e2 : Pa.say v ((b' : Int), u) = !t2 := by rw [← ht2, hy]; unfold Pa.say; simp only [Int.toNat_natCast]; cases v.getD b' false <;> cases u <;> rfl
      have HN : Hid (Pa.right (cs.take (j + 1)) v = (!t1 || !t2)) := by
        show _ = _
        rw [Pa.right_to hjl v (((a' : Int), s), ((b' : Int), u)) hp, HR.out, e1, e2]; rfl
      have HS : Hid ((!t1 || !t2) = false → Pa.right cs v = false) := fun hf => Pa.right_stop hjl v (((a' : Int), s), ((b' : Int), u)) hp (by rw [e1, e2]; exact hf)
      have j0 : (0 : Int) ≤ (j : Int) := by omega
      have j1 : (j : Int) < (k : Int) := by omega
      clear hp hmem hjl hvr hrr hbb hc2 hx hy e1 e2 hb2
      go_wp2
      go_quiet (fail)
      obtain ⟨y1, hy1⟩ : ∃ y1, y1 = wr.drewN nq := ⟨_, rfl⟩
      have m0 : y1.cell? ⟨b1, o1 + j * 4, none⟩ = some (.int .i64 (a' : Int)) := by rw [hy1]; exact g0
      have m1 : y1.cell? ⟨b1, o1 + j * 4 + 1, none⟩ = some (.bool s) := by rw [hy1]; exact g1
      have m2 : y1.cell? ⟨b1, o1 + j * 4 + 2, none⟩ = some (.int .i64 (b' : Int)) := by rw [hy1]; exact g2
      have m3 : y1.cell? ⟨b1, o1 + j * 4 + 3, none⟩ = some (.bool u) := by rw [hy1]; exact g3
      have m4 : y1.cell? ⟨b2, o2 + b', none⟩ = some (.bool y) := by rw [hy1]; exact k2
      have hbel1 : Below w.heap.size w y1 := by rw [hy1]; exact hbel.trans (Below.drewN' _ _ _)
      rw [← hy1]
      clear hy1 g0 g1 g2 g3 k1 k2 hbel
      go_wp2
      go_quiet (fail)
      have hbel2 := hbel1.trans (Below.drewN' _ y1 nq)
      cases t1 with
      | false =>
        go_wp2
        go_roundw
        case rel => exact ⟨j + 1, by omega, by go_num, hbel2, HN⟩
        case measure => simp [intOf]; omega
      | true =>
        cases t2 with
        | false =>
          go_wp2
          go_roundw
          case rel => exact ⟨j + 1, by omega, by go_num, hbel2, HN⟩
          case measure => simp [intOf]; omega
        | true =>
          have hfin : Hid (t = false) := by show _ = _; rw [← HT.out, HS.out rfl]
          go_wp2
          go_ret
          exact ⟨by rw [hfin.out]; rfl, hbel2⟩
    · have hfin : Hid (t = true) := by
        show _ = _
        rw [← HT.out, ← HR.out, List.take_of_length_le (by rw [HX.out]; omega)]
      go_wp2
      go_ret
      exact ⟨by rw [hfin.out]; rfl, hbel⟩

/-- what Answer hands back -/
def AnPost (cs : List Or2) (f : Nat) (b : List Bool) (w : World) (e : Ending) (w' : World) : Prop :=
  Below w.heap.size w w' ∧ ((∃ o A c, Pa.ans (Pa.right cs) f b = some o ∧ e = .returned (.tuple #[.slice A o.length c, .bool true]) ∧ RdB w' w'.heap.size A o.length c o) ∨ (Pa.ans (Pa.right cs) f b = none ∧ ∃ v, e = .returned (.tuple #[v, .bool false])))
/-- what is known before the j-th is tried -/
def AnI (cs : List Or2) (f : Nat) (b : List Bool) (j : Nat) : Prop := (1 ≤ j → Pa.ans (Pa.right cs) f (b ++ [false]) = none) ∧ (2 ≤ j → Pa.ans (Pa.right cs) f (b ++ [true]) = none)
theorem AnI.next {cs : List Or2} {f : Nat} {b : List Bool} {j : Nat} (h : AnI cs f b j) (hj : j < 2) {x : Bool} (hx : x = decide (j = 1)) (hn : Pa.ans (Pa.right cs) f (b ++ [x]) = none) : AnI cs f b (j + 1) := by
  refine ⟨fun _ => ?_, fun h2 => ?_⟩
  · by_cases e : j = 0
    · subst e
      have : x = false := by rw [hx]; rfl
      rw [this] at hn; exact hn
    · exact h.1 (by omega)
  · have e : j = 1 := by omega
    subst e
    have : x = true := by rw [hx]; rfl
    rw [this] at hn; exact hn
theorem AnI.got {cs : List Or2} {f : Nat} {b : List Bool} {j : Nat} (h : AnI cs f b j) (hj : j < 2) {x : Bool} (hx : x = decide (j = 1)) {o : List Bool} (hn : Pa.ans (Pa.right cs) f (b ++ [x]) = some o) : Pa.ans (Pa.right cs) (f + 1) b = some o := by
  unfold Pa.ans
  by_cases e : j = 0
  · subst e
    have : x = false := by rw [hx]; rfl
    rw [this] at hn
    rw [hn]
  · have e1 : j = 1 := by omega
    subst e1
    have : x = true := by rw [hx]; rfl
    rw [this] at hn
    rw [h.1 (Nat.le_refl _)]
    exact hn
theorem AnI.none {cs : List Or2} {f : Nat} {b : List Bool} (h : AnI cs f b 2) : Pa.ans (Pa.right cs) (f + 1) b = none := by
  unfold Pa.ans
  rw [h.1 (by omega)]
  exact h.2 (by omega)

set_option maxRecDepth 100000 in
set_option maxHeartbeats 4000000 in
theorem Answer_any (N : Nat) (h4 : N ≤ 4) (A : Option Addr) (k c B0 : Nat) (cs : List Or2) (hg : ∀ c ∈ cs, Pa.Good N c) : ∀ (f : Nat) (b : List Bool) (C : Option Addr) (m d : Nat) (w : World), m + f = N → RdO w B0 A k c cs → B0 ≤ w.heap.size → RdB w w.heap.size C m d b →
    Calls Tryd.prog 10 #[.int .i64 (N : Int), .slice A k c, .slice C m d] w (AnPost cs f b w)
  | 0, b, C, m, d, w, hm, hr, hB, hv => by
    obtain rfl : m = N := by omega
    have d1 : ((m : Int) == (m : Int)) = true := by simp
    have HL := Lib.hid hv.len
    obtain ⟨t, ht⟩ : ∃ t, Pa.right cs b = t := ⟨_, rfl⟩
    have HT := Lib.hid ht
    clear hm ht
    unfold AnPost
    go_enter Tryd.func10, Tryd.ntmps10
    go_wp2_with fail
    refine (Right_any m A C k c d cs b t _ (hr.more hB) hv hg HT.out).mono ?_
    rintro e w1 ⟨rfl, hb1⟩
    go_wp2
    go_ret2
    refine ⟨hb1, ?_⟩
    cases t with
    | true =>
      refine .inl ⟨b, C, d, ?_, by rw [HL.out]; rfl, by rw [HL.out]; exact hv.past hb1⟩
      unfold Pa.ans
      rw [if_pos HT.out]
    | false =>
      refine .inr ⟨?_, _, rfl⟩
      unfold Pa.ans
      rw [if_neg (by rw [HT.out]; simp)]
  | f + 1, b, C, m, d, w, hm, hr, hB, hv => by
    have IH := Lib.hid (Answer_any N h4 A k c B0 cs hg f)
    have d1 : ((m : Int) == (N : Int)) = false := by simp; omega
    have HL := Lib.hid hv.len
    have hm1 : m + 1 + f = N := by omega
    have hm4 : m ≤ 4 := by omega
    have h0 : Hid (AnI cs f b 0) := ⟨fun h => by omega, fun h => by omega⟩
    clear hm
    unfold AnPost
    go_enter Tryd.func10, Tryd.ntmps10
    go_wp2
    go_loopw [8, 9, 10, 11] (fun jv _ _ _ wr => ∃ j : Nat, j ≤ 2 ∧ jv = .int .i64 (j : Int) ∧ Below w.heap.size w wr ∧ Hid (AnI cs f b j)) (fun jv _ _ _ _ => 2 - (intOf jv).toNat)
    case atStart => exact ⟨0, by omega, rfl, Below.refl _ _, h0⟩
    case round =>
      clear h0
      obtain ⟨j, hj, rfl, hbel, HI⟩ := hrel
      have hsz := hbel.size
      by_cases hlt : j < 2
      · obtain ⟨x, hx⟩ : ∃ x, x = decide (j = 1) := ⟨_, rfl⟩
        have hx1 : ((j : Int) == 1) = x := by rw [hx]; by_cases e : j = 1 <;> simp [e]; omega
        have HX := Lib.hid hx
        have hvr := hv.past hbel
        have hrr : RdO wr B0 A k c cs := hr.below (hbel.mono hB)
        clear hx hv
        go_wp2_with (first
          | (at_builtin; refine wpList_appB _ rfl (.tmp 24) (.tmp 25) _ rfl w.heap.size 4 Tryd.underlying23 boolInfo _ _ rfl (OwnB.nil wr w.heap.size 4) C m d b rfl hvr (by simp; omega) hsz ?_; intro v1 w1 hown1 hg1 hat1; rw [List.nil_append] at hown1; have hb1 : Below wr.heap.size wr w1 := (Below.refl _ _).grown hg1 (Nat.le_refl _) (fun _ h => by cases h); have hs1 := hb1.size; have hs01 : w.heap.size ≤ w1.heap.size := Nat.le_trans hsz hs1)
          | (at_builtin; refine wpList_appB _ rfl (.tmp 30) (.tmp 33) _ rfl w.heap.size 4 Tryd.underlying23 boolInfo _ b rfl (hown1.below ((Below.refl _ _).alloc (Nat.le_refl _) _)) (some ⟨w1.heap.size, 0, none⟩) 1 1 [x] rfl (RdB.one _ _ _) (by rw [HL.out]; omega) (by simp; omega) ?_; intro v2 w2 hown2 hg2 hat2))
        have hbx : Below w.heap.size w w2 := below_appB (((hbel.trans (hb1.mono hsz))).alloc hs01 _) (hown1.below ((Below.refl _ _).alloc (Nat.le_refl _) _)) hg2 (by simp; omega)
        have hr2 : RdO w2 B0 A k c cs := hr.below (hbx.mono hB)
        have hB2 : B0 ≤ w2.heap.size := Nat.le_trans hB hbx.size
        obtain ⟨C2, e2, rfl, hv2⟩ := hown2.rd
        have hl2 : (b ++ [x]).length = m + 1 := by rw [List.length_append, HL.out]; rfl
        rw [hl2] at hv2 ⊢
        clear hown1 hown2 hg1 hg2 hat1 hat2 hb1 hbel hvr hrr hr hl2
        refine (IH.out (b ++ [x]) C2 (m + 1) e2 _ hm1 hr2 hB2 hv2).mono ?_
        unfold AnPost
        rintro e w3 ⟨hb3, (⟨o, A3, c3, hn, rfl, hrd⟩ | ⟨hn, v3, rfl⟩)⟩
        · have hfin : Hid (Pa.ans (Pa.right cs) (f + 1) b = some o) := HI.out.got hlt HX.out hn
          have hbf := hbx.trans (hb3.mono hbx.size)
          obtain ⟨q, hq⟩ : ∃ q, q = o.length := ⟨_, rfl⟩
          rw [← hq] at hrd ⊢
          have HQ := Lib.hid hq
          clear hq hn
          go_wp2
          go_ret2
          exact ⟨hbf, .inl ⟨o, A3, c3, hfin.out, by rw [← HQ.out]; rfl, by rw [← HQ.out]; exact hrd⟩⟩
        · have hnext : Hid (AnI cs f b (j + 1)) := HI.out.next hlt HX.out hn
          have hbf := hbx.trans (hb3.mono hbx.size)
          clear hn
          go_wp2
          go_roundw
          case rel => exact ⟨j + 1, by omega, by go_num, hbf, hnext⟩
          case measure => simp [intOf]; omega
      · obtain rfl : j = 2 := by omega
        go_wp2
        go_ret2
        exact ⟨hbel, .inr ⟨HI.out.none, _, rfl⟩⟩

end Go.Proofs.YthalopmplekdoaaDoor.RefPa
