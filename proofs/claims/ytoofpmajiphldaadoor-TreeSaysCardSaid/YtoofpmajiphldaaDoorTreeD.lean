/-
  The closure of Name of package tree that names a point, seen from another one: it calls itself for the others beside it. No statement of the program is proved here; there is no condition.
-/
import Derived.Test.YtoofpmajiphldaaDoorTreeC
import Derived.Test.YtoofpmajiphldaaDoorTreeU
import Derived.Test.YtoofpmajiphldaaDoorSortT
import Derived.Test.YtoofpmajiphldaaDoorJoinT
import Derived.Test.YtoofpmajiphldaaDoorGraphB
import Derived.RangeFuncBound
namespace Go.Proofs.YtoofpmajiphldaaDoor
open Go.RowKit Go.Shelf

attribute [local go_sem] Oper.semAt_some
set_option linter.unusedSimpArgs false
set_option linter.unusedVariables false

/-- what stands still while names are made -/
def SeG (nB bb bf m : Nat) (A : Option Addr) (c : Nat) (ls : List Gr.Ln) (W : World) : Prop :=
  nB ≤ W.heap.size ∧ RdR W nB A m c (Gr.rows m ls) ∧ W.cell? ⟨bb, 0, none⟩ = some (.slice A m c) ∧ W.cell? ⟨bf, 0, none⟩ = some (.func (.func 25) #[] #[.pointer (some ⟨bb, 0, none⟩), .pointer (some ⟨bf, 0, none⟩)])
theorem SeG.below {nB bb bf m s : Nat} {A : Option Addr} {c : Nat} {ls : List Gr.Ln} {W W' : World} (h : SeG nB bb bf m A c ls W) (h1 : nB ≤ s) (h2 : bb < s) (h3 : bf < s) (hb : Below s W W') : SeG nB bb bf m A c ls W' :=
  ⟨Nat.le_trans h.1 hb.size, h.2.1.below (hb.mono h1), (hb.cell (p := ⟨bb, 0, none⟩) h2).trans h.2.2.1, (hb.cell (p := ⟨bf, 0, none⟩) h3).trans h.2.2.2⟩
theorem SeG.past {nB bb bf m : Nat} {A : Option Addr} {c : Nat} {ls : List Gr.Ln} {W W' : World} (h : SeG nB bb bf m A c ls W) (hb : Below W.heap.size W W') : SeG nB bb bf m A c ls W' :=
  h.below h.1 (by have := World.block_lt_of_cell? W _ h.2.2.1; simpa using this) (by have := World.block_lt_of_cell? W _ h.2.2.2; simpa using this) hb

theorem infoT : (Tryd.prog.info? 9).map (fun i => (i.zero, i.size, i.bytes)) = some (some (.string ⟨#[]⟩), 1, 16) := by kernel_rfl

/-- the names that have been made -/
def SeI (s : Nat) (a : Int) (T : Nat → List Nat) (w : World) (S : Nat → Prop) (pre : List Int) (W : World) : Prop :=
  ∃ v, Boxed W (s + 1) 53 v ∧ OwnT W (s + 4) 9 v ((pre.map fun x => T x.toNat).map Nm.bs) ∧ (∀ q, v.ownBlock = some q → S q) ∧ (∀ q, S q → q < W.heap.size) ∧ Boxed W s 3 (.int .i64 a) ∧ Below s w W

theorem Kept.of_set {X : Nat → Prop} {W W' : World} {b : Nat} {v : Value} (h : Kept X W W') (hx : X b) : Kept X W (W'.setCell ⟨b, 0, none⟩ v) :=
  ⟨by simpa using h.1, fun k hk hn => (Below.heap_setCell W' _ _ k (show k ≠ b from fun e => hn (e ▸ hx))).trans (h.2 k hk hn)⟩

/-- one more name has been put to the list -/
theorem se_put (s : Nat) (a : Int) (T : Nat → List Nat) (w : World) (S : Nat → Prop) (pre : List Int) (x : Int) (zs : List ByteArray) (W Wd W3 w5 : World) (o : Obj) (v v' : Value)
    (hWd : Wd = W.drew) (hSl : ∀ k, S k → s + 6 ≤ k) (hsz : s + 6 ≤ W.heap.size) (hbx : Boxed W (s + 1) 53 v) (hown : OwnT W (s + 4) 9 v zs) (hvS : ∀ q, v.ownBlock = some q → S q) (hSs : ∀ q, S q → q < W.heap.size)
    (hba : Boxed W s 3 (.int .i64 a)) (hB : Below s w W) (h3 : Below Wd.heap.size Wd W3)
    (hown5 : OwnT w5 (s + 4) 9 v' (((pre ++ [x]).map fun x => T x.toNat).map Nm.bs)) (hg5 : (W3.alloc o).grownBy w5 v.ownBlock) (hat : v'.ownBlock = v.ownBlock ∨ v'.ownBlock = some (W3.alloc o).heap.size) :
    Boxed w5 (s + 1) 53 v ∧ Boxed w5 s 3 (.int .i64 a) ∧ Below s Wd w5 ∧
    ∃ T', (∀ k, T' k → S k ∨ W.heap.size ≤ k) ∧ Kept (fun q => q = s + 1 ∨ S q) W (w5.setCell ⟨s + 1, 0, none⟩ v') ∧ SeI s a T w T' (pre ++ [x]) (w5.setCell ⟨s + 1, 0, none⟩ v') := by
  have hh : ∀ k : Nat, Wd.heap[k]? = W.heap[k]? := fun k => by rw [hWd]; rfl
  have hws : Wd.heap.size = W.heap.size := by rw [hWd]; rfl
  have h3s := h3.size
  have hall : ∀ k, k < W.heap.size → v.ownBlock ≠ some k → w5.heap[k]? = W.heap[k]? := fun k hk hn => by
    rw [hg5.block k (by simp; omega) (fun e => hn e.symm), Below.heap_alloc _ _ _ (by omega), h3.block k (by omega), hh]
  have hno : ∀ k, k < s + 6 → v.ownBlock ≠ some k := fun k hk e => by have := hSl k (hvS k e); omega
  have b1 : Boxed w5 (s + 1) 53 v := (hall (s + 1) (by omega) (hno _ (by omega))).trans hbx
  have b2 : Boxed w5 s 3 (.int .i64 a) := (hall s (by omega) (hno _ (by omega))).trans hba
  have hb : Below s Wd w5 := by
    have h4 : Below s Wd (W3.alloc o) := (h3.mono (by omega)).alloc (by omega) _
    exact h4.grown hg5 (by simp; omega) (fun k hk => by have := hSl k (hvS k hk); omega)
  have hbw : Below s w w5 := hB.trans (by
    have : Below s W Wd := by rw [hWd]; exact (Below.refl _ _).drew
    exact this.trans hb)
  have h5s := hg5.size
  simp only [World.size_alloc] at h5s
  have hK : Kept (fun q => q = s + 1 ∨ S q) W w5 := ⟨by omega, fun k hk hx => hall k hk (fun e => hx (.inr (hvS k e)))⟩
  refine ⟨b1, b2, hb, fun q => S q ∨ v'.ownBlock = some q, fun k hk => ?_, hK.of_set (.inl rfl), v', b1.set v', ?_, fun q hq => .inr hq, fun q hq => ?_, ?_, hbw.setCell (p := ⟨s + 1, 0, none⟩) (show s ≤ s + 1 by omega) _⟩
  · rcases hk with hk | hk
    · exact .inl hk
    · rcases hat with e | e
      · exact .inl (hvS k (by rw [← e]; exact hk))
      · rw [e] at hk
        simp at hk
        exact .inr (by omega)
  · exact hown5.same (fun q hq => Below.heap_setCell w5 _ _ q (show q ≠ s + 1 from fun e => by have := hown5.at_base q hq; omega))
  · rcases hq with hq | hq
    · have := hSs q hq; simp; omega
    · have := hown5.lt q hq; simpa using this
  · exact (Below.heap_setCell w5 _ _ s (show s ≠ s + 1 by omega)).trans b2

set_option maxRecDepth 100000 in
set_option maxHeartbeats 4000000 in
theorem seen_step (nB bb bf m a fr : Nat) (hm8 : m ≤ 8) (ha : a < m) (A : Option Addr) (c : Nat) (ls : List Gr.Ln) (T : Nat → List Nat)
    (hS : ∀ i ∈ Nm.kids (Tr.ad ls) m a fr, Nm.Sm (T i) ∧ (T i).length ≤ 16)
    (hK : ∀ i ∈ Nm.kids (Tr.ad ls) m a fr, ∀ W, SeG nB bb bf m A c ls W → Calls Tryd.prog 25 #[.int .i64 (i : Int), .int .i64 (a : Int), .pointer (some ⟨bb, 0, none⟩), .pointer (some ⟨bf, 0, none⟩)] W fun e W' => e = .returned (.string (Nm.bs (T i))) ∧ Below W.heap.size W W')
    (w : World) (hG : SeG nB bb bf m A c ls w) :
    CallsIn Fence.wide 10 Tryd.prog 25 #[.int .i64 (a : Int), .int .i64 (Tr.frI m fr), .pointer (some ⟨bb, 0, none⟩), .pointer (some ⟨bf, 0, none⟩)] w fun e w' => e = .returned (.string (Nm.bs (Nm.wrap (Nm.srt ((Nm.kids (Tr.ad ls) m a fr).map T))))) ∧ Below w.heap.size w w' := by
  have hro : Fence.wide.round = none := rfl
  have hF1 : Fence.wide.fn 26 := trivial
  have hF2 : Fence.wide.fn 27 := trivial
  have hF3 : Fence.wide.fn 28 := trivial
  obtain ⟨s, hs⟩ : ∃ s, s = w.heap.size := ⟨_, rfl⟩
  have hnB := hG.1
  have hbb : bb < w.heap.size := by have := World.block_lt_of_cell? w _ hG.2.2.1; simpa using this
  have hbf : bf < w.heap.size := by have := World.block_lt_of_cell? w _ hG.2.2.2; simpa using this
  rw [← hs] at hnB hbb hbf
  obtain ⟨W2, hW2⟩ : ∃ W2, W2 = (w.alloc (.cells #[.int .i64 (a : Int)] 3)).alloc (.cells #[.slice none 0 0] 53) := ⟨_, rfl⟩
  have hb2 : Below s w W2 := by rw [hW2, hs]; exact ((Below.refl _ _).alloc (Nat.le_refl _) _).alloc (by simp) _
  have hs2 : W2.heap.size = s + 2 := by rw [hW2, hs]; simp
  have bx1 : Boxed W2 s 3 (.int .i64 (a : Int)) := by rw [hW2, hs]; exact (Boxed.new w _ _).alloc _
  have bx2 : Boxed W2 (s + 1) 53 (.slice none 0 0) := by
    have := Boxed.new (w.alloc (.cells #[.int .i64 (a : Int)] 3)) 53 (.slice none 0 0)
    rw [World.size_alloc, ← hs] at this
    rw [hW2]
    exact this
  have hG2 := hG.below hnB hbb hbf hb2
  have g1 := hG2.2.2.1
  have g2 := bx1.cell
  obtain ⟨b0, o0, hA, hb0, hcc⟩ := hG2.2.1.at_ (by omega)
  obtain ⟨A', c', g3, hrow⟩ := hcc a ha
  rw [Gr.rows_getD ls ha] at g3 hrow
  obtain ⟨N, hN⟩ : ∃ N, N = (Gr.row m ls a).length := ⟨_, rfl⟩
  rw [← hN] at g3 hrow
  subst hA
  have a1' : (0 : Int) ≤ (a : Int) := by omega
  have a2' : (a : Int) < (m : Int) := by omega
  obtain ⟨V, hV⟩ : ∃ V, V = (W2.alloc (.cells #[.slice A' N c'] 28)).alloc (.cells #[.int .i64 (Tr.frI m fr)] 3) := ⟨_, rfl⟩
  have hbV : Below (s + 2) W2 V := by rw [hV]; exact ((Below.refl _ _).alloc (by omega) _).alloc (by simp; omega) _
  have hsV : V.heap.size = s + 4 := by rw [hV]; simp [hs2]
  have hbwV : Below s w V := hb2.trans (hbV.mono (by omega))
  have bV1 : Boxed V s 3 (.int .i64 (a : Int)) := (hbV.block s (by omega)).trans bx1
  have bV2 : Boxed V (s + 1) 53 (.slice none 0 0) := (hbV.block (s + 1) (by omega)).trans bx2
  have hOV : OtG nB (s + 2) (s + 3) A' N c' (Gr.row m ls a) (Tr.frI m fr) V := by
    refine ⟨by omega, hrow.below (hbV.mono (by omega)), ?_, ?_⟩
    · have := (Boxed.new W2 28 (.slice A' N c')).alloc (.cells #[.int .i64 (Tr.frI m fr)] 3)
      rw [hs2, ← hV] at this
      exact this.cell
    · have := Boxed.new (W2.alloc (.cells #[.slice A' N c'] 28)) 3 (.int .i64 (Tr.frI m fr))
      rw [World.size_alloc, hs2, ← hV] at this
      exact this.cell
  have HI0 : SeI s (a : Int) T w (fun _ => False) [] V := ⟨_, bV2, OwnT.nil _ _ _, fun q hq => (by cases hq), fun q hq => hq.elim, bV1, hbwV⟩
  have HW2 := Lib.hid hW2
  have HV := Lib.hid hV
  have HS2 := Lib.hid hs2
  have HS := Lib.hid hs
  have HG := Lib.hid hG
  have HSm := Lib.hid hS
  have HK := Lib.hid hK
  clear hW2 hV hs2 hs hS hK hG hG2 hcc hrow hN bV1 bV2 bx2 bx1 hbV hb2
  rw [HW2.out] at g1 g2 g3
  refine callsIn_of_wp_marks Tryd.func25 rfl trivial ?_ hro
  simp only [Tryd.ntmps25, List.size_toArray, List.length_cons, List.length_nil, Nat.reduceAdd, Nat.reduceSub, Array.replicate_succ, Array.replicate_zero, List.push_toArray, List.append_toArray, List.nil_append, List.cons_append]
  rw [HS.out] at g2
  gi_wp2_with (gi_at_call 26; rw [← HW2.out, ← HS.out]; refine (callsIn_wide.2 (others_any _ _ _ _ _)).mono ?_; rintro e w5 ⟨rfl, rfl⟩; rw [← HV.out, HS2.out])
  simp only [Nat.add_assoc, Nat.reduceAdd]
  refine wpIn_range_cellsT hro (by omega) (gf := 39) (lb := #[.pointer (some ⟨s + 2, 0, none⟩), .pointer (some ⟨s + 3, 0, none⟩)]) rfl trivial (enters_of Tryd.func39 (by kernel_rfl) rfl) (X := fun q => q = s + 1) (zs := (Gr.row m ls a).filter fun x => !decide (x = Tr.frI m fr))
    (others1_seqT nB (s + 2) (s + 3) A' N c' (Gr.row m ls a) (Tr.frI m fr) _ V hOV (fun q hq => by omega) (fun q hq => by omega) (by omega) (by omega))
    (fun q hq => by omega) (fun _ => rfl)
    (fun S pre W => SeI s (a : Int) T w S pre W)
    (fun _ _ => False)
    (fun S pre U V' h hb ht => by
      rw [hsV] at hb
      obtain ⟨v, i1, i2, i3, i4, i5, i6⟩ := h
      exact ⟨v, (hb.block (s + 1) (by omega)).trans i1, i2.same (fun k hk => ht k (i3 k hk)), i3, fun q hq => Nat.lt_of_lt_of_le (i4 q hq) hb.size, (hb.block s (by omega)).trans i5, i6.trans (hb.mono (by omega))⟩)
    (fun S pre U h => by
      obtain ⟨v, i1, i2, i3, i4, i5, i6⟩ := h
      exact i4)
    (fun _ _ _ h _ => h) HI0
    (fun x => { tmps := #[.int .i64 (a : Int), .int .i64 (Tr.frI m fr), .pointer (some ⟨bb, 0, none⟩), .pointer (some ⟨bf, 0, none⟩), .pointer (some ⟨s, 0, none⟩), undef, .string ⟨#[]⟩, .pointer (some ⟨s + 1, 0, none⟩), .int .i64 x,
      .slice (some ⟨b0, o0, none⟩) m c, .int .i64 (a : Int), .pointer (some ⟨b0, o0 + a, none⟩), .slice A' N c', .int .i64 (Tr.frI m fr), .func (.func 39) #[] #[.pointer (some ⟨s + 2, 0, none⟩), .pointer (some ⟨s + 3, 0, none⟩)], .int .i64 x,
      undef, undef, undef, undef, undef, undef, undef, undef, undef, undef, undef, undef, undef], defers := [] }) ?assign ?body ?done ?stop
  case assign =>
    intro x l W K hK
    simp only [encI]
    gi_wp2
    exact hK
  case body =>
    rintro S pre x hpre lr W hSl hWl ⟨v, hbx, hown, hvS, hSs, hba, hB⟩
    clear HI0 hOV hbwV g1 g2 g3
    have hmem : x ∈ (Gr.row m ls a).filter fun x => !decide (x = Tr.frI m fr) := hpre.subset (by simp)
    rw [Tr.kids_row] at hmem
    obtain ⟨i, hik, hix⟩ := List.mem_map.1 hmem
    subst hix
    have hGW := HG.out.below (s := s) hnB hbb hbf hB
    have hlen : pre.length + 1 ≤ 8 := by
      have h1 := hpre.length_le
      have h2 := Nat.le_trans (List.length_filter_le (fun x => !decide (x = Tr.frI m fr)) (Gr.row m ls a)) (Gr.row_len m ls a)
      rw [List.length_append, List.length_singleton] at h1
      omega
    have HKi := Lib.hid (HK.out i hik)
    have HT := Lib.hid (show T ((i : Nat) : Int).toNat = T i from by rw [Int.toNat_natCast])
    clear hpre hmem
    have SA : W.drew.cell? ⟨bf, 0, none⟩ = some (.func (.func 25) #[] #[.pointer (some ⟨bb, 0, none⟩), .pointer (some ⟨bf, 0, none⟩)]) := hGW.2.2.2
    have SB : W.drew.cell? ⟨s, 0, none⟩ = some (.int .i64 (a : Int)) := hba.cell
    gi_wp2
    refine wpIn_round_held (S := fun w' => w'.cell? ⟨bf, 0, none⟩ = some (.func (.func 25) #[] #[.pointer (some ⟨bb, 0, none⟩), .pointer (some ⟨bf, 0, none⟩)]) ∧ w'.cell? ⟨s, 0, none⟩ = some (.int .i64 (a : Int))) (by kernel_rfl) ?hnd ?hno ⟨SA, SB⟩ ?hgo
    case hnd =>
      intro j o ho c hd
      have hmem := Array.mem_of_getElem? ho
      simp only [List.mem_toArray, List.mem_cons, List.not_mem_nil, or_false] at hmem
      rcases hmem with rfl | rfl | rfl | rfl | rfl | rfl | rfl | rfl <;> cases hd
    case hno =>
      rintro ⟨_, _, h⟩
      exact h
    case hgo =>
      intro hS1
      obtain ⟨Wd, hWd⟩ : ∃ Wd, Wd = W.drew := ⟨_, rfl⟩
      rw [← hWd] at hS1 ⊢
      have hGd : SeG nB bb bf m (some ⟨b0, o0, none⟩) c ls Wd := by rw [hWd]; exact hGW
      have hbxd : Boxed Wd (s + 1) 53 v := by rw [hWd]; exact hbx
      have hbad : Boxed Wd s 3 (.int .i64 (a : Int)) := by rw [hWd]; exact hba
      have hownd : OwnT Wd (s + 4) 9 v ((pre.map fun x => T x.toNat).map Nm.bs) := by rw [hWd]; exact hown
      have c0 := hbxd.cell
      have hszd : s + 6 ≤ Wd.heap.size := by rw [hWd]; show s + 6 ≤ W.heap.size; omega
      have HWd := Lib.hid hWd
      clear hWd SA SB
      have HEND : Hid (∀ (W3 w5 : World) (o : Obj) (v' : Value), Below Wd.heap.size Wd W3 → OwnT w5 (s + 4) 9 v' ((pre.map fun x => T x.toNat).map Nm.bs ++ [Nm.bs (T i)]) → (W3.alloc o).grownBy w5 v.ownBlock → (v'.ownBlock = v.ownBlock ∨ v'.ownBlock = some (W3.alloc o).heap.size) → Boxed w5 (s + 1) 53 v ∧ Boxed w5 s 3 (.int .i64 (a : Int)) ∧ Below s Wd w5 ∧
          ∃ T', (∀ k, T' k → S k ∨ W.heap.size ≤ k) ∧ Kept (fun q => q = s + 1 ∨ S q) W (w5.setCell ⟨s + 1, 0, none⟩ v') ∧ SeI s (a : Int) T w T' (pre ++ [(i : Int)]) (w5.setCell ⟨s + 1, 0, none⟩ v')) := by
        show ∀ W3, _
        intro W3 w5 o v' h3 h5 hg hat
        refine se_put s (a : Int) T w S pre (i : Int) _ W Wd W3 w5 o v v' HWd.out (fun k hk => by have := hSl k hk; omega) (by omega) hbx hown hvS hSs hba hB h3 ?_ hg hat
        rw [List.map_append, List.map_append]
        exact h5
      have HROOM : Hid (((pre.map fun x => T x.toNat).map Nm.bs).length + 1 ≤ 1000000) := by
        show _ ≤ _
        rw [List.length_map, List.length_map]
        omega
      refine wpAnyH_take (i := 1) (v := .func (.func 25) #[] #[.pointer (some ⟨bb, 0, none⟩), .pointer (some ⟨bf, 0, none⟩)]) rfl (by kernel_rfl) (by kernel_rfl) (by kernel_rfl) (fun _ _ _ h => h) (Or.inl ⟨by rfl, ?_⟩) (by assumption) ?_
      · intro w hSw
        obtain ⟨hSa, hSb⟩ := hSw
        go_simp
      simp only [Act.put, List.setIfInBounds_toArray, List.set_cons_zero, List.set_cons_succ]
      refine wpAnyH_take (i := 2) (v := .int .i64 (i : Int)) rfl (by kernel_rfl) (by kernel_rfl) (by kernel_rfl) (fun _ _ _ h => h) (Or.inl ⟨by rfl, ?_⟩) (by assumption) ?_
      · intro w hSw
        obtain ⟨hSa, hSb⟩ := hSw
        go_simp
      simp only [Act.put, List.setIfInBounds_toArray, List.set_cons_zero, List.set_cons_succ]
      refine wpAnyH_take (i := 3) (v := .int .i64 (a : Int)) rfl (by kernel_rfl) (by kernel_rfl) (by kernel_rfl) (fun _ _ _ h => h) (Or.inl ⟨by rfl, ?_⟩) (by assumption) ?_
      · intro w hSw
        obtain ⟨hSa, hSb⟩ := hSw
        go_simp
      simp only [Act.put, List.setIfInBounds_toArray, List.set_cons_zero, List.set_cons_succ]
      refine wpAnyH_ready (rs := [0, 4]) (by kernel_rfl) (by simp) ?_
      refine AllReadyH.cons rfl (fun K hK => ?_) (AllReadyH.cons rfl (fun K hK => ?_) AllReadyH.nil)
      · go_simp
        refine hK.out _ _ hS1 (fun _ => ?_)
        clear hK K
        refine wpAnyH_ready (rs := [4]) (by kernel_rfl) (by simp) ?_
        refine AllReadyH.cons rfl (fun K hK => ?_) AllReadyH.nil
        go_simp
        refine (HKi.out Wd hGd).mono ?_
        rintro e W3 ⟨rfl, hB3⟩
        have hB3s := hB3.size
        have hS3 : W3.cell? ⟨bf, 0, none⟩ = some (.func (.func 25) #[] #[.pointer (some ⟨bb, 0, none⟩), .pointer (some ⟨bf, 0, none⟩)]) ∧ W3.cell? ⟨s, 0, none⟩ = some (.int .i64 (a : Int)) := ⟨(hGd.past hB3).2.2.2, Boxed.cell (show Boxed W3 s 3 (.int .i64 (a : Int)) from (hB3.block s (by omega)).trans hbad)⟩
        have hown3 := hownd.below hB3
        have hbx3 : Boxed W3 (s + 1) 53 v := (hB3.block (s + 1) (by omega)).trans hbxd
        have c3 := hbx3.cell
        refine hK.out _ _ hS3 (fun _ => ?_)
        clear hK K
        refine wpAnyH_ready (rs := [5]) (by kernel_rfl) (by simp) ?_
        refine AllReadyH.cons rfl (fun K hK => ?_) AllReadyH.nil
        go_simp
        have hb4 : Below W3.heap.size W3 (W3.alloc (.cells #[.string (Nm.bs (T i))] 9)) := (Below.refl _ _).alloc (Nat.le_refl _) _
        have hS4 : (W3.alloc (.cells #[.string (Nm.bs (T i))] 9)).cell? ⟨bf, 0, none⟩ = some (.func (.func 25) #[] #[.pointer (some ⟨bb, 0, none⟩), .pointer (some ⟨bf, 0, none⟩)]) ∧ (W3.alloc (.cells #[.string (Nm.bs (T i))] 9)).cell? ⟨s, 0, none⟩ = some (.int .i64 (a : Int)) := ⟨(hb4.cell (p := ⟨bf, 0, none⟩) (show bf < W3.heap.size by omega)).trans hS3.1, (hb4.cell (p := ⟨s, 0, none⟩) (show s < W3.heap.size by omega)).trans hS3.2⟩
        have hown4 := hown3.below hb4
        have hbx4 : Boxed (W3.alloc (.cells #[.string (Nm.bs (T i))] 9)) (s + 1) 53 v := (hb4.block (s + 1) (by omega)).trans hbx3
        have c4 := hbx4.cell
        refine hK.out _ _ hS4 (fun _ => ?_)
        clear hK K
        refine wpAnyH_ready (rs := [6]) (by kernel_rfl) (by simp) ?_
        refine AllReadyH.cons rfl (fun K hK => ?_) AllReadyH.nil
        refine step_appT (B := W3.heap.size + 1) _ rfl (.tmp 16) (.tmp 21) 53 rfl (s + 4) 9 Tryd.underlying53 infoT v _ rfl hown4 (some ⟨W3.heap.size, 0, none⟩) 1 1 [Nm.bs (T i)] rfl (RdT.one W3 _ _) HROOM.out (by simp; omega) ?_
        intro v' w5 hown5 hg5 hat5
        obtain ⟨A5, c5', hv5, _⟩ := hown5.rd
        obtain ⟨q5, hq5⟩ : ∃ q5, q5 = ((pre.map fun x => T x.toNat).map Nm.bs ++ [Nm.bs (T i)]).length := ⟨_, rfl⟩
        rw [← hq5] at hv5
        clear hq5
        subst hv5
        obtain ⟨f1, f2, f3, f4⟩ := HEND.out W3 w5 _ _ hB3 hown5 hg5 hat5
        have hS5 : w5.cell? ⟨bf, 0, none⟩ = some (.func (.func 25) #[] #[.pointer (some ⟨bb, 0, none⟩), .pointer (some ⟨bf, 0, none⟩)]) ∧ w5.cell? ⟨s, 0, none⟩ = some (.int .i64 (a : Int)) := ⟨(f3.cell (p := ⟨bf, 0, none⟩) hbf).trans hS1.1, f2.cell⟩
        refine hK.out _ _ hS5 (fun _ => ?_)
        clear hK K
        simp only [Act.put, List.setIfInBounds_toArray, List.set_cons_zero, List.set_cons_succ]
        refine wpAnyH_ready (rs := [7]) (by kernel_rfl) (by simp) ?_
        refine AllReadyH.cons rfl (fun K hK => ?_) AllReadyH.nil
        have c5 := f1.cell
        have c6 := f1.frozen
        have hS6 : (w5.setCell ⟨s + 1, 0, none⟩ (.slice A5 q5 c5')).cell? ⟨bf, 0, none⟩ = some (.func (.func 25) #[] #[.pointer (some ⟨bb, 0, none⟩), .pointer (some ⟨bf, 0, none⟩)]) ∧ (w5.setCell ⟨s + 1, 0, none⟩ (.slice A5 q5 c5')).cell? ⟨s, 0, none⟩ = some (.int .i64 (a : Int)) := ⟨(World.cell?_setCell_other _ _ _ _ (fun e => by have : s + 1 = bf := (congrArg Addr.block e); omega)).trans hS5.1, (World.cell?_setCell_other _ _ _ _ (fun e => by have : s + 1 = s := (congrArg Addr.block e); omega)).trans hS5.2⟩
        go_simp
        refine hK.out _ _ hS6 (fun _ => ?_)
        clear hK K
        refine wpAnyH_done (by kernel_rfl) ?_ _
        exact f4
      · go_simp
        refine (HKi.out Wd hGd).mono ?_
        rintro e W3 ⟨rfl, hB3⟩
        have hB3s := hB3.size
        have hS3 : W3.cell? ⟨bf, 0, none⟩ = some (.func (.func 25) #[] #[.pointer (some ⟨bb, 0, none⟩), .pointer (some ⟨bf, 0, none⟩)]) ∧ W3.cell? ⟨s, 0, none⟩ = some (.int .i64 (a : Int)) := ⟨(hGd.past hB3).2.2.2, Boxed.cell (show Boxed W3 s 3 (.int .i64 (a : Int)) from (hB3.block s (by omega)).trans hbad)⟩
        have hown3 := hownd.below hB3
        have hbx3 : Boxed W3 (s + 1) 53 v := (hB3.block (s + 1) (by omega)).trans hbxd
        have c3 := hbx3.cell
        refine hK.out _ _ hS3 (fun _ => ?_)
        clear hK K
        refine wpAnyH_ready (rs := [0, 5]) (by kernel_rfl) (by simp) ?_
        refine AllReadyH.cons rfl (fun K hK => ?_) (AllReadyH.cons rfl (fun K hK => ?_) AllReadyH.nil)
        · go_simp
          refine hK.out _ _ hS3 (fun _ => ?_)
          clear hK K
          refine wpAnyH_ready (rs := [5]) (by kernel_rfl) (by simp) ?_
          refine AllReadyH.cons rfl (fun K hK => ?_) AllReadyH.nil
          go_simp
          have hb4 : Below W3.heap.size W3 (W3.alloc (.cells #[.string (Nm.bs (T i))] 9)) := (Below.refl _ _).alloc (Nat.le_refl _) _
          have hS4 : (W3.alloc (.cells #[.string (Nm.bs (T i))] 9)).cell? ⟨bf, 0, none⟩ = some (.func (.func 25) #[] #[.pointer (some ⟨bb, 0, none⟩), .pointer (some ⟨bf, 0, none⟩)]) ∧ (W3.alloc (.cells #[.string (Nm.bs (T i))] 9)).cell? ⟨s, 0, none⟩ = some (.int .i64 (a : Int)) := ⟨(hb4.cell (p := ⟨bf, 0, none⟩) (show bf < W3.heap.size by omega)).trans hS3.1, (hb4.cell (p := ⟨s, 0, none⟩) (show s < W3.heap.size by omega)).trans hS3.2⟩
          have hown4 := hown3.below hb4
          have hbx4 : Boxed (W3.alloc (.cells #[.string (Nm.bs (T i))] 9)) (s + 1) 53 v := (hb4.block (s + 1) (by omega)).trans hbx3
          have c4 := hbx4.cell
          refine hK.out _ _ hS4 (fun _ => ?_)
          clear hK K
          refine wpAnyH_ready (rs := [6]) (by kernel_rfl) (by simp) ?_
          refine AllReadyH.cons rfl (fun K hK => ?_) AllReadyH.nil
          refine step_appT (B := W3.heap.size + 1) _ rfl (.tmp 16) (.tmp 21) 53 rfl (s + 4) 9 Tryd.underlying53 infoT v _ rfl hown4 (some ⟨W3.heap.size, 0, none⟩) 1 1 [Nm.bs (T i)] rfl (RdT.one W3 _ _) HROOM.out (by simp; omega) ?_
          intro v' w5 hown5 hg5 hat5
          obtain ⟨A5, c5', hv5, _⟩ := hown5.rd
          obtain ⟨q5, hq5⟩ : ∃ q5, q5 = ((pre.map fun x => T x.toNat).map Nm.bs ++ [Nm.bs (T i)]).length := ⟨_, rfl⟩
          rw [← hq5] at hv5
          clear hq5
          subst hv5
          obtain ⟨f1, f2, f3, f4⟩ := HEND.out W3 w5 _ _ hB3 hown5 hg5 hat5
          have hS5 : w5.cell? ⟨bf, 0, none⟩ = some (.func (.func 25) #[] #[.pointer (some ⟨bb, 0, none⟩), .pointer (some ⟨bf, 0, none⟩)]) ∧ w5.cell? ⟨s, 0, none⟩ = some (.int .i64 (a : Int)) := ⟨(f3.cell (p := ⟨bf, 0, none⟩) hbf).trans hS1.1, f2.cell⟩
          refine hK.out _ _ hS5 (fun _ => ?_)
          clear hK K
          simp only [Act.put, List.setIfInBounds_toArray, List.set_cons_zero, List.set_cons_succ]
          refine wpAnyH_ready (rs := [7]) (by kernel_rfl) (by simp) ?_
          refine AllReadyH.cons rfl (fun K hK => ?_) AllReadyH.nil
          have c5 := f1.cell
          have c6 := f1.frozen
          have hS6 : (w5.setCell ⟨s + 1, 0, none⟩ (.slice A5 q5 c5')).cell? ⟨bf, 0, none⟩ = some (.func (.func 25) #[] #[.pointer (some ⟨bb, 0, none⟩), .pointer (some ⟨bf, 0, none⟩)]) ∧ (w5.setCell ⟨s + 1, 0, none⟩ (.slice A5 q5 c5')).cell? ⟨s, 0, none⟩ = some (.int .i64 (a : Int)) := ⟨(World.cell?_setCell_other _ _ _ _ (fun e => by have : s + 1 = bf := (congrArg Addr.block e); omega)).trans hS5.1, (World.cell?_setCell_other _ _ _ _ (fun e => by have : s + 1 = s := (congrArg Addr.block e); omega)).trans hS5.2⟩
          go_simp
          refine hK.out _ _ hS6 (fun _ => ?_)
          clear hK K
          refine wpAnyH_done (by kernel_rfl) ?_ _
          exact f4
        · go_simp
          have hb4 : Below W3.heap.size W3 (W3.alloc (.cells #[.string (Nm.bs (T i))] 9)) := (Below.refl _ _).alloc (Nat.le_refl _) _
          have hS4 : (W3.alloc (.cells #[.string (Nm.bs (T i))] 9)).cell? ⟨bf, 0, none⟩ = some (.func (.func 25) #[] #[.pointer (some ⟨bb, 0, none⟩), .pointer (some ⟨bf, 0, none⟩)]) ∧ (W3.alloc (.cells #[.string (Nm.bs (T i))] 9)).cell? ⟨s, 0, none⟩ = some (.int .i64 (a : Int)) := ⟨(hb4.cell (p := ⟨bf, 0, none⟩) (show bf < W3.heap.size by omega)).trans hS3.1, (hb4.cell (p := ⟨s, 0, none⟩) (show s < W3.heap.size by omega)).trans hS3.2⟩
          have hown4 := hown3.below hb4
          have hbx4 : Boxed (W3.alloc (.cells #[.string (Nm.bs (T i))] 9)) (s + 1) 53 v := (hb4.block (s + 1) (by omega)).trans hbx3
          have c4 := hbx4.cell
          refine hK.out _ _ hS4 (fun _ => ?_)
          clear hK K
          refine wpAnyH_ready (rs := [0]) (by kernel_rfl) (by simp) ?_
          refine AllReadyH.cons rfl (fun K hK => ?_) AllReadyH.nil
          go_simp
          refine hK.out _ _ hS4 (fun _ => ?_)
          clear hK K
          refine wpAnyH_ready (rs := [6]) (by kernel_rfl) (by simp) ?_
          refine AllReadyH.cons rfl (fun K hK => ?_) AllReadyH.nil
          refine step_appT (B := W3.heap.size + 1) _ rfl (.tmp 16) (.tmp 21) 53 rfl (s + 4) 9 Tryd.underlying53 infoT v _ rfl hown4 (some ⟨W3.heap.size, 0, none⟩) 1 1 [Nm.bs (T i)] rfl (RdT.one W3 _ _) HROOM.out (by simp; omega) ?_
          intro v' w5 hown5 hg5 hat5
          obtain ⟨A5, c5', hv5, _⟩ := hown5.rd
          obtain ⟨q5, hq5⟩ : ∃ q5, q5 = ((pre.map fun x => T x.toNat).map Nm.bs ++ [Nm.bs (T i)]).length := ⟨_, rfl⟩
          rw [← hq5] at hv5
          clear hq5
          subst hv5
          obtain ⟨f1, f2, f3, f4⟩ := HEND.out W3 w5 _ _ hB3 hown5 hg5 hat5
          have hS5 : w5.cell? ⟨bf, 0, none⟩ = some (.func (.func 25) #[] #[.pointer (some ⟨bb, 0, none⟩), .pointer (some ⟨bf, 0, none⟩)]) ∧ w5.cell? ⟨s, 0, none⟩ = some (.int .i64 (a : Int)) := ⟨(f3.cell (p := ⟨bf, 0, none⟩) hbf).trans hS1.1, f2.cell⟩
          refine hK.out _ _ hS5 (fun _ => ?_)
          clear hK K
          simp only [Act.put, List.setIfInBounds_toArray, List.set_cons_zero, List.set_cons_succ]
          refine wpAnyH_ready (rs := [7]) (by kernel_rfl) (by simp) ?_
          refine AllReadyH.cons rfl (fun K hK => ?_) AllReadyH.nil
          have c5 := f1.cell
          have c6 := f1.frozen
          have hS6 : (w5.setCell ⟨s + 1, 0, none⟩ (.slice A5 q5 c5')).cell? ⟨bf, 0, none⟩ = some (.func (.func 25) #[] #[.pointer (some ⟨bb, 0, none⟩), .pointer (some ⟨bf, 0, none⟩)]) ∧ (w5.setCell ⟨s + 1, 0, none⟩ (.slice A5 q5 c5')).cell? ⟨s, 0, none⟩ = some (.int .i64 (a : Int)) := ⟨(World.cell?_setCell_other _ _ _ _ (fun e => by have : s + 1 = bf := (congrArg Addr.block e); omega)).trans hS5.1, (World.cell?_setCell_other _ _ _ _ (fun e => by have : s + 1 = s := (congrArg Addr.block e); omega)).trans hS5.2⟩
          go_simp
          refine hK.out _ _ hS6 (fun _ => ?_)
          clear hK K
          refine wpAnyH_done (by kernel_rfl) ?_ _
          exact f4
  case done =>
    rintro D S W hD hSD ⟨v, hbx, hown, hvS, hSs, hba, hB⟩ hk
    rw [Tr.kids_row] at hown
    obtain ⟨zs, hzs⟩ : ∃ zs, zs = (Nm.kids (Tr.ad ls) m a fr).map T := ⟨_, rfl⟩
    have hz : (((Nm.kids (Tr.ad ls) m a fr).map fun i : Nat => (i : Int)).map fun x => T x.toNat) = zs := by
      rw [hzs, List.map_map]
      exact List.map_congr_left fun i _ => by show T ((i : Nat) : Int).toNat = T i; rw [Int.toNat_natCast]
    rw [hz] at hown
    have hzm : ∀ x ∈ zs, Nm.Sm x ∧ x.length ≤ 16 := fun x hx => by
      rw [hzs] at hx
      obtain ⟨i, hi, rfl⟩ := List.mem_map.1 hx
      exact HSm.out i hi
    have hzl : zs.length ≤ 8 := by
      rw [hzs, List.length_map]
      exact Nat.le_trans (Tr.kids_len _ _ _ _) hm8
    have hfl : ∀ l : List (List Nat), (∀ x ∈ l, x.length ≤ 16) → l.flatten.length ≤ 16 * l.length := fun l => by
      induction l with
      | nil => intro _; simp
      | cons x l ih =>
        intro h
        have h1 := ih fun y hy => h y (List.mem_cons_of_mem _ hy)
        have h2 := h x List.mem_cons_self
        rw [List.flatten_cons, List.length_append, List.length_cons]
        omega
    have hsl := (Nm.srt_perm zs).length_eq
    have hsf : (Nm.srt zs).flatten.length ≤ 1000 := by
      have := hfl (Nm.srt zs) fun x hx => (hzm x ((Nm.srt_perm zs).mem_iff.1 hx)).2
      omega
    have HSO := Lib.hid (fun (v : Value) (W : World) (h : OwnT W (s + 4) 9 v (zs.map Nm.bs)) => sort_ownT (s + 4) v zs W h (fun x hx => (hzm x hx).1) (by omega))
    have HJO := Lib.hid (fun (A : Option Addr) (n c : Nat) (W : World) (h : RdT W W.heap.size A n c ((Nm.srt zs).map Nm.bs)) (hn : n ≤ 1048576) => join_any A n c (Nm.srt zs) W h hn (by omega))
    obtain ⟨A1, c1, hv1, hrd1⟩ := hown.rd
    obtain ⟨N1, hN1⟩ : ∃ N1, N1 = (zs.map Nm.bs).length := ⟨_, rfl⟩
    have hN8 : N1 ≤ 8 := by rw [hN1, List.length_map]; exact hzl
    rw [← hN1] at hv1
    have hDv : ∀ q, v.ownBlock = some q → D < q := fun q hq => hSD q (hvS q hq)
    have hDW : D < W.heap.size := (Array.getElem?_eq_some_iff.1 hk).1
    have c0 := hbx.cell
    have hWs : s + 4 ≤ W.heap.size := by omega
    subst hv1
    obtain ⟨F, hF⟩ : ∃ F, F = (Nm.srt zs).flatten := ⟨_, rfl⟩
    rw [← hF] at hsf
    have hsz1 : (Nm.bs F).size = F.length := Nm.bs_size F
    have HF := Lib.hid hF
    have HZS := Lib.hid hzs
    have HHK := Lib.hid hk
    clear hz hzm hzl hfl hsl hrd1 hN1 hF hzs hk hSs hSD
    gi_wp2_with (first
      | (gi_at_call 27; refine (callsIn_wide.2 (HSO.out _ _ hown)).mono ?_; rintro e w7 ⟨rfl, hown7, hg7⟩; have hw7 := hg7.size; have c7 : w7.cell? ⟨s + 1, 0, none⟩ = some (.slice A1 N1 c1) := ((hg7.block (s + 1) (by omega) (fun e => by have := hDv _ e.symm; omega)).trans hbx : Boxed w7 (s + 1) 53 _) |> Boxed.cell; have hr7 := hown7.rd')
      | (gi_at_call 28; refine (callsIn_wide.2 (HJO.out _ _ _ _ hr7 (by omega))).mono ?_; rintro e w8 ⟨rfl, hb8⟩; rw [← HF.out]))
    have hb07 : Below s w w7 := hB.grown hg7 (by omega) (fun q hq => by have := hown.at_base q hq; omega)
    have hk8 : w8.heap[D]? = some (.deferred (some [])) := (hb8.block D (by omega)).trans ((hg7.block D hDW (fun e => by have := hDv _ e.symm; omega)).trans HHK.out)
    refine ⟨by simp, .inl ⟨_, _, rfl, run_takeDeferred hk8, ?_⟩⟩
    refine ⟨_, results_tmp rfl _ _ _, ?_, ?_⟩
    · rw [← HZS.out, Nm.bs_wrap, ← HF.out]
      rfl
    · rw [← HS.out]
      exact (hb07.trans (hb8.mono (by omega))).trans (below_put _ _ _ (by omega))
  case stop =>
    rintro D pre W _ _ h _
    exact h.elim
/-- the name of a point, seen from another one -/
theorem seen_in (nB bb bf m : Nat) (A : Option Addr) (c : Nat) (ls : List Gr.Ln) (hm8 : m ≤ 8) (hT : Tr.Tree m ls) :
    ∀ (k a fr : Nat) (w : World), a < m → (fr < m → Tr.ad ls a fr = true) → Nm.Deep (Tr.far m ls) m k a fr → SeG nB bb bf m A c ls w →
      CallsIn Fence.wide 10 Tryd.prog 25 #[.int .i64 (a : Int), .int .i64 (Tr.frI m fr), .pointer (some ⟨bb, 0, none⟩), .pointer (some ⟨bf, 0, none⟩)] w fun e w' => e = .returned (.string (Nm.bs (Nm.nm (Tr.ad ls) m k a fr))) ∧ Below w.heap.size w w'
  | 0, a, fr, w, ha, hf, hk, hG => by
    rw [Nm.nm_end hT.met ha hf hk (fun _ => [])]
    refine seen_step nB bb bf m a fr hm8 ha A c ls (fun _ => []) (fun i hi => ?_) (fun i hi => ?_) w hG
    · rw [Nm.deep_end hT.met ha hf hk] at hi; cases hi
    · rw [Nm.deep_end hT.met ha hf hk] at hi; cases hi
  | k + 1, a, fr, w, ha, hf, hk, hG => by
    rw [Nm.nm_up]
    refine seen_step nB bb bf m a fr hm8 ha A c ls (fun i => Nm.nm (Tr.ad ls) m k i a) (fun i hi => ?_) (fun i hi W hW => ?_) w hG
    · obtain ⟨h1, h2, h3⟩ := Nm.deep_kid hT.met ha hf hk hi
      refine ⟨Nm.nm_sm _ _ _, ?_⟩
      have := Nm.nm_short hT.met h1 (fun _ => h2) h3
      omega
    · obtain ⟨h1, h2, h3⟩ := Nm.deep_kid hT.met ha hf hk hi
      have := seen_in nB bb bf m A c ls hm8 hT k i a W h1 (fun _ => h2) h3 hW
      rw [Tr.frI_some ha] at this
      exact callsIn_wide.1 this
/-- the name of a point, seen from none -/
theorem seen_any (nB bb bf m : Nat) (A : Option Addr) (c : Nat) (ls : List Gr.Ln) (hm8 : m ≤ 8) (hT : Tr.Tree m ls) (a : Nat) (ha : a < m) (w : World) (hG : SeG nB bb bf m A c ls w) :
    Calls Tryd.prog 25 #[.int .i64 (a : Int), .int .i64 (-1), .pointer (some ⟨bb, 0, none⟩), .pointer (some ⟨bf, 0, none⟩)] w fun e w' => e = .returned (.string (Nm.bs (Nm.nm (Tr.ad ls) m m a m))) ∧ Below w.heap.size w w' := by
  have := seen_in nB bb bf m A c ls hm8 hT m a m w ha (fun h => absurd h (Nat.lt_irrefl m)) (Nm.deep_all hT.met ha) hG
  rw [Tr.frI_none] at this
  exact callsIn_wide.1 this

end Go.Proofs.YtoofpmajiphldaaDoor
