/-
  The iterator that deep.search hands back, as a whole: it yields the steps of the search over all points.
-/
import Derived.Test.YtjcdnkbandagoaaDeepI
namespace Go.Proofs.Ytjcdnkbandagoaa
open Go.RowKit Go.Shelf

attribute [local go_sem] Oper.semAt_some
set_option linter.unusedSimpArgs false

/-- over all points: i of them are done -/
def SeaI (l s nB bb : Nat) (A : Option Addr) (m c : Nat) (rows : List (List Int)) (R : Nat → List Nat) (J : List Dp.Stp → World → Prop) (zs : List Dp.Stp) (s1 : List Bool) (i : Nat) (W : World) : Prop :=
  ∃ (F : Dp.Fo) (si : List Bool) (ki : Nat) (prei : List Dp.Stp), F.depth ≤ m ∧ si.length = m ∧ Dp.Dfs R si (List.range' i (m - i)) F s1 ∧ ki + 2 * F.size = 2 * m ∧ prei ++ Dp.emit ki F (-1) = zs ∧
    DpG l s nB bb A m c rows W ∧ SeenAt W (s + 3) m si ∧ Boxed W (s + 1) 3 (.int .i64 (ki : Int)) ∧ J prei W

set_option maxRecDepth 100000 in
set_option maxHeartbeats 4000000 in
theorem search1_in (l m nB bb s : Nat) (hm8 : m ≤ 8) (hm1 : 1 ≤ m) (R : Nat → List Nat) (hR : Wa.Ok m R) (A : Option Addr) (c : Nat) (rows : List (List Int)) (hrows : ∀ k, k < m → rows.getD k [] = upL (R k)) (X : Nat → Prop)
    (h1 : nB ≤ s) (h2 : bb < s) (hX1 : ∀ k, X k → nB ≤ k) (hX2 : ∀ k, X k → k < s) (hXb : ¬ X bb)
    (J Jx : List Dp.Stp → World → Prop) (F : Dp.Fo) (hF : Dp.Whole m R F) (hJ : Stays s J)
    (hY : ∀ pre x W1, J pre W1 → (pre ++ [x]) <+: Dp.emit 0 F (-1) → YieldAt Fence.wide 8 Try.prog l (encS x) W1 fun e W' =>
      (e = .returned (.bool true) ∧ J (pre ++ [x]) W' ∧ Kept X W1 W') ∨ (e = .returned (.bool false) ∧ Jx (pre ++ [x]) W'))
    (W : World) (hs : W.heap.size = s) (hrr : RdR W nB A m c rows) (hbb : W.cell? ⟨bb, 0, none⟩ = some (.slice A m c)) (h0 : J [] W) :
    CallsIn Fence.wide 9 Try.prog 37 #[.func (.yield l) #[] #[], .pointer (some ⟨bb, 0, none⟩)] W fun e W' => (∃ v, e = .returned v) ∧
      (J (Dp.emit 0 F (-1)) W' ∨ ∃ pre, pre <+: Dp.emit 0 F (-1) ∧ Jx pre W') := by
  have hro : Fence.wide.round = none := rfl
  have hmf : ∀ (fn : Fn) (first cap : Array Value) (w : World), (Instr.makeFunc fn first cap).run Try.prog w = .ok (.func fn first cap) w := fun _ _ _ _ => rfl
  have hF2 : Fence.wide.fn 39 := trivial
  obtain ⟨i0, hi, hz0, hz1, hz2⟩ := info_parts boolInfo
  have hml : m ≤ maxLen := by simp only [maxLen]; omega
  have hby : i0.bytes * m ≤ 281474976710656 := by rw [hz2]; omega
  obtain ⟨zs, hzs⟩ : ∃ zs, zs = Dp.emit 0 F (-1) := ⟨_, rfl⟩
  rw [← hzs] at hY ⊢
  have HY := Lib.hid hY
  have HJ := Lib.hid hJ
  clear hY hJ
  obtain ⟨w3, hw3⟩ : ∃ w3, w3 = ((W.alloc (.cells #[.func (.yield l) #[] #[]] 80)).alloc (.cells #[.int .i64 0] 3)).alloc (.cells #[.func (.func 38) #[] #[.pointer (some ⟨s + 1, 0, none⟩), .pointer (some ⟨s, 0, none⟩)]] 81) := ⟨_, rfl⟩
  have hsz3 : w3.heap.size = s + 1 + 1 + 1 := by rw [hw3]; simp [hs]
  have hb3 : Below s W w3 := by rw [hw3]; exact (((Below.refl _ _).alloc (by omega) _).alloc (by simp; omega) _).alloc (by simp; omega) _
  have B0 : Boxed w3 s 80 (.func (.yield l) #[] #[]) := by
    have := ((Boxed.new W 80 (.func (.yield l) #[] #[])).alloc (.cells #[.int .i64 0] 3)).alloc (.cells #[.func (.func 38) #[] #[.pointer (some ⟨s + 1, 0, none⟩), .pointer (some ⟨s, 0, none⟩)]] 81)
    rw [← hw3, hs] at this
    exact this
  have B1 : Boxed w3 (s + 1) 3 (.int .i64 ((0 : Nat) : Int)) := by
    have := (Boxed.new (W.alloc (.cells #[.func (.yield l) #[] #[]] 80)) 3 (.int .i64 0)).alloc (.cells #[.func (.func 38) #[] #[.pointer (some ⟨s + 1, 0, none⟩), .pointer (some ⟨s, 0, none⟩)]] 81)
    rw [← hw3, World.size_alloc, hs] at this
    exact this
  have B2 : Boxed w3 (s + 2) 81 (.func (.func 38) #[] #[.pointer (some ⟨s + 1, 0, none⟩), .pointer (some ⟨s, 0, none⟩)]) := by
    have := Boxed.new ((W.alloc (.cells #[.func (.yield l) #[] #[]] 80)).alloc (.cells #[.int .i64 0] 3)) 81 (.func (.func 38) #[] #[.pointer (some ⟨s + 1, 0, none⟩), .pointer (some ⟨s, 0, none⟩)])
    rw [← hw3, World.size_alloc, World.size_alloc, hs] at this
    exact this
  have g1 : w3.cell? ⟨bb, 0, none⟩ = some (.slice A m c) := (hb3.cell (p := ⟨bb, 0, none⟩) h2).trans hbb
  rw [hw3] at g1
  have HW3 := Lib.hid hw3
  have HZS := Lib.hid hzs
  have HS3 := Lib.hid hsz3
  clear hw3 hzs hsz3
  refine callsIn_of_wp Try.func37 rfl trivial ?_ hro
  simp only [Try.ntmps37, List.size_toArray, List.length_cons, List.length_nil, Nat.reduceAdd, Nat.reduceSub, Array.replicate_succ, Array.replicate_zero, List.push_toArray, List.append_toArray, List.nil_append, List.cons_append]
  gi_wp2_with (gi_at_make; rw [← HW3.out]; rw [← HW3.out] at g1; refine wpListIn_mk _ rfl (.tmp 10) (.tmp 10) 49 rfl (s + 3) 4 i0 (.bool false) 1 Try.underlying49 hi hz0 hz1 .i64 .i64 m rfl rfl hby hml (by rw [HS3.out]; omega) ?_; intro w4 hrow4 hg4 hsz4; rw [HS3.out] at hrow4 hsz4; rw [HS3.out]; have hb4 : Below (s + 3) w3 w4 := (Below.refl _ _).grown hg4 (by rw [HS3.out]; omega) (fun _ e => by cases e); have g5 := (hb4.cell (p := ⟨bb, 0, none⟩) (show bb < s + 3 by omega)).trans g1; have hb6 : Below (s + 1 + 1 + 1 + 1) w4 ((w4.alloc (.cells #[.slice (some ⟨s + 1 + 1 + 1, 0, none⟩) m m] 49)).alloc (.cells #[.func (.func 39) #[] #[.pointer (some ⟨s + 1 + 1 + 1 + 1, 0, none⟩), .pointer (some ⟨s + 1 + 1, 0, none⟩), .pointer (some ⟨bb, 0, none⟩), .pointer (some ⟨s + 1 + 1 + 1 + 1 + 1, 0, none⟩)]] 56)) := ((Below.refl _ _).alloc (by omega) _).alloc (by simp; omega) _; have g6 : ((w4.alloc (.cells #[.slice (some ⟨s + 1 + 1 + 1, 0, none⟩) m m] 49)).alloc (.cells #[.func (.func 39) #[] #[.pointer (some ⟨s + 1 + 1 + 1 + 1, 0, none⟩), .pointer (some ⟨s + 1 + 1, 0, none⟩), .pointer (some ⟨bb, 0, none⟩), .pointer (some ⟨s + 1 + 1 + 1 + 1 + 1, 0, none⟩)]] 56)).cell? ⟨bb, 0, none⟩ = some (.slice A m c) := (hb6.cell (p := ⟨bb, 0, none⟩) (show bb < s + 1 + 1 + 1 + 1 by omega)).trans g5)
  have HS4 := Lib.hid hsz4
  clear hsz4
  obtain ⟨w6, hw6⟩ : ∃ w6, w6 = (w4.alloc (.cells #[.slice (some ⟨s + 1 + 1 + 1, 0, none⟩) m m] 49)).alloc (.cells #[.func (.func 39) #[] #[.pointer (some ⟨s + 1 + 1 + 1 + 1, 0, none⟩), .pointer (some ⟨s + 1 + 1, 0, none⟩), .pointer (some ⟨bb, 0, none⟩), .pointer (some ⟨s + 1 + 1 + 1 + 1 + 1, 0, none⟩)]] 56) := ⟨_, rfl⟩
  rw [← hw6] at g6 hb6 ⊢
  have hsz6 : w6.heap.size = s + 6 := by rw [hw6]; simp [HS4.out]
  have B4 : Boxed w6 (s + 4) 49 (.slice (some ⟨s + 3, 0, none⟩) m m) := by
    have := (Boxed.new w4 49 (.slice (some ⟨s + 1 + 1 + 1, 0, none⟩) m m)).alloc (.cells #[.func (.func 39) #[] #[.pointer (some ⟨s + 1 + 1 + 1 + 1, 0, none⟩), .pointer (some ⟨s + 1 + 1, 0, none⟩), .pointer (some ⟨bb, 0, none⟩), .pointer (some ⟨s + 1 + 1 + 1 + 1 + 1, 0, none⟩)]] 56)
    rw [← hw6, HS4.out] at this
    exact this
  have B5 : Boxed w6 (s + 5) 56 (.func (.func 39) #[] #[.pointer (some ⟨s + 4, 0, none⟩), .pointer (some ⟨s + 2, 0, none⟩), .pointer (some ⟨bb, 0, none⟩), .pointer (some ⟨s + 5, 0, none⟩)]) := by
    have := Boxed.new (w4.alloc (.cells #[.slice (some ⟨s + 1 + 1 + 1, 0, none⟩) m m] 49)) 56 (.func (.func 39) #[] #[.pointer (some ⟨s + 1 + 1 + 1 + 1, 0, none⟩), .pointer (some ⟨s + 1 + 1, 0, none⟩), .pointer (some ⟨bb, 0, none⟩), .pointer (some ⟨s + 1 + 1 + 1 + 1 + 1, 0, none⟩)])
    rw [← hw6, World.size_alloc, HS4.out] at this
    exact this
  have hS6 : SeenAt w6 (s + 3) m (List.replicate m false) := ownsRow_same (SeenAt.made hrow4) (fun k hk => by cases hk; exact hb6.block (s + 3) (by omega))
  have hb36 : Below (s + 3) w3 w6 := hb4.trans (hb6.mono (by omega))
  have hbW6 : Below s W w6 := hb3.trans (hb36.mono (by omega))
  have hG6 : DpG l s nB bb A m c rows w6 := ⟨by omega, hrr.below (hbW6.mono h1), g6, (hb36.block s (by omega)).trans B0, (hb36.block (s + 2) (by omega)).trans B2, B4, B5⟩
  have hC6 : Boxed w6 (s + 1) 3 (.int .i64 ((0 : Nat) : Int)) := (hb36.block (s + 1) (by omega)).trans B1
  have hj6 := HJ.out _ _ _ h0 hbW6
  obtain ⟨s1, hD⟩ := hF
  have hFs := Dp.Whole.size hR ⟨s1, hD⟩
  have HI : SeaI l s nB bb A m c rows R J zs s1 0 w6 := ⟨F, _, 0, [], by have := Dp.Fo.depth_le F; omega, by simp, by rw [Nat.sub_zero, ← List.range_eq_range']; exact hD, by omega, by rw [HZS.out]; rfl, hG6, hS6, hC6, hj6⟩
  clear hw6 hsz6 B4 B5 hS6 hb36 hbW6 hG6 hC6 hj6 hFs hD hb6 hb4 hb3 B0 B1 B2 g5 g1 hrow4 hg4 HS4 HS3 HW3 hrr hbb h0 hs
  simp only [Nat.add_assoc, Nat.reduceAdd]
  gi_loopw [15] (fun iv wr => ∃ i : Nat, i ≤ m ∧ iv = .int .i64 (i : Int) ∧ SeaI l s nB bb A m c rows R J zs s1 i wr) (fun iv _ => m - (intOf iv).toNat)
  case atStart => exact ⟨0, Nat.zero_le _, rfl, HI⟩
  case round =>
    obtain ⟨i, him, rfl, F1, si, ki, prei, hdj, hlj, hDj, hkj, hzj, hG, hS, hC, hj⟩ := hrel
    have HDj := Lib.hid hDj
    have HKj := Lib.hid hkj
    have HZj := Lib.hid hzj
    clear HI hDj hkj hzj
    by_cases hlt : i < m
    · have HDj2 : Hid (Dp.Dfs R si (i :: List.range' (i + 1) (m - (i + 1))) F1 s1) := by
        show Dp.Dfs _ _ _ _ _
        have := HDj.out
        rw [show m - i = (m - (i + 1)) + 1 by omega, List.range'_succ] at this
        exact this
      have g7 := hS.cell hlt
      have g8 := hG.2.2.2.2.2.1.cell
      have hu1 : (0 : Int) ≤ (i : Int) := by omega
      have hu2 : (i : Int) < (m : Int) := by omega
      cases ht : si.getD i false with
      | true =>
        rw [ht] at g7
        have HF : SeaI l s nB bb A m c rows R J zs s1 (i + 1) wr := ⟨F1, si, ki, prei, hdj, hlj, HDj2.out.hit ht, HKj.out, HZj.out, hG, hS, hC, hj⟩
        clear ht HDj2 HDj hG hS hC hj
        gi_wp2
        refine ⟨fun _ h => (by cases h), ?_⟩
        gi_wp2
        go_roundw
        case rel => exact ⟨i + 1, by omega, by go_num, HF⟩
        case measure => simp [intOf]; omega
      | false =>
        rw [ht] at g7
        obtain ⟨ch2, rest2, s2, hF1, hd2, hd3⟩ := HDj2.out.miss ht
        have hdd : ch2.depth < m ∧ rest2.depth ≤ m := by rw [hF1] at hdj; simp only [Dp.Fo.depth] at hdj; omega
        have hkk : ki + 2 * (ch2.size + rest2.size + 1) = 2 * m := by have := HKj.out; rw [hF1] at this; exact this
        have hzz : ((prei ++ [⟨ki, i, -1, false⟩] ++ Dp.emit (ki + 1) ch2 (i : Int)) ++ [⟨ki + 2 * ch2.size + 1, i, -1, true⟩]) ++ Dp.emit (ki + 2 * ch2.size + 2) rest2 (-1) = zs := by
          rw [← HZj.out, hF1]
          simp [Dp.emit]
        have hsp := hd2.spec hR (by simp [hlj]) (hR i hlt)
        have g9 := hG.2.2.2.2.2.2.cell
        have HC := visit_in l m nB bb s hm8 R hR A c rows hrows X h1 h2 hX1 hX2 hXb J Jx zs HJ.out HY.out m ch2 hdd.1 i (-1) si s2 ki _ (ki + 2 * ch2.size + 2) prei _ wr hlt hlj hd2 rfl rfl (by omega) rfl ⟨Dp.emit (ki + 2 * ch2.size + 2) rest2 (-1), hzz⟩ hG hS hC hj
        have HC2 := Lib.hid HC
        have HD3 := Lib.hid hd3
        have HKK := Lib.hid hkk
        have HZZ := Lib.hid hzz
        have HLS := Lib.hid hsp.len
        have hdd2 := hdd.2
        clear HC hd3 hkk hzz hsp hdd hd2 hF1 ht HDj2 HDj HKj HZj hG hS hC hj
        gi_wp2_with fail
        refine (callsIn_wide.2 (callsIn_wide.1 HC2.out)).mono ?_
        rintro e W3 (⟨rfl, hj3, hG3, hS3, hC3, hK3⟩ | ⟨rfl, pre', hp', hJx⟩)
        · have HF : SeaI l s nB bb A m c rows R J zs s1 (i + 1) W3 := ⟨rest2, s2, _, _, hdd2, HLS.out, HD3.out, by have := HKK.out; omega, HZZ.out, hG3, hS3, hC3, hj3⟩
          clear hG3 hS3 hC3 hj3 hK3
          gi_wp2
          go_roundw
          case rel => exact ⟨i + 1, by omega, by go_num, HF⟩
          case measure => simp [intOf]; omega
        · gi_wp2
          refine bodyPost_ret (results_none rfl _ _ _) rfl ?_
          exact ⟨⟨_, rfl⟩, .inr ⟨pre', hp', hJx⟩⟩
    · obtain rfl : i = m := by omega
      have hfin : J zs wr := by
        have hD0 := HDj.out
        rw [Nat.sub_self] at hD0
        obtain ⟨hF0, _⟩ := hD0.done
        have := HZj.out
        rw [hF0] at this
        simp only [Dp.emit, List.append_nil] at this
        rw [← this]
        exact hj
      clear HDj HKj HZj hG hS hC hj
      gi_wp2
      go_end0
      exact ⟨⟨_, rfl⟩, .inl hfin⟩

/-- the same, as the caller's law asks for it -/
theorem search1_seq (m nB bb : Nat) (hm8 : m ≤ 8) (hm1 : 1 ≤ m) (R : Nat → List Nat) (hR : Wa.Ok m R) (A : Option Addr) (c : Nat) (rows : List (List Int)) (hrows : ∀ k, k < m → rows.getD k [] = upL (R k)) (X : Nat → Prop) (F : Dp.Fo) (hF : Dp.Whole m R F) (w : World)
    (h1 : nB ≤ w.heap.size) (hrr : RdR w nB A m c rows) (hbb : w.cell? ⟨bb, 0, none⟩ = some (.slice A m c)) (hX1 : ∀ k, X k → nB ≤ k) (hX2 : ∀ k, X k → k < w.heap.size) (hXb : ¬ X bb) :
    SeqCells Fence.wide 9 Try.prog 37 #[.pointer (some ⟨bb, 0, none⟩)] encS X (Dp.emit 0 F (-1)) w := by
  intro l J Jx W hb hsz hJ _ hY h0
  have e1 := World.block_lt_of_cell? w _ hbb
  simp only at e1
  exact search1_in l m nB bb W.heap.size hm8 hm1 R hR A c rows hrows _ (by omega) (by omega) (fun k hk => hk.elim (hX1 k) (fun h => by omega)) (fun k hk => hk.elim (fun h => by have := hX2 k h; omega) (fun h => h.2))
    (fun hx => hx.elim hXb (fun h => by omega)) J Jx F hF hJ hY W rfl (hrr.below (hb.mono h1)) ((hb.cell (p := ⟨bb, 0, none⟩) e1).trans hbb) h0

theorem search_any (A : Option Addr) (n c : Nat) (w : World) :
    Calls Try.prog 34 #[.slice A n c] w fun e w' => e = .returned (.func (.func 37) #[] #[.pointer (some ⟨w.heap.size, 0, none⟩)]) ∧ w' = w.alloc (.cells #[.slice A n c] 24) := by
  have hmf : ∀ (fn : Fn) (first cap : Array Value) (w : World), (Instr.makeFunc fn first cap).run Try.prog w = .ok (.func fn first cap) w := fun _ _ _ _ => rfl
  go_enter Try.func34, Try.ntmps34
  go_wp2
  go_ret
  exact ⟨rfl, rfl⟩

end Go.Proofs.Ytjcdnkbandagoaa
