/-
  Contracts of slices.Clone at slices of integers and of rows, and of slices.DeleteFunc at a slice of the call's own with the closure of package walk: all numbers but one.
-/
import Derived.Test.YtghmpdhopdmmiaaDoorBase
import Derived.Test.YtghmpdhopdmmiaaDoorLibT
import Derived.Test.YtghmpdhopdmmiaaDoorLibS
import Derived.Test.YtghmpdhopdmmiaaDoorGraphA
import Derived.Lib.SliceRun
namespace Go.Proofs.YtghmpdhopdmmiaaDoor
open Go.RowKit

set_option linter.unusedSimpArgs false
set_option linter.unusedVariables false

theorem CloneI (b o n c : Nat) (zs : List Int) (w : World) (hr : Rd w w.heap.size (some ⟨b, o, none⟩) n c zs) (hsm : n ≤ 1048576) :
    Calls Tryd.prog 32 #[.slice (some ⟨b, o, none⟩) n c] w fun e w' => ∃ v, e = .returned v ∧ Own w' w.heap.size 3 v zs ∧ Below w.heap.size w w' := by
  have q22 : ∀ (w : World) (a : Option Addr) (n c n' c' : Nat), (binOp .eql 24 (.slice a n c) (.slice none n' c')).run Tryd.prog w = .ok (.bool a.isNone) w := fun w a n c n' c' => Lib.run_eql_slice_nil w _ _ a n c n' c' Tryd.underlying24
  have hown0 : Own (w.alloc (.cells #[] 3)) w.heap.size 3 (.slice (some ⟨w.heap.size, 0, none⟩) 0 0) [] := World.ownsRow_made w #[] 0 (Nat.le_refl _) (Nat.zero_le _) rfl
  have hal : Below w.heap.size w (w.alloc (.cells #[] 3)) := (Below.refl _ _).alloc (Nat.le_refl _) _
  have hr1 := hr.below hal
  have hbase : w.heap.size ≤ (w.alloc (.cells #[] 3)).heap.size := hal.size
  go_enter Tryd.func32, Tryd.ntmps32
  go_wp2_with (at_builtin; refine wpList_app _ rfl (.tmp 5) (.tmp 6) _ rfl w.heap.size 3 Tryd.underlying24 intInfo _ [] rfl hown0 (some ⟨b, o, none⟩) n c zs rfl hr1 (by simp; omega) hbase ?_; intro v1 w1 hown1 hg1 hat1)
  go_wp2
  go_ret
  refine ⟨v1, rfl, by simpa using hown1, below_app hal hown0 hg1 hbase⟩

/-- a copy of a slice of rows: the same rows -/
theorem CloneR (b o n c : Nat) (vs : List Value) (w : World) (hn : n ≤ 8) (hl : vs.length = n) (hc : ∀ j, j < n → w.cell? ⟨b, o + j, none⟩ = some (vs.getD j undef)) (h1 : ∀ u ∈ vs, u.oneCell' = true) :
    Calls Tryd.prog 30 #[.slice (some ⟨b, o, none⟩) n c] w fun e w' => ∃ v, e = .returned v ∧ w'.ownsRow w.heap.size 24 1 v n vs ∧ Below w.heap.size w w' := by
  obtain ⟨i0, hi, hz0, hz1, hz2⟩ := info_parts rowInfo
  have q22 : ∀ (w : World) (a : Option Addr) (n c n' c' : Nat), (binOp .eql 25 (.slice a n c) (.slice none n' c')).run Tryd.prog w = .ok (.bool a.isNone) w := fun w a n c n' c' => Lib.run_eql_slice_nil w _ _ a n c n' c' Tryd.underlying25
  have hown0 : (w.alloc (.cells #[] 24)).ownsRow w.heap.size 24 1 (.slice (some ⟨w.heap.size, 0, none⟩) 0 0) 0 [] := World.ownsRow_made w #[] 0 (Nat.le_refl _) (Nat.zero_le _) rfl
  have hal : Below w.heap.size w (w.alloc (.cells #[] 24)) := (Below.refl _ _).alloc (Nat.le_refl _) _
  have hnews : ∀ j u, vs[j]? = some u → (w.alloc (.cells #[] 24)).cell? ((⟨b, o, none⟩ : Addr).add j) = some u := by
    intro j u hj
    obtain ⟨h2, h3⟩ := List.getElem?_eq_some_iff.1 hj
    have h4 := hc j (by omega)
    rw [Addr.add_mid, (hal.cell (p := ⟨b, o + j, none⟩) (World.block_lt_of_cell? w _ h4)), h4]
    simp [List.getD, hj]
  have HC := Lib.hid hc
  clear hc
  go_enter Tryd.func30, Tryd.ntmps30
  go_wp2_with (at_builtin; refine wpList_append_own _ rfl (.tmp 5) (.tmp 6) _ rfl w.heap.size 24 i0 (.slice none 0 0) 1 24 Tryd.underlying25 hi hz0 hz1 hz2 rfl (by omega) _ 0 [] rfl hown0 ⟨b, o, none⟩ n c vs rfl (by omega) hnews h1 (by simp only [maxLen]; omega) (by omega) hal.size ?_; intro v1 w1 hown1 hg1 hat1)
  go_wp2
  go_ret
  have hat : ∀ k, (Value.slice (some (⟨w.heap.size, 0, none⟩ : Addr)) 0 0).ownBlock = some k → w.heap.size ≤ k := by
    intro k hk
    have : w.heap.size = k := by simpa [Value.ownBlock] using hk
    omega
  exact ⟨v1, rfl, by simpa using hown1, hal.grown hg1 hal.size hat⟩

/-- the closure of ringThrough, which has captured the box of b -/
theorem ring1_any (bx : Nat) (b v : Int) (t : Bool) (w : World) (hc : w.cell? ⟨bx, 0, none⟩ = some (.int .i64 b)) (ht : (v == b) = t) :
    Calls Tryd.prog 33 #[.int .i64 v, .pointer (some ⟨bx, 0, none⟩)] w fun e w' => e = .returned (.bool t) ∧ w = w' := by
  go_enter Tryd.func33, Tryd.ntmps33
  go_wp2
  go_ret
  exact ⟨rfl, rfl⟩

set_option maxHeartbeats 1000000 in
theorem IndexFunc_own (bx g n cap k : Nat) (b : Int) (zs : List Int) (w : World) (hn : zs.length = n) (hbig : n ≤ 9223372036854775807) (hc : ∀ j, j < n → w.cell? ⟨g, j, none⟩ = some (.int .i64 (zs.getD j 0))) (hx : w.cell? ⟨bx, 0, none⟩ = some (.int .i64 b)) (hk : k < n) (hkb : zs.getD k 0 = b) (hlow : ∀ j, j < k → zs.getD j 0 ≠ b) :
    Calls Tryd.prog 44 #[.slice (some ⟨g, 0, none⟩) n cap, .func (.func 33) #[] #[.pointer (some ⟨bx, 0, none⟩)]] w fun e w' => e = .returned (.int .i64 (k : Int)) ∧ w = w' := by
  have HN := Lib.hid hn
  have HC := Lib.hid hc
  have HB := Lib.hid hkb
  have HL := Lib.hid hlow
  clear hn hc hkb hlow
  go_enter Tryd.func44, Tryd.ntmps44
  go_wp2
  go_loop [8] (fun iv => ∃ i : Nat, i ≤ k ∧ iv = .int .i64 (i : Int)) (fun iv => k + 1 - (intOf iv).toNat)
  case atStart => exact ⟨0, Nat.zero_le _, rfl⟩
  case round =>
    obtain ⟨i, hik, rfl⟩ := hrel
    have hlt : i < n := by omega
    have hltI : (i : Int) < (n : Int) := by omega
    have hi0 : (0 : Int) ≤ (i : Int) := by omega
    have g1 := HC.out i hlt
    by_cases he : i = k
    · have ht : ((zs.getD i 0) == b) = true := by rw [he, HB.out]; simp
      generalize zs.getD i 0 = p at g1 ht
      have HE := Lib.hid he
      clear he
      go_wp2_with (go_at_call 33; refine (ring1_any bx b p true _ hx ht).mono ?_; rintro e w1 ⟨rfl, rfl⟩)
      go_ret
      exact ⟨by rw [HE.out]; rfl, rfl⟩
    · have ht : ((zs.getD i 0) == b) = false := by simpa using HL.out i (by omega)
      generalize zs.getD i 0 = p at g1 ht
      have hik2 : i < k := by omega
      clear he
      go_wp2_with (go_at_call 33; refine (ring1_any bx b p false _ hx ht).mono ?_; rintro e w1 ⟨rfl, rfl⟩)
      go_round
      case rel => exact ⟨i + 1, by omega, by go_num⟩
      case measure => simp [intOf]; omega

/-- the row while it is filtered: i have been kept of the first j -/
structure KInv (zs : List Int) (b : Int) (i j : Nat) (cur : List Int) : Prop where
  len : cur.length = zs.length
  low : cur.take i = (zs.take j).filter fun x => !(x == b)
  high : ∀ k, j ≤ k → cur.getD k 0 = zs.getD k 0

theorem KInv.keep {zs : List Int} {b : Int} {i j : Nat} {cur : List Int} (h : KInv zs b i j cur) (hij : i < j) (hj : j < zs.length) (hne : (zs.getD j 0 == b) = false) : KInv zs b (i + 1) (j + 1) (cur.set i (zs.getD j 0)) := by
  have hl := h.len
  refine ⟨by simp [h.len], ?_, fun k hk => ?_⟩
  · have e : zs.getD j 0 = zs[j] := by simp [List.getD, hj]
    generalize zs.getD j 0 = y at hne e
    rw [List.take_succ_eq_append_getElem (show i < (cur.set i y).length by simp; omega), List.take_set_of_le (Nat.le_refl _), h.low, List.take_succ_eq_append_getElem hj, List.filter_append, ← e]
    simp [hne]
  · have : i ≠ k := by omega
    rw [← h.high k (by omega)]
    simp [List.getD, List.getElem?_set, this]
theorem KInv.skip {zs : List Int} {b : Int} {i j : Nat} {cur : List Int} (h : KInv zs b i j cur) (hj : j < zs.length) (hne : (zs.getD j 0 == b) = true) : KInv zs b i (j + 1) cur := by
  refine ⟨h.len, ?_, fun k hk => h.high k (by omega)⟩
  rw [h.low, List.take_succ_eq_append_getElem hj, List.filter_append]
  have e : zs.getD j 0 = zs[j] := by simp [List.getD, hj]
  rw [e] at hne
  simp [hne]
theorem KInv.start {zs : List Int} {b : Int} {k : Nat} (hk : k < zs.length) (hkb : zs.getD k 0 = b) (hlow : ∀ j, j < k → zs.getD j 0 ≠ b) : KInv zs b k (k + 1) zs := by
  refine ⟨rfl, ?_, fun _ _ => rfl⟩
  have e : zs.getD k 0 = zs[k] := by simp [List.getD, hk]
  rw [List.take_succ_eq_append_getElem hk, List.filter_append, ← e, hkb]
  have : (zs.take k).filter (fun x => !(x == b)) = zs.take k := by
    rw [List.filter_eq_self]
    intro x hx
    obtain ⟨j, hj, rfl⟩ := List.getElem_of_mem hx
    rw [List.length_take] at hj
    have := hlow j (by omega)
    simp only [List.getElem_take]
    simpa [List.getD, show j < zs.length by omega] using this
  rw [this]
  simp

theorem Own.cutTo {w : World} {base e g n cap i : Nat} {zs : List Int} (h : Own w base e (.slice (some ⟨g, 0, none⟩) n cap) zs) (hi : i ≤ n) : Own w base e (.slice (some ⟨g, 0, none⟩) i cap) (zs.take i) := by
  have hn := h.len
  subst hn
  unfold Own at h ⊢
  rcases h.2 with ⟨h', _⟩ | ⟨g', cap', cur, h', hb, hg, hnc, hcm, hcs, htake⟩
  · cases h'
  · simp only [Value.slice.injEq, Option.some.injEq, Addr.mk.injEq, and_true, true_and] at h'
    obtain ⟨rfl, rfl⟩ := h'
    have hl : (zs.take i).length = i := by simp; omega
    rw [hl]
    refine ⟨by simp; omega, .inr ⟨g, cap, cur, rfl, hb, hg, by omega, hcm, hcs, ?_⟩⟩
    rw [List.map_take, ← htake, List.take_take, Nat.mul_one, Nat.mul_one, Nat.min_eq_left hi]
theorem Own.zeros {base e g n cap : Nat} : ∀ (k o : Nat) {w : World} {zs : List Int}, Own w base e (.slice (some ⟨g, 0, none⟩) n cap) zs → ∃ zs', Own (w.setCells g o (List.replicate k (.int .i64 0))) base e (.slice (some ⟨g, 0, none⟩) n cap) zs' ∧ zs'.take o = zs.take o ∧ w.grownBy (w.setCells g o (List.replicate k (.int .i64 0))) (some g)
  | 0, o, w, zs, h => ⟨zs, h, rfl, World.grownBy.refl _ _⟩
  | k + 1, o, w, zs, h => by
    obtain ⟨h1, h2⟩ := h.store o 0
    obtain ⟨zs', h3, h4, h5⟩ := Own.zeros k (o + 1) h1
    refine ⟨zs', h3, ?_, h2.andThen h5 (fun _ h => .inr h)⟩
    have := congrArg (List.take o) h4
    rw [List.take_take, List.take_take, Nat.min_eq_left (by omega)] at this
    rw [this]
    exact List.take_set_of_le (Nat.le_refl _)

set_option maxRecDepth 100000 in
set_option maxHeartbeats 2000000 in
/-- all numbers but b, of a slice of the call's own in which b is -/
theorem DeleteFunc_own (bx base g n cap k : Nat) (b : Int) (zs : List Int) (w : World) (hown : Own w base 3 (.slice (some ⟨g, 0, none⟩) n cap) zs) (hx : w.cell? ⟨bx, 0, none⟩ = some (.int .i64 b)) (hxg : bx ≠ g) (hk : k < n) (hkb : zs.getD k 0 = b) (hlow : ∀ j, j < k → zs.getD j 0 ≠ b) (hsm : n ≤ 1048576) :
    Calls Tryd.prog 31 #[.slice (some ⟨g, 0, none⟩) n cap, .func (.func 33) #[] #[.pointer (some ⟨bx, 0, none⟩)]] w fun e w' =>
      ∃ v, e = .returned v ∧ Own w' base 3 v (zs.filter fun x => !(x == b)) ∧ v.ownBlock = some g ∧ w.grownBy w' (some g) := by
  have hn := hown.len
  have hcl : ∀ j, j < n → w.cell? ⟨g, j, none⟩ = some (.int .i64 (zs.getD j 0)) := fun j hj => hown.cell j hj
  have HIF := Lib.hid (IndexFunc_own bx g n cap k b zs w hn.symm (by omega) hcl hx hk hkb hlow)
  have hcap : n ≤ cap := hown.rd'.le
  have HK0 := Lib.hid (KInv.start (zs := zs) (b := b) (by omega) hkb hlow)
  have HN := Lib.hid hn
  have hne1 : ((k : Int) == -1) = false := beq_eq_false_iff_ne.2 (by omega)
  clear hcl hkb hlow hn
  go_enter Tryd.func31, Tryd.ntmps31
  go_wp2_with (go_at_call 44; refine HIF.out.mono ?_; rintro e w1 ⟨rfl, rfl⟩)
  go_loopw [5, 6] (fun iv jv wr => ∃ (i j : Nat) (cur : List Int), iv = .int .i64 (i : Int) ∧ jv = .int .i64 (j : Int) ∧ i < j ∧ j ≤ n ∧ Own wr base 3 (.slice (some ⟨g, 0, none⟩) n cap) cur ∧ Hid (KInv zs b i j cur) ∧ wr.cell? ⟨bx, 0, none⟩ = some (.int .i64 b) ∧ w.grownBy wr (some g)) (fun _ jv _ => n - (intOf jv).toNat)
  case atStart => exact ⟨k, k + 1, zs, rfl, by go_num, by omega, by omega, hown, HK0, hx, World.grownBy.refl _ _⟩
  case round =>
    clear hown hx
    obtain ⟨i, j, cur, rfl, rfl, hij, hjn, hown, HK, hx, hg⟩ := hrel
    by_cases hlt : j < n
    · have hltI : (j : Int) < (n : Int) := by omega
      have hj0 : (0 : Int) ≤ (j : Int) := by omega
      have hi0 : (0 : Int) ≤ (i : Int) := by omega
      have hiI : (i : Int) < (n : Int) := by omega
      have g1 := hown.cell j hlt
      have g2 := hown.cell i (by omega)
      have g3 := hown.frozen i
      rw [HK.out.high j (Nat.le_refl _)] at g1
      have hjz : j < zs.length := by have := HN.out; omega
      cases ht : (zs.getD j 0 == b) with
      | false =>
        have HK2 := Lib.hid (HK.out.keep hij hjz ht)
        generalize zs.getD j 0 = p at g1 ht HK2
        have hst := hown.store i p
        clear hown HK hjz
        go_wp2_with (go_at_call 33; refine (ring1_any bx b p false _ hx ht).mono ?_; rintro e w1 ⟨rfl, rfl⟩)
        go_roundw
        case rel =>
          refine ⟨i + 1, j + 1, _, by go_num, by go_num, by omega, by omega, hst.1, HK2, ?_, hg.andThen hst.2 (fun _ h => .inr h)⟩
          rw [World.cell?_setCell_other _ _ _ _ (fun e => hxg (congrArg Addr.block e).symm)]
          exact hx
        case measure => simp [intOf]; omega
      | true =>
        have HK2 := Lib.hid (HK.out.skip hjz ht)
        generalize zs.getD j 0 = p at g1 ht
        go_wp2_with (go_at_call 33; refine (ring1_any bx b p true _ hx ht).mono ?_; rintro e w1 ⟨rfl, rfl⟩)
        go_roundw
        case rel => exact ⟨i, j + 1, cur, rfl, by go_num, by omega, by omega, hown, HK2, hx, hg⟩
        case measure => simp [intOf]; omega
    · obtain rfl : j = n := by omega
      have hi0 : (0 : Int) ≤ (i : Int) := by omega
      have hij2 : (i : Int) ≤ (j : Int) := by omega
      have hic : (i : Int) ≤ (cap : Int) := by omega
      have hnc : ¬ cap = i := by omega
      have hclr : ∀ ty, (Builtin.clear_ #[24] ty #[.slice (some ⟨g, i, none⟩) (j - i) (cap - i)]).run Tryd.prog wr = .ok (.tuple #[]) (wr.setCells g i (List.replicate (j - i) (.int .i64 0))) :=
        fun ty => Lib.run_clear_slice wr _ _ ty _ Tryd.underlying24 Tryd.zeroValue3 rfl rfl g i _ _ (by omega) (fun t ht => by rw [hown.cell (i + t) (by omega)]; rfl) (fun t ht => hown.frozen (i + t))
      obtain ⟨zs', hz1, hz2, hz3⟩ := hown.zeros (j - i) i
      obtain ⟨W5, hW5⟩ : ∃ W5, W5 = wr.setCells g i (List.replicate (j - i) (.int .i64 0)) := ⟨_, rfl⟩
      rw [← hW5] at hz1 hz3 hclr
      have hfin : Own W5 base 3 (.slice (some ⟨g, 0, none⟩) i cap) (zs.filter fun x => !(x == b)) := by
        have h1 := hz1.cutTo (i := i) (by omega)
        rw [hz2, HK.out.low, List.take_of_length_le (by have := HN.out; omega)] at h1
        exact h1
      have HZ := Lib.hid hz2
      clear hW5 hz1 hz2 hown HK
      go_wp2
      go_ret
      exact ⟨_, rfl, hfin, rfl, hg.andThen hz3 (fun _ h => .inr h)⟩

end Go.Proofs.YtghmpdhopdmmiaaDoor
