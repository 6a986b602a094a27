/-
  Contracts of the reference on two sides: 'in', Sides (what is wrong), Most (how many pairs, by trying all).
-/
import Derived.Test.YtbegepdeaeplgaaDoorRefBeh
import Derived.Test.YtbegepdeaeplgaaDoorSeen
import Derived.Test.YtbegepdeaeplgaaDoorMatchK
namespace Go.Proofs.YtbegepdeaeplgaaDoor.RefM
open Go.RowKit
set_option linter.unusedSimpArgs false
set_option linter.unusedVariables false

theorem in_yes (n a b : Int) (w : World) (h1 : a ≤ n) (h2 : n ≤ b) :
    Calls Tryd.prog 13 #[.int .i64 n, .int .i64 a, .int .i64 b] w fun e w' => e = .returned (.bool true) ∧ w = w' := by
  go_enter Tryd.func13, Tryd.ntmps13
  go_wp2
  go_ret
  exact ⟨rfl, rfl⟩
theorem in_no (n a b : Int) (w : World) (h : n < a ∨ b < n) :
    Calls Tryd.prog 13 #[.int .i64 n, .int .i64 a, .int .i64 b] w fun e w' => e = .returned (.bool false) ∧ w = w' := by
  by_cases ha : n < a
  · go_enter Tryd.func13, Tryd.ntmps13
    go_wp2
    go_ret
    exact ⟨rfl, rfl⟩
  · have h1 : a ≤ n := by omega
    have hd : decide (n ≤ b) = false := by simp; omega
    clear h ha
    go_enter Tryd.func13, Tryd.ntmps13
    go_wp2
    go_ret
    exact ⟨rfl, rfl⟩

set_option maxRecDepth 100000 in
set_option maxHeartbeats 1000000 in
theorem Sides_any (l r : Int) (A : Option Addr) (k c : Nat) (ls : List Gr.Ln) (w : World) (hr : RdP w w.heap.size A k c ls) :
    Calls Tryd.prog 4 #[.int .i64 l, .int .i64 r, .slice A k c] w fun e w' => e = .returned (.int .i64 (Ma.code l r ls)) ∧ w = w' := by
  have HX := Lib.hid hr.len
  have hbig := hr.big
  by_cases h1 : l < 0 ∨ 6 < l
  · have hfin : Hid (Ma.code l r ls = 1) := by show _ = _; unfold Ma.code; rw [if_pos (by omega)]
    go_enter Tryd.func4, Tryd.ntmps4
    go_wp2_with fail
    refine (in_no l 0 6 _ h1).mono ?_
    rintro e w1 ⟨rfl, rfl⟩
    go_wp2
    go_ret
    exact ⟨by rw [hfin.out]; rfl, rfl⟩
  by_cases h2 : r < 0 ∨ 6 < r
  · have hfin : Hid (Ma.code l r ls = 1) := by show _ = _; unfold Ma.code; rw [if_pos (by omega)]
    go_enter Tryd.func4, Tryd.ntmps4
    go_wp2_with fail
    refine (in_yes l 0 6 _ (by omega) (by omega)).mono ?_
    rintro e w1 ⟨rfl, rfl⟩
    go_wp2_with fail
    refine (in_no r 0 6 _ h2).mono ?_
    rintro e w1 ⟨rfl, rfl⟩
    go_wp2
    go_ret
    exact ⟨by rw [hfin.out]; rfl, rfl⟩
  by_cases h24 : 24 < k
  · have hfin : Hid (Ma.code l r ls = 4) := by show _ = _; unfold Ma.code; rw [if_neg (by omega), if_pos (by rw [HX.out]; exact h24)]
    go_enter Tryd.func4, Tryd.ntmps4
    go_wp2_with fail
    refine (in_yes l 0 6 _ (by omega) (by omega)).mono ?_
    rintro e w1 ⟨rfl, rfl⟩
    go_wp2_with fail
    refine (in_yes r 0 6 _ (by omega) (by omega)).mono ?_
    rintro e w1 ⟨rfl, rfl⟩
    go_wp2
    go_ret
    exact ⟨by rw [hfin.out]; rfl, rfl⟩
  have hcode : Hid (Ma.code l r ls = Ma.fault l r ls) := by show _ = _; unfold Ma.code; rw [if_neg (by omega), if_neg (by rw [HX.out]; exact h24)]
  have s1 : IntKind.i64.wrap (l - 1) = l - 1 := by rw [IntKind.wrap_i64]; omega
  have s2 : IntKind.i64.wrap (r - 1) = r - 1 := by rw [IntKind.wrap_i64]; omega
  go_enter Tryd.func4, Tryd.ntmps4
  go_wp2_with fail
  refine (in_yes l 0 6 _ (by omega) (by omega)).mono ?_
  rintro e w1 ⟨rfl, rfl⟩
  go_wp2_with fail
  refine (in_yes r 0 6 _ (by omega) (by omega)).mono ?_
  rintro e w1 ⟨rfl, rfl⟩
  go_wp2
  go_loop [7] (fun i => ∃ j : Nat, j ≤ k ∧ i = .int .i64 j ∧ Hid (Ma.code l r ls = Ma.fault l r (ls.drop j))) (fun i => k - (intOf i).toNat)
  case atStart => exact ⟨0, Nat.zero_le _, rfl, hcode⟩
  case round =>
    obtain ⟨j, hj, rfl, H⟩ := hrel
    by_cases hlt : j < k
    · obtain ⟨b1, o1, rfl, hbb, hcc⟩ := hr.at_ (by omega)
      obtain ⟨g1, g2⟩ := hcc j hlt
      clear hcc
      obtain ⟨⟨p, q⟩, hp⟩ : ∃ p, p = ls.getD j (0, 0) := ⟨_, rfl⟩
      rw [← hp] at g1 g2
      have HP := Lib.hid hp
      clear hp
      simp only at g1 g2
      have hkl : Hid (j < ls.length) := by show _ < _; rw [HX.out]; exact hlt
      by_cases ha : p < 0 ∨ l ≤ p
      · have hfin : Hid (Ma.code l r ls = 1) := by show _ = _; rw [H.out, Ma.fault_bad hkl.out (by rw [← HP.out]; simp only; omega)]
        go_wp2_with fail
        refine (in_no p 0 (l - 1) _ (by omega)).mono ?_
        rintro e w1 ⟨rfl, rfl⟩
        go_wp2
        go_ret
        exact ⟨by rw [hfin.out]; rfl, rfl⟩
      · by_cases hq : q < 0 ∨ r ≤ q
        · have hfin : Hid (Ma.code l r ls = 1) := by show _ = _; rw [H.out, Ma.fault_bad hkl.out (by rw [← HP.out]; simp only; omega)]
          go_wp2_with fail
          refine (in_yes p 0 (l - 1) _ (by omega) (by omega)).mono ?_
          rintro e w1 ⟨rfl, rfl⟩
          go_wp2_with fail
          refine (in_no q 0 (r - 1) _ (by omega)).mono ?_
          rintro e w1 ⟨rfl, rfl⟩
          go_wp2
          go_ret
          exact ⟨by rw [hfin.out]; rfl, rfl⟩
        · have hnext : Hid (Ma.code l r ls = Ma.fault l r (ls.drop (j + 1))) := by show _ = _; rw [H.out, Ma.fault_on hkl.out (by rw [← HP.out]; simp only; omega)]
          go_wp2_with fail
          refine (in_yes p 0 (l - 1) _ (by omega) (by omega)).mono ?_
          rintro e w1 ⟨rfl, rfl⟩
          go_wp2_with fail
          refine (in_yes q 0 (r - 1) _ (by omega) (by omega)).mono ?_
          rintro e w1 ⟨rfl, rfl⟩
          go_wp2
          go_round
          case rel => exact ⟨j + 1, by omega, by go_num, hnext⟩
          case measure => simp [intOf]; omega
    · have hfin : Hid (Ma.code l r ls = 0) := by
        show _ = _
        rw [H.out, List.drop_eq_nil_of_le (by rw [HX.out]; omega)]; rfl
      go_wp2
      go_ret
      exact ⟨by rw [hfin.out]; rfl, rfl⟩

/-! ### Most -/
/-- the lines without one on the left (-1: with all) -/
def gb (G : Nat → Nat → Bool) (but : Int) : Nat → Nat → Bool := fun i j => !decide ((i : Int) = but) && G i j
theorem gb_all (G : Nat → Nat → Bool) : gb G (-1) = G := by
  funext i j
  unfold gb
  have : ¬ (i : Int) = -1 := by omega
  simp [this]
theorem gb_wo (G : Nat → Nat → Bool) (a : Nat) : gb G (a : Int) = Ma.wo G a := by
  funext i j
  unfold gb Ma.wo
  congr 2
  have : ((i : Int) = (a : Int)) ↔ i = a := by omega
  simp [this]
/-- those that are not used -/
def un (used : List Nat) : Nat → Bool := fun j => !used.contains j
theorem un_nil : un [] = fun _ => true := rfl
theorem un_snoc (used : List Nat) (k : Nat) : un (used ++ [k]) = fun x => un used x && !decide (x = k) := by
  funext x
  unfold un
  rw [Bool.eq_iff_iff]
  simp
theorem mo_le {G : Nat → Nat → Bool} {r : Nat} (xs : List Nat) (U : Nat → Bool) : Ma.mo G r xs U ≤ xs.length := by
  have h := Ma.weak (G := G) (r := r) xs U fun _ => false
  have e : Ma.nn G r xs U (fun _ => false) = 0 := List.countP_eq_zero.2 fun j _ => by simp [Ma.nb]
  rw [e] at h
  omega
theorem moTo_le {G : Nat → Nat → Bool} {r : Nat} (i : Nat) (xs : List Nat) (U : Nat → Bool) (k : Nat) : Ma.moTo G (Ma.mo G r xs) i U k ≤ xs.length + 1 := by
  rcases (Ma.moTo_spec (G := G) (Ma.mo G r xs) i U k).2.2 with h | ⟨j, _, _, h⟩
  · have := mo_le (G := G) (r := r) xs U
    omega
  · have := mo_le (G := G) (r := r) xs (fun x => U x && !decide (x = j))
    omega
theorem moTo_but {G : Nat → Nat → Bool} {i : Nat} (hG : ∀ j, G i j = false) (f : (Nat → Bool) → Nat) (U : Nat → Bool) : ∀ k, Ma.moTo G f i U k = f U
  | 0 => rfl
  | k + 1 => by
    have := moTo_but hG f U k
    unfold Ma.moTo
    rw [hG k, Bool.and_false, if_neg (by simp), this]
theorem up_contains (l : List Nat) (b : Nat) : (upL l).contains (b : Int) = l.contains b := by
  rw [Bool.eq_iff_iff, List.contains_iff_mem, List.contains_iff_mem]
  unfold upL
  rw [List.mem_map]
  constructor
  · rintro ⟨x, hx, e⟩
    obtain rfl : x = b := by omega
    exact hx
  · intro h
    exact ⟨b, h, rfl⟩

set_option maxRecDepth 100000 in
set_option maxHeartbeats 4000000 in
theorem Most_any (l r : Nat) (hl6 : l ≤ 6) (hr6 : r ≤ 6) (A : Option Addr) (n c : Nat) (ls : List Gr.Ln) (but : Int) : ∀ (f i : Nat) (used : List Nat) (A2 : Option Addr) (n2 c2 : Nat) (w : World), i + f = l → RdP w w.heap.size A n c ls → Rd w w.heap.size A2 n2 c2 (upL used) → n2 + f ≤ 100 →
    Calls Tryd.prog 7 #[.int .i64 (l : Int), .int .i64 (r : Int), .slice A n c, .int .i64 (i : Int), .int .i64 but, .slice A2 n2 c2] w fun e w' => e = .returned (.int .i64 ((Ma.mo (gb (Ma.gl ls) but) r (List.range' i f) (un used) : Nat) : Int)) ∧ Below w.heap.size w w' := by
  intro f
  induction f with
  | zero =>
    intro i used A2 n2 c2 w hil hl hr hn
    have h1 : (l : Int) ≤ (i : Int) := by omega
    go_enter Tryd.func7, Tryd.ntmps7
    go_wp2
    go_ret
    exact ⟨rfl, Below.refl _ _⟩
  | succ f ih =>
    intro i used A2 n2 c2 w hil hl hr hn
    have IH := Lib.hid ih
    clear ih
    have h1 : (i : Int) < (l : Int) := by omega
    have hlen : used.length = n2 := by rw [← upL_len]; exact hr.len
    have HLEN := Lib.hid hlen
    obtain ⟨G, hG⟩ : ∃ G, G = gb (Ma.gl ls) but := ⟨_, rfl⟩
    have HG := Lib.hid hG
    have HR : Hid (Ma.mo (gb (Ma.gl ls) but) r (List.range' i (f + 1)) (un used) = Ma.moTo G (Ma.mo G r (List.range' (i + 1) f)) i (un used) r) := by show _ = _; rw [← hG]; rfl
    have HB : Hid (∀ k, Ma.moTo G (Ma.mo G r (List.range' (i + 1) f)) i (un used) k ≤ 7) := fun k => by
      have := moTo_le (G := G) (r := r) i (List.range' (i + 1) f) (un used) k
      rw [List.length_range'] at this
      omega
    have HB2 : Hid (∀ U, Ma.mo G r (List.range' (i + 1) f) U ≤ 6) := fun U => by
      have := mo_le (G := G) (r := r) (List.range' (i + 1) f) U
      rw [List.length_range'] at this
      omega
    rw [HR.out]
    have HST : Hid (∀ k, Ma.moTo G (Ma.mo G r (List.range' (i + 1) f)) i (un used) (k + 1) = if (un used k && G i k) = true then max (Ma.moTo G (Ma.mo G r (List.range' (i + 1) f)) i (un used) k) (1 + Ma.mo G r (List.range' (i + 1) f) (un (used ++ [k]))) else Ma.moTo G (Ma.mo G r (List.range' (i + 1) f)) i (un used) k) := fun k => by rw [un_snoc]; rfl
    have H0 : Hid (Ma.moTo G (Ma.mo G r (List.range' (i + 1) f)) i (un used) 0 = Ma.mo G r (List.range' (i + 1) f) (un used)) := rfl
    have HGi : Hid (∀ k : Nat, but ≠ (i : Int) → G i k = Gr.has ls (i : Int) (k : Int)) := fun k hb => by
      rw [hG]
      unfold gb Ma.gl
      have : ¬ (i : Int) = but := fun e => hb e.symm
      simp [this]
    have HGn : Hid (but = (i : Int) → ∀ U k, Ma.moTo G (Ma.mo G r (List.range' (i + 1) f)) i U k = Ma.mo G r (List.range' (i + 1) f) U) := fun hb U k => moTo_but (fun j => by rw [hG]; unfold gb; simp [hb]) _ U k
    have e1 : IntKind.i64.wrap ((i : Int) + 1) = (i : Int) + 1 := by rw [IntKind.wrap_i64]; omega
    have HC : Hid (∀ (us : List Nat) (A3 : Option Addr) (n3 c3 : Nat) (W : World), RdP W W.heap.size A n c ls → Rd W W.heap.size A3 n3 c3 (upL us) → n3 + f ≤ 100 →
        Calls Tryd.prog 7 #[.int .i64 (l : Int), .int .i64 (r : Int), .slice A n c, .int .i64 ((i : Int) + 1), .int .i64 but, .slice A3 n3 c3] W fun e w' => e = .returned (.int .i64 ((Ma.mo G r (List.range' (i + 1) f) (un us) : Nat) : Int)) ∧ Below W.heap.size W w') := fun us A3 n3 c3 W hW1 hW2 hW3 => by
      have := IH.out (i + 1) us A3 n3 c3 W (by omega) hW1 hW2 hW3
      rw [← hG, show ((i + 1 : Nat) : Int) = (i : Int) + 1 by omega] at this
      exact this
    clear hlen hG IH HR
    generalize Ma.mo G r (List.range' (i + 1) f) = F at HB HB2 HST H0 HGn HC ⊢
    go_enter Tryd.func7, Tryd.ntmps7
    go_wp2_with fail
    refine (HC.out used A2 n2 c2 _ hl hr (by omega)).mono ?_
    rintro e w1 ⟨rfl, hb1⟩
    go_wp2
    go_loopw [13, 14, 15] (fun bv jv _ wr => ∃ j b : Nat, j ≤ r ∧ b ≤ 7 ∧ jv = .int .i64 (j : Int) ∧ bv = .int .i64 (b : Int) ∧ Hid (b = Ma.moTo G F i (un used) j) ∧ Below w.heap.size w wr) (fun _ jv _ _ => r - (intOf jv).toNat)
    case atStart => exact ⟨0, _, Nat.zero_le _, by have := HB2.out (un used); omega, rfl, rfl, H0.out.symm, hb1⟩
    case round =>
      clear hb1
      obtain ⟨j, b, hjr, hb7, rfl, rfl, HM, hbel⟩ := hrel
      by_cases hlt : j < r
      · have k2 : (j : Int) < (r : Int) := by omega
        have d0 : decide ((j : Int) < (r : Int)) = true := by simpa using hlt
        by_cases hbut : but = (i : Int)
        · have d1 : ((i : Int) != but) = false := by simp [hbut]
          have hfin : Hid (Ma.moTo G F i (un used) r = b) := by show _ = _; rw [HM.out, HGn.out hbut, HGn.out hbut]
          clear hbut
          go_wp2
          go_ret
          exact ⟨by rw [hfin.out]; rfl, hbel⟩
        · have d1 : ((i : Int) != but) = true := by simp; exact fun e => hbut e.symm
          have HGj := Lib.hid (HGi.out j hbut)
          have HSj := Lib.hid (HST.out j)
          have hlw := hl.past hbel
          have hrw := hr.past hbel
          have hun : Hid (un used j = !used.contains j) := rfl
          clear hbut
          cases hgo : Gr.has ls (i : Int) (j : Int) with
          | false =>
            have HGO := Lib.hid hgo
            have hn : Hid (b = Ma.moTo G F i (un used) (j + 1)) := by show _ = _; rw [HSj.out, HGj.out, hgo, Bool.and_false, if_neg (by simp)]; exact HM.out
            clear hgo
            go_wp2_with fail
            refine (RefL.Goes_any A n c ls (i : Int) (j : Int) false _ hlw HGO.out).mono ?_
            rintro e y1 ⟨rfl, rfl⟩
            go_wp2
            go_roundw
            case rel => exact ⟨j + 1, b, by omega, hb7, by go_num, rfl, hn, hbel⟩
            case measure => simp [intOf]; omega
          | true =>
            have HGO := Lib.hid hgo
            clear hgo
            cases hus : used.contains j with
            | true =>
              have HU : Hid ((upL used).contains (j : Int) = true) := by show _ = _; rw [up_contains, hus]
              have hn : Hid (b = Ma.moTo G F i (un used) (j + 1)) := by show _ = _; rw [HSj.out, hun.out, hus, Bool.not_true, Bool.false_and, if_neg (by simp)]; exact HM.out
              clear hus
              go_wp2_with fail
              refine (RefL.Goes_any A n c ls (i : Int) (j : Int) true _ hlw HGO.out).mono ?_
              rintro e y1 ⟨rfl, rfl⟩
              go_wp2_with fail
              refine (Has_any A2 n2 c2 _ (j : Int) true _ hrw HU.out).mono ?_
              rintro e y1 ⟨rfl, rfl⟩
              go_wp2
              go_roundw
              case rel => exact ⟨j + 1, b, by omega, hb7, by go_num, rfl, hn, hbel⟩
              case measure => simp [intOf]; omega
            | false =>
              have HU : Hid ((upL used).contains (j : Int) = false) := by show _ = _; rw [up_contains, hus]
              have hn : Hid (max b (1 + F (un (used ++ [j]))) = Ma.moTo G F i (un used) (j + 1)) := by show _ = _; rw [HSj.out, hun.out, hus, HGj.out, HGO.out, Bool.not_false, Bool.true_and, if_pos rfl, ← HM.out]
              clear hus
              go_wp2_with fail
              refine (RefL.Goes_any A n c ls (i : Int) (j : Int) true _ hlw HGO.out).mono ?_
              rintro e y1 ⟨rfl, rfl⟩
              go_wp2_with fail
              refine (Has_any A2 n2 c2 _ (j : Int) false _ hrw HU.out).mono ?_
              rintro e y1 ⟨rfl, rfl⟩
              go_wp2_with fail
              refine (RefW.Behind_any _ n2 c2 (upL used) (j : Int) _ hrw (by omega)).mono ?_
              rintro e w3 ⟨v3, rfl, hown3, hb3⟩
              obtain ⟨A3, c3, rfl, hr3⟩ := hown3.rd
              rw [← upL_snoc, upL_len, List.length_append, HLEN.out, List.length_cons, List.length_nil, Nat.zero_add] at hr3
              rw [← upL_snoc, upL_len, List.length_append, HLEN.out, List.length_cons, List.length_nil, Nat.zero_add]
              clear hown3
              go_wp2_with fail
              refine (HC.out (used ++ [j]) A3 (n2 + 1) c3 _ (hlw.past hb3) hr3 (by omega)).mono ?_
              rintro e w4 ⟨rfl, hb4⟩
              have hb04 : Below w.heap.size w w4 := hbel.trans ((hb3.trans (hb4.mono hb3.size)).mono hbel.size)
              have hy6 := HB2.out (un (used ++ [j]))
              have hm7 := HB.out (j + 1)
              rw [← hn.out] at hm7
              generalize F (un (used ++ [j])) = y at hn hy6 hm7
              have e2 : IntKind.i64.wrap (1 + (y : Int)) = 1 + (y : Int) := by rw [IntKind.wrap_i64]; omega
              by_cases hgt : b < 1 + y
              · have q1 : (b : Int) < 1 + (y : Int) := by omega
                have hn2 : Hid (1 + y = Ma.moTo G F i (un used) (j + 1)) := by show _ = _; rw [← hn.out]; omega
                clear hn hgt hm7
                go_wp2
                go_roundw
                case rel => exact ⟨j + 1, 1 + y, by omega, by omega, by go_num, by go_num, hn2, hb04⟩
                case measure => simp [intOf]; omega
              · have q1 : 1 + (y : Int) ≤ (b : Int) := by omega
                have hn2 : Hid (b = Ma.moTo G F i (un used) (j + 1)) := by show _ = _; rw [← hn.out]; omega
                clear hn hgt hm7
                go_wp2
                go_roundw
                case rel => exact ⟨j + 1, b, by omega, hb7, by go_num, rfl, hn2, hb04⟩
                case measure => simp [intOf]; omega
      · obtain rfl : j = r := by omega
        have hfin : Hid (Ma.moTo G F i (un used) j = b) := HM.out.symm
        go_wp2
        go_ret
        exact ⟨by rw [hfin.out]; rfl, hbel⟩

/-- all pairs -/
theorem Most_all (l r : Nat) (hl6 : l ≤ 6) (hr6 : r ≤ 6) (A : Option Addr) (n c : Nat) (ls : List Gr.Ln) (w : World) (hl : RdP w w.heap.size A n c ls) :
    Calls Tryd.prog 7 #[.int .i64 (l : Int), .int .i64 (r : Int), .slice A n c, .int .i64 0, .int .i64 (-1), .slice none 0 0] w fun e w' => e = .returned (.int .i64 ((Ma.nu (Ma.gl ls) l r : Nat) : Int)) ∧ Below w.heap.size w w' := by
  have := Most_any l r hl6 hr6 A n c ls (-1) l 0 [] none 0 0 w (by omega) hl (Rd.nil _ _) (by omega)
  rw [gb_all, un_nil, ← List.range_eq_range'] at this
  exact this
/-- without one on the left -/
theorem Most_but (l r a : Nat) (hl6 : l ≤ 6) (hr6 : r ≤ 6) (A : Option Addr) (n c : Nat) (ls : List Gr.Ln) (w : World) (hl : RdP w w.heap.size A n c ls) :
    Calls Tryd.prog 7 #[.int .i64 (l : Int), .int .i64 (r : Int), .slice A n c, .int .i64 0, .int .i64 (a : Int), .slice none 0 0] w fun e w' => e = .returned (.int .i64 ((Ma.nu (Ma.wo (Ma.gl ls) a) l r : Nat) : Int)) ∧ Below w.heap.size w w' := by
  have := Most_any l r hl6 hr6 A n c ls (a : Int) l 0 [] none 0 0 w (by omega) hl (Rd.nil _ _) (by omega)
  rw [gb_wo, un_nil, ← List.range_eq_range'] at this
  exact this

end Go.Proofs.YtbegepdeaeplgaaDoor.RefM
