/-
  Contracts of the reference's Behind, ring and Ring: is there a ring of so many points, by all ways.
-/
import Derived.Test.YtklanopgmlmjlaaDoorRefL
import Derived.Test.YtklanopgmlmjlaaDoorWalkF
import Derived.Test.YtklanopgmlmjlaaDoorWalkG
namespace Go.Proofs.YtklanopgmlmjlaaDoor.RefW
open Go.RowKit
set_option linter.unusedSimpArgs false
set_option linter.unusedVariables false

theorem Behind_any (A : Option Addr) (n c : Nat) (zs : List Int) (x : Int) (w : World) (hr : Rd w w.heap.size A n c zs) (hn : n ≤ 1000000) :
    Calls Tryd.prog 26 #[.slice A n c, .int .i64 x] w fun e w' => ∃ v, e = .returned v ∧ Own w' w.heap.size 3 v (zs ++ [x]) ∧ Below w.heap.size w w' := by
  have HL := Lib.hid hr.len
  go_enter Tryd.func26, Tryd.ntmps26
  go_wp2_with (first
    | (at_builtin; refine wpList_app _ rfl (.tmp 6) (.tmp 7) _ rfl w.heap.size 3 Tryd.underlying24 intInfo _ _ rfl (Own.nil w w.heap.size 3) A n c zs rfl hr (by simp; omega) (Nat.le_refl _) ?_; intro v1 w1 hown1 hg1 hat1; rw [List.nil_append] at hown1; have hb1 : Below w.heap.size w w1 := (Below.refl _ _).grown hg1 (Nat.le_refl _) (fun _ h => by cases h); have hs1 := hb1.size)
    | (at_builtin; refine wpList_app _ rfl (.tmp 9) (.tmp 11) _ rfl w.heap.size 3 Tryd.underlying24 intInfo _ zs rfl (hown1.below ((Below.refl _ _).alloc (Nat.le_refl _) _)) (some ⟨w1.heap.size, 0, none⟩) 1 1 [x] rfl (Rd.one _ _ _) (by rw [HL.out]; omega) (by simp; omega) ?_; intro v2 w2 hown2 hg2 hat2))
  go_ret
  exact ⟨_, rfl, hown2, below_app (hb1.alloc hs1 _) (hown1.below ((Below.refl _ _).alloc (Nat.le_refl _) _)) hg2 (by simp; omega)⟩

theorem up_contains (l : List Nat) (b : Nat) : (upL l).contains (b : Int) = l.contains b := by
  induction l with
  | nil => rfl
  | cons x xs ih =>
    have h : ∀ (y : Nat) ys, upL (y :: ys) = (y : Int) :: upL ys := fun _ _ => rfl
    have h2 : ((b : Int) == (x : Int)) = (b == x) := by
      by_cases e : b = x
      · subst e; simp
      · have : ¬ (b : Int) = (x : Int) := by omega
        rw [beq_eq_false_iff_ne.2 this, beq_eq_false_iff_ne.2 e]
    rw [h, List.contains_cons, List.contains_cons, ih, h2]
theorem last_at (l : List Nat) : l.getD (l.length - 1) 0 = l.getLastD 0 := by
  cases l with
  | nil => rfl
  | cons x xs =>
    rw [List.getLastD_cons]
    simp only [List.length_cons, Nat.add_sub_cancel, List.getD]
    induction xs generalizing x with
    | nil => rfl
    | cons y ys ih =>
      rw [List.length_cons, List.getElem?_cons_succ, ih y, List.getLastD_cons]
theorem head_at (l : List Nat) : l.getD 0 0 = l.headD 0 := by cases l <;> rfl
theorem nrow_contains {m : Nat} (ls : List Gr.Ln) (a : Nat) {b : Nat} (hb : b < m) : (Wa.nrow m ls a).contains b = Gr.adj ls (a : Int) (b : Int) := by
  cases h : Gr.adj ls (a : Int) (b : Int) with
  | true =>
    have : b ∈ Wa.nrow m ls a := Wa.mem_nrow.2 ⟨hb, h⟩
    simpa using this
  | false =>
    have : ¬ b ∈ Wa.nrow m ls a := fun hh => by have := (Wa.mem_nrow.1 hh).2; rw [h] at this; cases this
    simpa using this

/-- has one of the first b points led back? -/
def rgTo (m : Nat) (R : Nat → List Nat) (f : Nat) (way : List Nat) (b : Nat) : Bool := (List.range b).any fun b => (R (way.getLastD 0)).contains b && (!way.contains b && Wf.rg m R f (way ++ [b]))
theorem rgTo_succ (m : Nat) (R : Nat → List Nat) (f : Nat) (way : List Nat) (b : Nat) : rgTo m R f way (b + 1) = (rgTo m R f way b || ((R (way.getLastD 0)).contains b && (!way.contains b && Wf.rg m R f (way ++ [b])))) := by
  simp [rgTo, List.range_succ]
theorem rgTo_all {m : Nat} {R : Nat → List Nat} {f : Nat} {way : List Nat} {b : Nat} (hb : b < m) (h : rgTo m R f way (b + 1) = true) : Wf.rg m R (f + 1) way = true := by
  unfold rgTo at h
  rw [List.any_eq_true] at h
  obtain ⟨x, hx, h2⟩ := h
  show (List.range m).any _ = true
  rw [List.any_eq_true]
  exact ⟨x, by simp at hx ⊢; omega, h2⟩

set_option maxRecDepth 100000 in
set_option maxHeartbeats 4000000 in
theorem ring_any (m many : Nat) (hm8 : m ≤ 8) (hmany : many ≤ 8) (A : Option Addr) (n c : Nat) (ls : List Gr.Ln) : ∀ (f : Nat) (way : List Nat) (A2 : Option Addr) (n2 c2 : Nat) (w : World), RdP w w.heap.size A n c ls → Rd w w.heap.size A2 n2 c2 (upL way) → n2 + f = many → 1 ≤ n2 → (∀ x ∈ way, x < m) →
    Calls Tryd.prog 15 #[.int .i64 (m : Int), .slice A n c, .slice A2 n2 c2, .int .i64 (many : Int)] w fun e w' => e = .returned (.bool (Wf.rg m (Wa.nrow m ls) f way)) ∧ Below w.heap.size w w' := by
  intro f
  induction f with
  | zero =>
    intro way A2 n2 c2 w hl hr hnf h1 hmem
    obtain rfl : n2 = many := by omega
    have hlen : way.length = n2 := by rw [← upL_len]; exact hr.len
    have hhead : way.headD 0 < m := by
      cases way with
      | nil => simp at hlen; omega
      | cons x xs => exact hmem x (by simp)
    obtain ⟨b0, o0, rfl, hb0, hc⟩ := hr.at_ (by omega)
    have g1 := hc (n2 - 1) (by omega)
    have g2 := hc 0 (by omega)
    rw [upL_at, ← hlen, last_at, hlen] at g1
    rw [upL_at, head_at, Nat.add_zero] at g2
    have HR : Hid (Wf.rg m (Wa.nrow m ls) 0 way = Gr.adj ls ((way.getLastD 0 : Nat) : Int) ((way.headD 0 : Nat) : Int)) := nrow_contains ls _ hhead
    generalize way.getLastD 0 = p at g1 HR
    generalize way.headD 0 = q at g2 HR
    have hcap := hr.cap
    have hle := hr.le
    clear hc hr hhead hlen hmem
    have e1 : IntKind.i64.wrap ((n2 : Int) - 1) = (n2 : Int) - 1 := by rw [IntKind.wrap_i64]; omega
    have e2 : ((n2 : Int) - 1).toNat = n2 - 1 := by omega
    have e3 : (0 : Int) ≤ (n2 : Int) - 1 := by omega
    have e4 : (n2 : Int) - 1 < (n2 : Int) := by omega
    have e5 : ((n2 : Int) == (n2 : Int)) = true := by simp
    have e6 : (n2 == n2) = true := by simp
    have e7 : (0 : Int) < (n2 : Int) := by omega
    go_enter Tryd.func15, Tryd.ntmps15
    go_wp2_with fail
    refine (RefL.Beside_any A n c ls (p : Int) (q : Int) _ _ hl rfl).mono ?_
    rintro e w1 ⟨rfl, rfl⟩
    go_wp2
    go_ret
    exact ⟨by rw [HR.out]; rfl, Below.refl _ _⟩
  | succ f ih =>
    intro way A2 n2 c2 w hl hr hnf h1 hmem
    have IH := Lib.hid ih
    clear ih
    have hlen : way.length = n2 := by rw [← upL_len]; exact hr.len
    obtain ⟨b0, o0, rfl, hb0, hc⟩ := hr.at_ (by omega)
    have g1 := hc (n2 - 1) (by omega)
    rw [upL_at, ← hlen, last_at, hlen] at g1
    have HA : Hid (∀ b, b < m → (Wa.nrow m ls (way.getLastD 0)).contains b = Gr.adj ls ((way.getLastD 0 : Nat) : Int) (b : Int)) := fun b hb => nrow_contains ls _ hb
    have HS := Lib.hid (fun b => rgTo_succ m (Wa.nrow m ls) f way b)
    have HMEM := Lib.hid hmem
    have HLEN := Lib.hid hlen
    have HNF := Lib.hid hnf
    have HALL : Hid (∀ b, b < m → rgTo m (Wa.nrow m ls) f way (b + 1) = true → Wf.rg m (Wa.nrow m ls) (f + 1) way = true) := fun b hb h => rgTo_all hb h
    have HNONE : Hid (rgTo m (Wa.nrow m ls) f way m = Wf.rg m (Wa.nrow m ls) (f + 1) way) := rfl
    have H0 : Hid (rgTo m (Wa.nrow m ls) f way 0 = false) := rfl
    generalize way.getLastD 0 = p at g1 HA HS
    have hcap := hr.cap
    have hle := hr.le
    have e1 : IntKind.i64.wrap ((n2 : Int) - 1) = (n2 : Int) - 1 := by rw [IntKind.wrap_i64]; omega
    have e2 : ((n2 : Int) - 1).toNat = n2 - 1 := by omega
    have e3 : (0 : Int) ≤ (n2 : Int) - 1 := by omega
    have e4 : (n2 : Int) - 1 < (n2 : Int) := by omega
    have e5 : ((n2 : Int) == (many : Int)) = false := by simp; omega
    have e6 : (n2 == many) = false := by simp; omega
    have hn8 : n2 < 8 := by omega
    clear hc hlen hmem hnf
    go_enter Tryd.func15, Tryd.ntmps15
    go_wp2
    clear e1 e2 e3 e4 e5 e6 g1
    go_loopw [10] (fun bv wr => ∃ b : Nat, b ≤ m ∧ bv = .int .i64 (b : Int) ∧ Below w.heap.size w wr ∧ Hid (rgTo m (Wa.nrow m ls) f way b = false)) (fun bv _ => m - (intOf bv).toNat)
    case atStart => exact ⟨0, Nat.zero_le _, rfl, Below.refl _ _, H0⟩
    case round =>
      clear H0
      obtain ⟨b, hbm, rfl, hb, HT⟩ := hrel
      have hlw := hl.past hb
      have hrw := hr.past hb
      by_cases hlt : b < m
      · have hb1 : (0 : Int) ≤ (b : Int) := by omega
        have hb2 : (b : Int) < (m : Int) := by omega
        have HAb := Lib.hid (HA.out b hlt)
        cases hadj : Gr.adj ls (p : Int) (b : Int) with
        | false =>
          have HJ := Lib.hid hadj
          clear hadj
          go_wp2_with fail
          refine (RefL.Beside_any A n c ls (p : Int) (b : Int) false _ hlw HJ.out).mono ?_
          rintro e w1 ⟨rfl, rfl⟩
          go_wp2
          go_roundw
          case rel => exact ⟨b + 1, by omega, by go_num, hb, by show _ = _; rw [HS.out, HT.out, HAb.out, HJ.out]; rfl⟩
          case measure => simp [intOf]; omega
        | true =>
          have HJ := Lib.hid hadj
          clear hadj
          cases hhas : way.contains b with
          | true =>
            have HH := Lib.hid hhas
            clear hhas
            go_wp2_with fail
            refine (RefL.Beside_any A n c ls (p : Int) (b : Int) true _ hlw HJ.out).mono ?_
            rintro e w1 ⟨rfl, rfl⟩
            go_wp2_with fail
            refine (Has_any _ n2 c2 (upL way) (b : Int) true _ hrw (by rw [up_contains]; exact HH.out)).mono ?_
            rintro e w2 ⟨rfl, rfl⟩
            go_wp2
            go_roundw
            case rel => exact ⟨b + 1, by omega, by go_num, hb, by show _ = _; rw [HS.out, HT.out, HH.out]; simp⟩
            case measure => simp [intOf]; omega
          | false =>
            have HH := Lib.hid hhas
            clear hhas
            go_wp2_with fail
            refine (RefL.Beside_any A n c ls (p : Int) (b : Int) true _ hlw HJ.out).mono ?_
            rintro e w1 ⟨rfl, rfl⟩
            go_wp2_with fail
            refine (Has_any _ n2 c2 (upL way) (b : Int) false _ hrw (by rw [up_contains]; exact HH.out)).mono ?_
            rintro e w2 ⟨rfl, rfl⟩
            go_wp2_with fail
            refine (Behind_any _ n2 c2 (upL way) (b : Int) _ hrw (by omega)).mono ?_
            rintro e w3 ⟨v3, rfl, hown3, hb3⟩
            obtain ⟨A3, c3, rfl, hr3⟩ := hown3.rd
            rw [← upL_snoc, upL_len, List.length_append, HLEN.out, List.length_cons, List.length_nil, Nat.zero_add] at hr3
            rw [← upL_snoc, upL_len, List.length_append, HLEN.out, List.length_cons, List.length_nil, Nat.zero_add]
            have hb03 := hb.trans (hb3.mono hb.size)
            clear hown3
            go_wp2_with fail
            refine (IH.out (way ++ [b]) A3 (n2 + 1) c3 _ (hlw.past hb3) hr3 (by have := HNF.out; omega) (by omega) (by
              intro x hx
              rcases List.mem_append.1 hx with h | h
              · exact HMEM.out x h
              · obtain rfl : x = b := by simpa using h
                exact hlt)).mono ?_
            rintro e w4 ⟨rfl, hb4⟩
            have hb04 := hb03.trans (hb4.mono hb03.size)
            have HSb := Lib.hid (HS.out b)
            cases hrg : Wf.rg m (Wa.nrow m ls) f (way ++ [b]) with
            | true =>
              have hfin : Hid (Wf.rg m (Wa.nrow m ls) (f + 1) way = true) := HALL.out b hlt (by rw [HSb.out, HT.out, HAb.out, HJ.out, HH.out, hrg]; rfl)
              clear hrg
              go_wp2
              go_ret
              exact ⟨by rw [hfin.out]; rfl, hb04⟩
            | false =>
              have HG := Lib.hid hrg
              clear hrg
              go_wp2
              go_roundw
              case rel => exact ⟨b + 1, by omega, by go_num, hb04, by show _ = _; rw [HSb.out, HT.out, HG.out]; simp⟩
              case measure => simp [intOf]; omega
      · obtain rfl : b = m := by omega
        have hfin : Hid (Wf.rg b (Wa.nrow b ls) (f + 1) way = false) := by show _ = _; rw [← HNONE.out]; exact HT.out
        clear HT HNONE
        go_wp2
        go_ret
        exact ⟨by rw [hfin.out]; rfl, hb⟩

set_option maxRecDepth 100000 in
set_option maxHeartbeats 4000000 in
theorem Ring_any (m many : Nat) (hm8 : m ≤ 8) (hmany : many ≤ 8) (h1 : 1 ≤ many) (A : Option Addr) (n c : Nat) (ls : List Gr.Ln) (w : World) (hl : RdP w w.heap.size A n c ls) :
    Calls Tryd.prog 6 #[.int .i64 (m : Int), .slice A n c, .int .i64 (many : Int)] w fun e w' => e = .returned (.bool (Wf.ringOf m (Wa.nrow m ls) many)) ∧ Below w.heap.size w w' := by
  go_enter Tryd.func6, Tryd.ntmps6
  go_wp2
  go_loopw [7] (fun av wr => ∃ a : Nat, a ≤ m ∧ av = .int .i64 (a : Int) ∧ Below w.heap.size w wr ∧ Hid (((List.range a).any fun a => Wf.rg m (Wa.nrow m ls) (many - 1) [a]) = false)) (fun av _ => m - (intOf av).toNat)
  case atStart => exact ⟨0, Nat.zero_le _, rfl, Below.refl _ _, rfl⟩
  case round =>
    obtain ⟨a, ham, rfl, hb, HT⟩ := hrel
    by_cases hlt : a < m
    · have ha1 : (0 : Int) ≤ (a : Int) := by omega
      have ha2 : (a : Int) < (m : Int) := by omega
      obtain ⟨x1, hx1⟩ : ∃ x1, x1 = wr.alloc (.cells #[.int .i64 (a : Int)] 3) := ⟨_, rfl⟩
      have hbx : Below wr.heap.size wr x1 := by rw [hx1]; exact (Below.refl _ _).alloc (Nat.le_refl _) _
      have hrx : Rd x1 x1.heap.size (some ⟨wr.heap.size, 0, none⟩) 1 1 (upL [a]) := by rw [hx1]; exact (Rd.one wr (a : Int) _).more (by simp)
      have hlx := (hl.past hb).past hbx
      have hb01 := hb.trans (hbx.mono hb.size)
      go_wp2_with fail
      rw [← hx1]
      clear hx1
      refine (ring_any m many hm8 hmany A n c ls (many - 1) [a] _ 1 1 _ hlx hrx (by omega) (by omega) (by intro x hx; obtain rfl : x = a := (by simpa using hx); exact hlt)).mono ?_
      rintro e w1 ⟨rfl, hb1⟩
      have hb02 := hb01.trans (hb1.mono hb01.size)
      clear hbx hrx hlx hb01 hb1
      cases hrg : Wf.rg m (Wa.nrow m ls) (many - 1) [a] with
      | true =>
        have hfin : Hid (Wf.ringOf m (Wa.nrow m ls) many = true) := by
          show _ = _
          unfold Wf.ringOf
          rw [List.any_eq_true]
          exact ⟨a, by simpa using hlt, hrg⟩
        clear hrg
        go_wp2
        go_ret
        exact ⟨by rw [hfin.out]; rfl, hb02⟩
      | false =>
        have HG := Lib.hid hrg
        clear hrg
        go_wp2
        go_roundw
        case rel => exact ⟨a + 1, by omega, by go_num, hb02, by show _ = _; rw [List.range_succ, List.any_append, HT.out]; simp [HG.out]⟩
        case measure => simp [intOf]; omega
    · obtain rfl : a = m := by omega
      have hfin : Hid (Wf.ringOf a (Wa.nrow a ls) many = false) := HT
      clear HT
      go_wp2
      go_ret
      exact ⟨by rw [hfin.out]; rfl, hb⟩

end Go.Proofs.YtklanopgmlmjlaaDoor.RefW
