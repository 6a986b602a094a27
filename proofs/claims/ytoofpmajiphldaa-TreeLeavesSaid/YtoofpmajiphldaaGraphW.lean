/-
  The contract of Without of package graph: the lines that are left without a point, or what is wrong.
-/
import Derived.Test.YtoofpmajiphldaaGraphO
import Derived.Deep.RegionHeld3
namespace Go.Proofs.Ytoofpmajiphldaa
open Go.RowKit

theorem grown_cell {w w' : World} {row : Option Nat} {p : Addr} (hg : w.grownBy w' row) (hb : p.block < w.heap.size) (hne : row = some p.block → False) : w'.cell? p = w.cell? p := by
  simp only [World.cell?, hg.block p.block hb (fun e => hne e.symm)]

/-- what is wrong with points, lines, and a point to be left out -/
def Gr.wcode (n : Int) (ls : List Gr.Ln) (i : Int) : Int := if Gr.code n ls ≠ 0 then Gr.code n ls else if n = 1 ∨ i < 0 ∨ n ≤ i then 1 else 0
theorem Gr.wcode_zero {n : Int} {ls : List Gr.Ln} {i : Int} : Gr.wcode n ls i = 0 ↔ Gr.code n ls = 0 ∧ n ≠ 1 ∧ 0 ≤ i ∧ i < n := by
  unfold Gr.wcode
  split
  · constructor
    · intro h; contradiction
    · intro h; exact absurd h.1 (by assumption)
  · split
    · constructor
      · intro h; omega
      · intro h; omega
    · constructor
      · intro _; exact ⟨by omega, by omega, by omega, by omega⟩
      · intro _; rfl

/-- what Without hands back -/
def WthPost (n : Int) (ls : List Gr.Ln) (i : Int) (w : World) (e : Ending) (w' : World) : Prop :=
  Below w.heap.size w w' ∧ ((Gr.wcode n ls i ≠ 0 ∧ e = .returned (.tuple #[.slice none 0 0, errv (Gr.wcode n ls i)])) ∨
    (Gr.wcode n ls i = 0 ∧ ∃ v, e = .returned (.tuple #[v, .nilIface]) ∧ OwnP w' w.heap.size 38 v (Gr.without i ls)))

set_option maxHeartbeats 2000000 in
theorem Without_err (n : Int) (A : Option Addr) (k c : Nat) (ls : List Gr.Ln) (i : Int) (w : World) (hr : RdP w w.heap.size A k c ls) (h : Gr.wcode n ls i ≠ 0) :
    Calls Try.prog 19 #[.int .i64 n, .slice A k c, .int .i64 i] w (WthPost n ls i w) := by
  by_cases hc : Gr.code n ls = 0
  · have hv : n = 1 ∨ i < 0 ∨ n ≤ i := by
      unfold Gr.wcode at h
      rw [if_neg (by simpa using hc)] at h
      by_cases hh : n = 1 ∨ i < 0 ∨ n ≤ i
      · exact hh
      · rw [if_neg hh] at h; exact absurd rfl h
    have hw : Hid (Gr.wcode n ls i = 1) := by
      show _ = _
      unfold Gr.wcode
      rw [if_neg (by simpa using hc), if_pos hv]
    have H := Lib.hid hc
    have HN := Lib.hid h
    clear hc h
    by_cases h1 : n = 1
    · subst h1
      clear hv
      go_enter Try.func19, Try.ntmps19
      go_wp2_with fail
      refine (GCheck_nil 1 A k c ls _ hr H.out).mono ?_
      rintro e w1 ⟨rfl, hb⟩
      go_wp2
      go_ret2
      exact ⟨hb, .inl ⟨HN.out, by rw [hw.out]; rfl⟩⟩
    · have hd : (n == 1) = false := by simpa using h1
      have hv' : i < 0 ∨ n ≤ i := by rcases hv with h | h; exact absurd h h1; exact h
      clear hv
      go_enter Try.func19, Try.ntmps19
      go_wp2_with fail
      refine (GCheck_nil n A k c ls _ hr H.out).mono ?_
      rintro e w1 ⟨rfl, hb⟩
      go_wp2_with fail
      refine (isVertex_no n i _ hv').mono ?_
      rintro e w2 ⟨rfl, rfl⟩
      go_wp2
      go_ret2
      exact ⟨hb, .inl ⟨HN.out, by rw [hw.out]; rfl⟩⟩
  · have hw : Hid (Gr.wcode n ls i = Gr.code n ls) := by
      show _ = _
      unfold Gr.wcode
      rw [if_pos hc]
    have H := Lib.hid hc
    have HN := Lib.hid h
    clear hc h
    go_enter Try.func19, Try.ntmps19
    go_wp2_with fail
    refine (GCheck_err n A k c ls _ hr H.out).mono ?_
    rintro e w1 ⟨rfl, hb⟩
    go_wp2
    go_ret2
    exact ⟨hb, .inl ⟨HN.out, by rw [hw.out]; rfl⟩⟩

set_option maxRecDepth 100000 in
set_option maxHeartbeats 4000000 in
theorem Without_ok (n : Int) (A : Option Addr) (k c : Nat) (ls : List Gr.Ln) (i : Int) (w : World) (hr : RdP w w.heap.size A k c ls) (h : Gr.wcode n ls i = 0) :
    Calls Try.prog 19 #[.int .i64 n, .slice A k c, .int .i64 i] w (WthPost n ls i w) := by
  obtain ⟨hc0, hn1, hi0, hin⟩ := Gr.wcode_zero.1 h
  obtain ⟨z1, z8, z24, hgood⟩ := Gr.code_zero.1 hc0
  have HX := Lib.hid hr.len
  rw [HX.out] at z24
  have hgood' : ∀ j, j < k → 0 ≤ (ls.getD j (0, 0)).1 ∧ (ls.getD j (0, 0)).1 < 8 ∧ 0 ≤ (ls.getD j (0, 0)).2 ∧ (ls.getD j (0, 0)).2 < 8 := by
    intro j hj
    have hjl : j < ls.length := by rw [HX.out]; exact hj
    have := hgood (ls.getD j (0, 0)) (by simp only [List.getD, hjl, List.getElem?_eq_getElem, Option.getD_some]; exact List.getElem_mem hjl)
    unfold Gr.Good at this
    omega
  clear hgood
  have HC := Lib.hid hc0
  have HG := Lib.hid hgood'
  have HW := Lib.hid h
  clear hc0 hgood' h
  have hd1 : (n == 1) = false := by simpa using hn1
  clear hn1
  go_enter Try.func19, Try.ntmps19
  go_wp2_with fail
  refine (GCheck_nil n A k c ls _ hr HC.out).mono ?_
  rintro e x0 ⟨rfl, hb⟩
  have hr0 := hr.past hb
  go_wp2_with fail
  refine (isVertex_yes n i _ hi0 hin).mono ?_
  rintro e w2 ⟨rfl, rfl⟩
  go_wp2
  have hbig := hr.big
  go_loopw [9, 11, 29] (fun v _ j wr => ∃ t : Nat, t ≤ k ∧ j = .int .i64 t ∧ OwnP wr w.heap.size 38 v (Gr.without i (ls.take t)) ∧ Below w.heap.size w wr) (fun _ _ j _ => k - (intOf j).toNat)
  case atStart => exact ⟨0, Nat.zero_le _, rfl, by simpa [Gr.without] using OwnP.nil _ _ _, hb⟩
  case round =>
    obtain ⟨t, ht, rfl, hown, hbel⟩ := hrel
    have hsz := hbel.size
    by_cases hlt : t < k
    · obtain ⟨b1, o1, rfl, hbb, hcc⟩ := hr.at_ (by omega)
      obtain ⟨x, y⟩ := hcc t hlt
      have g1 : wr.cell? ⟨b1, o1 + t * 2, none⟩ = some (.int .i64 (ls.getD t (0, 0)).1) := (hbel.cell (by exact hbb)).trans x
      have g2 : wr.cell? ⟨b1, o1 + t * 2 + 1, none⟩ = some (.int .i64 (ls.getD t (0, 0)).2) := (hbel.cell (by exact hbb)).trans y
      clear hcc x y
      have hgd := HG.out t hlt
      obtain ⟨⟨p, q⟩, hp⟩ : ∃ p, p = ls.getD t (0, 0) := ⟨_, rfl⟩
      rw [← hp] at g1 g2 hgd
      have HP := Lib.hid hp
      clear hp
      simp only at g1 g2 hgd
      obtain ⟨p0, p8, q0, q8⟩ := hgd
      have hb2 : Below w.heap.size w (wr.alloc (.cells #[.int .i64 p, .int .i64 q] 38)) := hbel.alloc hsz _
      have hown2 := hown.below ((Below.refl _ wr).alloc (Nat.le_refl _) (.cells #[.int .i64 p, .int .i64 q] 38))
      have htk : Hid (Gr.without i (ls.take (t + 1)) = if p = i ∨ q = i then Gr.without i (ls.take t) else Gr.without i (ls.take t) ++ [(Gr.dn i p, Gr.dn i q)]) := by
        show _ = _
        rw [Gr.without_take (by rw [HX.out]; exact hlt) (p, q) HP.out]
      by_cases hpi : p = i
      · have hd : (p != i) = false := by simpa using hpi
        have HI := Lib.hid hpi
        clear hpi
        go_wp2
        go_roundw
        case rel => exact ⟨t + 1, by omega, by go_num, by rw [htk.out, if_pos (.inl HI.out)]; exact hown2, hb2⟩
        case measure => simp [intOf]; omega
      · have hd : (p != i) = true := by simpa using hpi
        by_cases hqi : q = i
        · have hd2 : (q != i) = false := by simpa using hqi
          have HI := Lib.hid hqi
          clear hqi
          go_wp2
          go_roundw
          case rel => exact ⟨t + 1, by omega, by go_num, by rw [htk.out, if_pos (.inr HI.out)]; exact hown2, hb2⟩
          case measure => simp [intOf]; omega
        · have hd2 : (q != i) = true := by simpa using hqi
          have hlen : Hid ((Gr.without i (ls.take t)).length ≤ 24) := by
            show _ ≤ _
            have h1 := Gr.without_len i (ls.take t)
            rw [List.length_take] at h1
            omega
          go_wp2
          obtain ⟨x1, hx1⟩ : ∃ x1, x1 = wr.alloc (.cells #[.int .i64 p, .int .i64 q] 38) := ⟨_, rfl⟩
          have c0 : x1.cell? ⟨wr.heap.size, 0, none⟩ = some (.int .i64 p) := by rw [hx1]; simp
          have c1 : x1.cell? ⟨wr.heap.size, 1, none⟩ = some (.int .i64 q) := by rw [hx1]; simp
          have hxs : wr.heap.size < x1.heap.size := by rw [hx1]; simp
          rw [← hx1] at hb2 hown2 ⊢
          clear hx1
          obtain ⟨bx, hbx⟩ : ∃ bx, bx = wr.heap.size := ⟨_, rfl⟩
          have hlt9 := hown.lt
          rw [← hbx] at c0 c1 hxs hlt9 ⊢
          clear hbx
          have c0' : (x1.drew.alloc (.cells #[.int .i64 (Gr.dn i p), .int .i64 (Gr.dn i q)] 38)).cell? ⟨bx, 0, none⟩ = some (.int .i64 p) := ((Below.refl _ x1.drew).alloc (Nat.le_refl _) _).cell (p := ⟨bx, 0, none⟩) hxs |>.trans c0
          have c1' : (x1.drew.alloc (.cells #[.int .i64 (Gr.dn i p), .int .i64 (Gr.dn i q)] 38)).cell? ⟨bx, 1, none⟩ = some (.int .i64 q) := ((Below.refl _ x1.drew).alloc (Nat.le_refl _) _).cell (p := ⟨bx, 1, none⟩) hxs |>.trans c1
          have hownd : OwnP x1.drew w.heap.size 38 _ (Gr.without i (ls.take t)) := hown2
          have hown4 := hownd.below ((Below.refl _ x1.drew).alloc (Nat.le_refl _) (.cells #[.int .i64 (Gr.dn i p), .int .i64 (Gr.dn i q)] 38))
          have hrd4 : RdP (x1.drew.alloc (.cells #[.int .i64 (Gr.dn i p), .int .i64 (Gr.dn i q)] 38)) (x1.heap.size + 1) (some ⟨x1.heap.size, 0, none⟩) 1 1 [(Gr.dn i p, Gr.dn i q)] := RdP.one x1.drew _ _
          have hroom : (Gr.without i (ls.take t)).length + 1 ≤ 8796093022208 := by have := hlen.out; omega
          have hbase : w.heap.size ≤ (x1.drew.alloc (.cells #[.int .i64 (Gr.dn i p), .int .i64 (Gr.dn i q)] 38)).heap.size := by have := hb2.size; simp; omega
          have hnb : ∀ w3 : World, (x1.drew.alloc (.cells #[.int .i64 (Gr.dn i p), .int .i64 (Gr.dn i q)] 38)).grownBy w3 u9.ownBlock → w3.cell? ⟨bx, 0, none⟩ = some (.int .i64 p) ∧ w3.cell? ⟨bx, 1, none⟩ = some (.int .i64 q) := fun w3 hg => ⟨(grown_cell hg (by simp; omega) (fun e => by have := hlt9 bx e; omega)).trans c0', (grown_cell hg (by simp; omega) (fun e => by have := hlt9 bx e; omega)).trans c1'⟩
          have hown9 := Lib.hid hown4
          have hnb9 := Lib.hid hnb
          clear hown4 hownd hnb
          go_region_held3 (fun w' : World => w'.cell? ⟨bx, 0, none⟩ = some (.int .i64 p) ∧ w'.cell? ⟨bx, 1, none⟩ = some (.int .i64 q)) (first | exact ⟨c0, c1⟩ | assumption | exact ⟨c0', c1'⟩ | go_keep)
            (first
              | (go_at_call 39; refine (closedUp_any _ _ _ (by omega) (by omega)).mono ?_; rintro e w5 ⟨rfl, rfl⟩)
              | (refine step_appP _ rfl (.tmp 43) (.tmp 53) 22 rfl w.heap.size 38 Try.underlying22 lineInfo _ (Gr.without i (ls.take t)) rfl hown9.out (some ⟨x1.heap.size, 0, none⟩) 1 1 [(Gr.dn i p, Gr.dn i q)] rfl hrd4 hroom hbase ?_; intro v3 w3 hown3 hg3 hat3; have hk3 := hnb9.out w3 hg3))
          have hb4 : Below w.heap.size w w3 := below_appP ((hb2.drew).alloc (by exact hb2.size) _) hown9.out hg3 hbase
          go_wp2
          go_roundw
          case rel => exact ⟨t + 1, by omega, by go_num, by rw [htk.out, if_neg (by omega)]; exact hown3, hb4⟩
          case measure => simp [intOf]; omega
    · obtain rfl : t = k := by omega
      have hfin : Hid (Gr.without i (ls.take t) = Gr.without i ls) := by show _ = _; rw [List.take_of_length_le (by rw [HX.out]; exact Nat.le_refl _)]
      go_wp2
      go_ret2
      exact ⟨hbel, .inr ⟨HW.out, _, rfl, by rw [← hfin.out]; exact hown⟩⟩

theorem Without_any (n : Int) (A : Option Addr) (k c : Nat) (ls : List Gr.Ln) (i : Int) (w : World) (hr : RdP w w.heap.size A k c ls) :
    Calls Try.prog 19 #[.int .i64 n, .slice A k c, .int .i64 i] w (WthPost n ls i w) := by
  by_cases h : Gr.wcode n ls i = 0
  · exact Without_ok n A k c ls i w hr h
  · exact Without_err n A k c ls i w hr h

end Go.Proofs.Ytoofpmajiphldaa
