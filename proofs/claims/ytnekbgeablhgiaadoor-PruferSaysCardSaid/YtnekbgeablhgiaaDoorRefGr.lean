/-
  The contract of the reference's Grown: a row's tree, its lines in order. No statement of the program is proved here; there is no condition.
-/
import Derived.Test.YtnekbgeablhgiaaDoorPruferD
import Derived.Test.YtnekbgeablhgiaaDoorGraphE
import Derived.Test.YtnekbgeablhgiaaDoorRefL
import Derived.Test.YtnekbgeablhgiaaDoorPruferC
namespace Go.Proofs.YtnekbgeablhgiaaDoor.RefGr
open Go.RowKit

set_option linter.unusedSimpArgs false
set_option linter.unusedVariables false

/-- those that have gone behind k rounds -/
def goTo (n : Nat) (r : List Nat) (k : Nat) : List Nat := (List.range k).map (Pf.fr n r fun _ => false)
theorem goTo_len (n : Nat) (r : List Nat) (k : Nat) : (goTo n r k).length = k := by simp [goTo]
theorem goTo_succ (n : Nat) (r : List Nat) (k : Nat) : goTo n r (k + 1) = goTo n r k ++ [Pf.fr n r (fun _ => false) k] := by
  unfold goTo
  rw [List.range_succ, List.map_append]
  rfl
theorem gr_goTo (n : Nat) (r : List Nat) : ∀ k, Pf.gr n r (fun _ => false) k = Pf.gl (goTo n r k)
  | 0 => rfl
  | k + 1 => by
    show Pf.off (Pf.gr n r (fun _ => false) k) (Pf.free n (Pf.gr n r (fun _ => false) k) (r.drop k)) = _
    rw [goTo_succ, ← Pf.gl_off, ← gr_goTo n r k]
    rfl
/-- the lines that there are behind k rounds -/
def lnTo (n : Nat) (r : List Nat) (k : Nat) : List Gr.Ln := (List.range k).map fun i => (((Pf.fr n r (fun _ => false) i : Nat) : Int), ((r.getD i 0 : Nat) : Int))
theorem lnTo_len (n : Nat) (r : List Nat) (k : Nat) : (lnTo n r k).length = k := by simp [lnTo]
theorem lnTo_succ (n : Nat) (r : List Nat) (k : Nat) : lnTo n r (k + 1) = lnTo n r k ++ [(((Pf.fr n r (fun _ => false) k : Nat) : Int), ((r.getD k 0 : Nat) : Int))] := by
  unfold lnTo
  rw [List.range_succ, List.map_append]
  rfl
theorem lnTo_all (n : Nat) (r : List Nat) (a b : Nat) : lnTo n r r.length ++ [((a : Int), (b : Int))] = Pf.upP (Pf.zr n r (fun _ => false) ++ [(a, b)]) := by
  unfold lnTo Pf.upP Pf.zr
  rw [List.map_append, List.map_map]
  rfl
theorem upN_has (xs : List Nat) (v : Nat) : (upN xs).contains ((v : Nat) : Int) = xs.contains v := by
  rw [Bool.eq_iff_iff, List.contains_iff_mem, List.contains_iff_mem]
  unfold upN
  rw [List.mem_map]
  constructor
  · rintro ⟨x, hx, e⟩
    have : x = v := by omega
    rw [← this]; exact hx
  · intro h
    exact ⟨v, h, rfl⟩
/-- in round k: whoever is less than the one that goes has gone, or is written yet -/
theorem scan {r : List Nat} {k j : Nat} (hr : ∀ x ∈ r, x < r.length + 2) (hk : k < r.length) (hj : j ≤ Pf.fr (r.length + 2) r (fun _ => false) k) :
    (j = Pf.fr (r.length + 2) r (fun _ => false) k ∧ (goTo (r.length + 2) r k).contains j = false ∧ (r.drop k).contains j = false) ∨
    (j < Pf.fr (r.length + 2) r (fun _ => false) k ∧ ((goTo (r.length + 2) r k).contains j = true ∨ ((goTo (r.length + 2) r k).contains j = false ∧ (r.drop k).contains j = true))) := by
  obtain ⟨h1, h2⟩ := Pf.rd_ok hr
  obtain ⟨h3, h4⟩ := Pf.gr_ok h1 h2 k (by omega)
  obtain ⟨f1, f2, f3, f4⟩ := Pf.free_spec (n := r.length + 2) (g := Pf.gr (r.length + 2) r (fun _ => false) k) (row := r.drop k) (by rw [h3, List.length_drop]; omega)
  have hg : ∀ v, Pf.gr (r.length + 2) r (fun _ => false) k v = (goTo (r.length + 2) r k).contains v := fun v => by rw [gr_goTo]; rfl
  rcases Nat.lt_or_ge j (Pf.fr (r.length + 2) r (fun _ => false) k) with h | h
  · refine .inr ⟨h, ?_⟩
    cases hc : (goTo (r.length + 2) r k).contains j with
    | true => exact .inl rfl
    | false =>
      refine .inr ⟨rfl, ?_⟩
      have := f4 j h (by rw [hg]; exact hc)
      simpa using this
  · have e : j = Pf.fr (r.length + 2) r (fun _ => false) k := by omega
    refine .inl ⟨e, ?_, ?_⟩
    · rw [e, ← hg]
      exact f2
    · rw [e]
      have : Pf.fr (r.length + 2) r (fun _ => false) k ∉ r.drop k := f3
      simpa using this
theorem fr_lt {r : List Nat} {k : Nat} (hr : ∀ x ∈ r, x < r.length + 2) (hk : k < r.length) : Pf.fr (r.length + 2) r (fun _ => false) k < r.length + 2 := by
  obtain ⟨h1, h2⟩ := Pf.rd_ok hr
  exact (Pf.dr_step h1 h2 hk).1
/-- the two at the end -/
theorem two {r : List Nat} (hr : ∀ x ∈ r, x < r.length + 2) : ∃ a, a < r.length + 1 ∧ (goTo (r.length + 2) r r.length).contains a = false ∧ (∀ j, j < a → (goTo (r.length + 2) r r.length).contains j = true) ∧
    (goTo (r.length + 2) r r.length).contains (r.length + 1) = false ∧ (∀ j, a < j → j < r.length + 1 → (goTo (r.length + 2) r r.length).contains j = true) ∧
    Pf.dec (r.length + 2) r (fun _ => false) = Pf.zr (r.length + 2) r (fun _ => false) ++ [(a, r.length + 1)] := by
  obtain ⟨h1, h2⟩ := Pf.rd_ok hr
  have hg : ∀ v, Pf.gr (r.length + 2) r (fun _ => false) r.length v = (goTo (r.length + 2) r r.length).contains v := fun v => by rw [gr_goTo]; rfl
  obtain ⟨e1, e2, e3, e4⟩ := Pf.end_two h1 h2 (by omega) rfl
  have hal := (Pf.gr_ok h1 h2 r.length (Nat.le_refl _)).1
  obtain ⟨p1, p2, p3⟩ := Pf.fst2_spec (n := r.length + 2) (g := Pf.gr (r.length + 2) r (fun _ => false) r.length) (by omega)
  have hal2 := Pf.alive_off p1 p2
  obtain ⟨q1, q2, q3⟩ := Pf.fst2_spec (n := r.length + 2) (g := Pf.off (Pf.gr (r.length + 2) r (fun _ => false) r.length) (Pf.ea (r.length + 2) r fun _ => false)) (by unfold Pf.ea; omega)
  rw [e4] at q1 q2 q3
  obtain ⟨q4, q5⟩ := Pf.off_false.1 q2
  have q5' : r.length + 1 ≠ Pf.ea (r.length + 2) r (fun _ => false) := fun e => q5 (by omega)
  have p1' : Pf.ea (r.length + 2) r (fun _ => false) < r.length + 2 := p1
  have q4' : Pf.gr (r.length + 2) r (fun _ => false) r.length (r.length + 1) = false := q4
  refine ⟨Pf.ea (r.length + 2) r fun _ => false, by omega, by rw [← hg]; exact p2, fun j hj => by rw [← hg]; exact p3 j hj, by rw [← hg]; exact q4', fun j hj1 hj2 => ?_, ?_⟩
  · have := q3 j (by omega)
    rw [← hg]
    cases h : Pf.gr (r.length + 2) r (fun _ => false) r.length j with
    | true => rfl
    | false =>
      have h5 := Pf.off_false.2 (⟨h, by omega⟩ : Pf.gr (r.length + 2) r (fun _ => false) r.length j = false ∧ j ≠ Pf.ea (r.length + 2) r fun _ => false)
      rw [h5] at this
      cases this
  · rw [Pf.dec_zr, e4]
    rfl

set_option maxRecDepth 100000 in
set_option maxHeartbeats 8000000 in
theorem Grown_any (A : Option Addr) (n c : Nat) (row : List Int) (w : World) (hr : Rd w w.heap.size A n c row) (h6 : n ≤ 6) (hok : Pf.okr row) :
    Calls Tryd.prog 10 #[.slice A n c] w fun e w' => ∃ v, e = .returned v ∧ OwnP w' w.heap.size 41 v (Pf.rdL (Pf.nrow row)) ∧ Below w.heap.size w w' := by
  obtain ⟨r, hre⟩ : ∃ r, r = Pf.nrow row := ⟨_, rfl⟩
  have hrn : r.length = n := by rw [hre, Pf.nrow_len]; exact hr.len
  have hrl : ∀ x ∈ r, x < r.length + 2 := by rw [hre]; exact Pf.nrow_lt hok
  have HUP : Hid (row = upN r) := by
    show _ = _
    rw [hre]
    unfold upN Pf.nrow
    rw [List.map_map]
    refine ((List.map_congr_left fun x hx => ?_).trans (List.map_id _)).symm
    have := (hok x hx).1
    show ((x.toNat : Nat) : Int) = x
    omega
  have HAT : Hid (∀ k, k < n → row.getD k 0 = ((r.getD k 0 : Nat) : Int)) := by
    show ∀ k, _
    intro k hk
    rw [hre]
    exact Pf.nrow_at hok (by rw [hr.len]; exact hk)
  have HDR : Hid (∀ k v, (row.drop k).contains ((v : Nat) : Int) = (r.drop k).contains v) := by
    show ∀ k v, _
    intro k v
    rw [HUP.out, show (upN r).drop k = upN (r.drop k) by unfold upN; rw [List.map_drop]]
    exact upN_has _ _
  have HSC : Hid (∀ k j, k < n → j ≤ Pf.fr (n + 2) r (fun _ => false) k → (j = Pf.fr (n + 2) r (fun _ => false) k ∧ (goTo (n + 2) r k).contains j = false ∧ (r.drop k).contains j = false) ∨
      (j < Pf.fr (n + 2) r (fun _ => false) k ∧ ((goTo (n + 2) r k).contains j = true ∨ ((goTo (n + 2) r k).contains j = false ∧ (r.drop k).contains j = true)))) := by
    show ∀ k j, _
    intro k j hk hj
    have := scan (j := j) hrl (by rw [hrn]; exact hk) (by rw [hrn]; exact hj)
    rwa [hrn] at this
  have HFL : Hid (∀ k, k < n → Pf.fr (n + 2) r (fun _ => false) k < n + 2) := by
    show ∀ k, _
    intro k hk
    have := fr_lt hrl (show k < r.length by rw [hrn]; exact hk)
    rwa [hrn] at this
  have HTW := Lib.hid (two hrl)
  rw [hrn] at HTW
  have HRE := Lib.hid hre
  have HRN := Lib.hid hrn
  clear hre hrl hrn hok
  have hcn := hr.le
  have hcc := hr.cap
  have h0 : Own w w.heap.size 3 (.slice none 0 0) (upN (goTo (n + 2) r 0)) := Own.nil _ _ _
  have h0' : OwnP w w.heap.size 41 (.slice none 0 0) (lnTo (n + 2) r 0) := OwnP.nil _ _ _
  go_enter Tryd.func10, Tryd.ntmps10
  go_wp2
  go_loopw [4, 5, 6, 7] (fun gv lv kv _ wr => ∃ k : Nat, k ≤ n ∧ kv = .int .i64 (k : Int) ∧ Own wr w.heap.size 3 gv (upN (goTo (n + 2) r k)) ∧ OwnP wr w.heap.size 41 lv (lnTo (n + 2) r k) ∧ (∀ q, gv.ownBlock = some q → lv.ownBlock ≠ some q) ∧ Below w.heap.size w wr) (fun _ _ kv _ _ => n - (intOf kv).toNat)
  case atStart => exact ⟨0, Nat.zero_le _, rfl, h0, h0', (fun _ h => by cases h), Below.refl _ _⟩
  case round =>
    clear h0 h0'
    obtain ⟨k, hk, rfl, hg, hl, hsep, hB⟩ := hrel
    have hs := hB.size
    obtain ⟨A4, c4, rfl, hr4⟩ := hg.rd
    have hgl : (upN (goTo (n + 2) r k)).length = k := by unfold upN; rw [List.length_map, goTo_len]
    rw [hgl] at hr4 hg ⊢
    simp only [hgl] at hsep
    by_cases hlt : k < n
    · have k0 : (0 : Int) ≤ (k : Int) := by omega
      have k1 : (k : Int) < (n : Int) := by omega
      have hrw := hr.past hB
      obtain ⟨b1, o1, rfl, hb1, hc1⟩ := hrw.at_ (by omega)
      have hrd := hrw.drop_lit (k := k) (by omega) (by omega)
      have HRC : Hid (∀ V, Below w.heap.size w V → V.cell? ⟨b1, o1 + k, none⟩ = some (.int .i64 ((r.getD k 0 : Nat) : Int))) := by
        show ∀ V, _
        intro V hV
        obtain ⟨b7, o7, e7, hb7, hc7⟩ := hr.at_ (by omega)
        simp only [Option.some.injEq, Addr.mk.injEq, and_true] at e7
        obtain ⟨rfl, rfl⟩ := e7
        have := hc7 k hlt
        rw [HAT.out k hlt] at this
        exact (hV.cell (p := ⟨b1, o1 + k, none⟩) hb7).trans this
      have hck : ¬ c = k := by omega
      obtain ⟨F, hF⟩ : ∃ F, F = Pf.fr (n + 2) r (fun _ => false) k := ⟨_, rfl⟩
      have hFl : F < n + 2 := by rw [hF]; exact HFL.out k hlt
      have HS := Lib.hid (HSC.out k · hlt)
      rw [← hF] at HS
      have HF := Lib.hid hF
      have HG1 := Lib.hid (goTo_succ (n + 2) r k)
      have HL1 := Lib.hid (lnTo_succ (n + 2) r k)
      rw [← hF] at HG1 HL1
      clear hF
      go_wp2
      go_loop [7] (fun jv => ∃ j : Nat, j ≤ F ∧ jv = .int .i64 (j : Int)) (fun jv => F - (intOf jv).toNat)
      case atStart => exact ⟨0, Nat.zero_le _, rfl⟩
      case round =>
        obtain ⟨j, hj, rfl⟩ := hrel
        rcases HS.out j hj with ⟨he, t1, t2⟩ | ⟨hjF, (t1 | ⟨t1, t2⟩)⟩
        · rw [← upN_has] at t1
          rw [← HDR.out] at t2
          have T1 := Lib.hid t1
          have T2 := Lib.hid t2
          have hx := HAT.out k hlt
          have g1 := hc1 k hlt
          rw [hx] at g1
          obtain ⟨x, hxe⟩ : ∃ x, x = r.getD k 0 := ⟨_, rfl⟩
          rw [← hxe] at g1 HL1 HRC
          have hlr : (upN (goTo (n + 2) r k)).length + 1 ≤ 17592186044416 := by rw [hgl]; omega
          have hlp : (lnTo (n + 2) r k).length + 1 ≤ 8796093022208 := by rw [lnTo_len]; omega
          clear t1 t2 hx hxe hc1
          subst he
          go_wp2_with fail
          refine (Has_any A4 k c4 _ (j : Int) false _ hr4 T1.out).mono ?_
          rintro e x1 ⟨rfl, rfl⟩
          go_wp2_with fail
          refine (Has_any (some ⟨b1, o1 + k, none⟩) (n - k) (c - k) _ (j : Int) false _ hrd T2.out).mono ?_
          rintro e x1 ⟨rfl, rfl⟩
          go_wp2_with (first
            | (refine wpList_app _ rfl (.tmp 34) (.tmp 36) 23 rfl w.heap.size 3 Tryd.underlying23 intInfo (.slice A4 k c4) _ rfl (hg.below ((Below.refl _ wr).alloc (Nat.le_refl _) _)) (some ⟨wr.heap.size, 0, none⟩) 1 1 [(j : Int)] rfl (Rd.one wr _ _) hlr (by simp; omega) ?_; intro v5 w5 hg5 hgr5 hat5;
               have hB5 : Below w.heap.size w w5 := (hB.alloc hs _).grown hgr5 (by simp; omega) (fun q hq => hg.at_base q hq);
               have f1 := HRC.out w5 hB5;
               have hs5 := hB5.size;
               have hl5 := (((hl.below ((Below.refl _ wr).alloc (Nat.le_refl _) _)).grown hgr5 (fun q hq e => hsep q e hq)).below ((Below.refl _ w5).alloc (Nat.le_refl _) (.cells #[.int .i64 (j : Int), .int .i64 (x : Int)] 41))))
            | (refine wpList_appP _ rfl _ _ 22 rfl w.heap.size 41 Tryd.underlying22 lineInfo u5 (lnTo (n + 2) r k) rfl hl5 (some ⟨w5.heap.size, 0, none⟩) 1 1 [((j : Int), (x : Int))] rfl (RdP.one w5 ((j : Int), (x : Int)) _) hlp (by simp; omega) ?_; intro u6 w6 hl6 hgr6 hat6))
          have hB6 : Below w.heap.size w w6 := (hB5.alloc hs5 _).grown hgr6 (by simp; omega) (fun q hq => hl5.at_base q hq)
          have hk5 : ∀ q, u5.ownBlock = some q → q < w5.heap.size := fun q hq => by
            have h1 := hl.lt q hq
            have h2 := hgr5.size
            simp only [World.size_alloc] at h2
            omega
          have hv5 : ∀ q, v5.ownBlock = some q → (u5.ownBlock ≠ some q ∧ q < w5.heap.size) := fun q hq => by
            refine ⟨fun h => ?_, hg5.lt q hq⟩
            rcases hat5 with e | e
            · exact hsep q (by rw [← e]; exact hq) h
            · rw [e] at hq
              have h1 := hl.lt q h
              simp at hq
              omega
          have hg6 : Own w6 w.heap.size 3 v5 (upN (goTo (n + 2) r (k + 1))) := by
            rw [HG1.out, show upN (goTo (n + 2) r k ++ [j]) = upN (goTo (n + 2) r k) ++ [(j : Int)] by unfold upN; rw [List.map_append]; rfl]
            exact (hg5.below ((Below.refl _ w5).alloc (Nat.le_refl _) _)).grown hgr6 (fun q hq e => (hv5 q hq).1 e)
          have hl6' : OwnP w6 w.heap.size 41 u6 (lnTo (n + 2) r (k + 1)) := by rw [HL1.out]; exact hl6
          have hsep6 : ∀ q, v5.ownBlock = some q → u6.ownBlock ≠ some q := fun q hq h => by
            obtain ⟨h1, h2⟩ := hv5 q hq
            rcases hat6 with e | e
            · exact h1 (e.symm.trans h)
            · rw [e] at h
              simp at h
              omega
          clear hl hg hg5 hgr5 hat5 hl5 hl6 hgr6 hat6 hB5 hB hr4 hrw hrd g1 f1
          go_roundw
          case rel => exact ⟨k + 1, by omega, by go_num, hg6, hl6', hsep6, hB6⟩
          case measure => simp [intOf]; omega
        · rw [← upN_has] at t1
          have T1 := Lib.hid t1
          clear t1
          go_wp2_with fail
          refine (Has_any A4 k c4 _ (j : Int) true _ hr4 T1.out).mono ?_
          rintro e x1 ⟨rfl, rfl⟩
          go_wp2
          go_round
          case rel => exact ⟨j + 1, by omega, by go_num⟩
          case measure => simp [intOf]; omega
        · rw [← upN_has] at t1
          rw [← HDR.out] at t2
          have T1 := Lib.hid t1
          have T2 := Lib.hid t2
          clear t1 t2
          go_wp2_with fail
          refine (Has_any A4 k c4 _ (j : Int) false _ hr4 T1.out).mono ?_
          rintro e x1 ⟨rfl, rfl⟩
          go_wp2_with fail
          refine (Has_any (some ⟨b1, o1 + k, none⟩) (n - k) (c - k) _ (j : Int) true _ hrd T2.out).mono ?_
          rintro e x1 ⟨rfl, rfl⟩
          go_wp2
          go_round
          case rel => exact ⟨j + 1, by omega, by go_num⟩
          case measure => simp [intOf]; omega
    · obtain rfl : k = n := by omega
      obtain ⟨E, hE, t1, t2, t3, t4, t5⟩ := HTW.out
      rw [← upN_has] at t1
      have T1 := Lib.hid t1
      have T2 : Hid (∀ j, j < E → (upN (goTo (k + 2) r k)).contains ((j : Nat) : Int) = true) := by
        show ∀ j, _
        intro j hj
        rw [upN_has]
        exact t2 j hj
      obtain ⟨F2, hF2⟩ : ∃ F2, F2 = k + 1 := ⟨_, rfl⟩
      rw [← hF2] at t3 t4 t5 hE
      rw [← upN_has] at t3
      have T3 := Lib.hid t3
      have T4 : Hid (∀ j, E < j → j < F2 → (upN (goTo (k + 2) r k)).contains ((j : Nat) : Int) = true) := by
        show ∀ j, _
        intro j h1 h2
        rw [upN_has]
        exact t4 j h1 h2
      obtain ⟨D, hD⟩ : ∃ D, D = Pf.dec (k + 2) r (fun _ => false) := ⟨_, rfl⟩
      have HLD : Hid (lnTo (k + 2) r k ++ [((E : Int), (F2 : Int))] = Pf.upP D) := by
        show _ = _
        have := lnTo_all (k + 2) r E F2
        rw [HRN.out] at this
        rw [this, hD, t5]
      have HFIN : Hid (Cl.lst (k + 2) (fun a b => decide (a < b) && Pf.by_ D a b) = Pf.rdL (Pf.nrow row)) := by
        show _ = _
        rw [← HRE.out]
        unfold Pf.rdL Pf.lines
        rw [HRN.out, hD]
      have HF2 := Lib.hid hF2
      have hF2a : k + 1 ≤ F2 := by omega
      have hF2b : F2 ≤ k + 1 := by omega
      have hlp : (lnTo (k + 2) r k).length + 1 ≤ 8796093022208 := by rw [lnTo_len]; omega
      have hDl : (Pf.upP D).length = k + 1 := by rw [← HLD.out, List.length_append, lnTo_len]; rfl
      have HDL := Lib.hid hDl
      clear t1 t2 t3 t4 t5 hF2 hD hDl HTW
      go_wp2
      go_loop [8] (fun av => ∃ j : Nat, j ≤ E ∧ av = .int .i64 (j : Int)) (fun av => E - (intOf av).toNat)
      case atStart => exact ⟨0, Nat.zero_le _, rfl⟩
      case round =>
        obtain ⟨j, hj, rfl⟩ := hrel
        by_cases he : j < E
        · go_wp2_with fail
          refine (Has_any A4 k c4 _ (j : Int) true _ hr4 (T2.out j he)).mono ?_
          rintro e x1 ⟨rfl, rfl⟩
          go_wp2
          go_round
          case rel => exact ⟨j + 1, by omega, by go_num⟩
          case measure => simp [intOf]; omega
        · obtain rfl : j = E := by omega
          go_wp2_with fail
          refine (Has_any A4 k c4 _ (j : Int) false _ hr4 T1.out).mono ?_
          rintro e x1 ⟨rfl, rfl⟩
          go_wp2
          go_loop [9] (fun bv => ∃ q : Nat, j < q ∧ q ≤ F2 ∧ bv = .int .i64 (q : Int)) (fun bv => F2 - (intOf bv).toNat)
          case atStart => exact ⟨j + 1, by omega, by omega, by go_num⟩
          case round =>
            obtain ⟨q, hq1, hq2, rfl⟩ := hrel
            by_cases hqf : q < F2
            · go_wp2_with fail
              refine (Has_any A4 k c4 _ (q : Int) true _ hr4 (T4.out q hq1 hqf)).mono ?_
              rintro e x1 ⟨rfl, rfl⟩
              go_wp2
              go_round
              case rel => exact ⟨q + 1, by omega, by omega, by go_num⟩
              case measure => simp [intOf]; omega
            · obtain rfl : q = F2 := by omega
              have hl5 := hl.below ((Below.refl _ wr).alloc (Nat.le_refl _) (.cells #[.int .i64 (j : Int), .int .i64 (q : Int)] 41))
              go_wp2_with fail
              refine (Has_any A4 k c4 _ (q : Int) false _ hr4 T3.out).mono ?_
              rintro e x1 ⟨rfl, rfl⟩
              go_wp2_with (first
                | (refine wpList_appP _ rfl _ _ 22 rfl w.heap.size 41 Tryd.underlying22 lineInfo u5 (lnTo (k + 2) r k) rfl hl5 (some ⟨wr.heap.size, 0, none⟩) 1 1 [((j : Int), (q : Int))] rfl (RdP.one wr ((j : Int), (q : Int)) _) hlp (by simp; omega) ?_; intro u6 w6 hl6 hgr6 hat6))
              rw [HLD.out] at hl6
              have hB6 : Below w.heap.size w w6 := (hB.alloc hs _).grown hgr6 (by simp; omega) (fun q hq => hl5.at_base q hq)
              obtain ⟨A6, c6, rfl, hr6⟩ := hl6.rd
              rw [HDL.out] at hr6 ⊢
              have hs6 := hB6.size
              clear hl hg hl5 hl6 hgr6 hat6 hB hr4 hsep
              go_loopw [10, 11, 12] (fun ov iv _ wr => ∃ i : Nat, i ≤ k + 2 ∧ iv = .int .i64 (i : Int) ∧ OwnP wr w6.heap.size 41 ov (RefC.lstTo (k + 2) (fun a b => decide (a < b) && Pf.by_ D a b) i 0) ∧ Below w6.heap.size w6 wr) (fun _ iv _ _ => k + 2 - (intOf iv).toNat)
              case atStart => exact ⟨0, Nat.zero_le _, rfl, by rw [RefC.lstTo_zero]; exact OwnP.nil _ _ _, Below.refl _ _⟩
              case round =>
                obtain ⟨i, hi, rfl, ho, hbw⟩ := hrel
                by_cases hil : i < k + 2
                · have hil' : (i : Int) < (k : Int) + 2 := by omega
                  have ho1 : OwnP wr w6.heap.size 41 u10 (RefC.lstTo (k + 2) (fun a b => decide (a < b) && Pf.by_ D a b) i (i + 1)) := by rw [Pf.lst_skip (i + 1) (Nat.le_refl _)]; exact ho
                  clear ho
                  go_wp2
                  go_loopw [10, 12] (fun ov jv wr => ∃ t : Nat, i < t ∧ t ≤ k + 2 ∧ jv = .int .i64 (t : Int) ∧ OwnP wr w6.heap.size 41 ov (RefC.lstTo (k + 2) (fun a b => decide (a < b) && Pf.by_ D a b) i t) ∧ Below w6.heap.size w6 wr) (fun _ jv _ => k + 2 - (intOf jv).toNat)
                  case atStart => exact ⟨i + 1, by omega, by omega, by go_num, ho1, hbw⟩
                  case round =>
                    clear ho1 hbw
                    obtain ⟨t, ht1, ht2, rfl, ho, hbw⟩ := hrel
                    have hrw := hr6.past hbw
                    have hsw := hbw.size
                    by_cases htl : t < k + 2
                    · have htl' : (t : Int) < (k : Int) + 2 := by omega
                      have hadj := Pf.upP_adj D i t
                      have hlen := RefC.lstTo_len (n := k + 2) (r := fun a b => decide (a < b) && Pf.by_ D a b) (a := i) (b := t) (by omega) hil (by omega)
                      cases hb : Pf.by_ D i t with
                      | true =>
                        rw [hb] at hadj
                        have HA := Lib.hid hadj
                        have HN : Hid (RefC.lstTo (k + 2) (fun a b => decide (a < b) && Pf.by_ D a b) i (t + 1) = RefC.lstTo (k + 2) (fun a b => decide (a < b) && Pf.by_ D a b) i t ++ [((i : Int), (t : Int))]) := RefC.lstTo_hit (by rw [hb, decide_eq_true ht1]; rfl)
                        have ho2 := ho.below ((Below.refl _ wr).alloc (Nat.le_refl _) (.cells #[.int .i64 (i : Int), .int .i64 (t : Int)] 41))
                        have hroom : (RefC.lstTo (k + 2) (fun a b => decide (a < b) && Pf.by_ D a b) i t).length + 1 ≤ 8796093022208 := by omega
                        obtain ⟨XS, hXS⟩ : ∃ XS, XS = RefC.lstTo (k + 2) (fun a b => decide (a < b) && Pf.by_ D a b) i t := ⟨_, rfl⟩
                        rw [← hXS] at ho2 hroom HN
                        clear hb hadj hlen ho hXS
                        go_wp2_with fail
                        refine (RefL.Beside_any A6 (k + 1) c6 (Pf.upP D) (i : Int) (t : Int) true _ hrw HA.out).mono ?_
                        rintro e x1 ⟨rfl, rfl⟩
                        go_wp2_with (first
                          | (refine wpList_appP _ rfl _ _ 22 rfl w6.heap.size 41 Tryd.underlying22 lineInfo _ XS rfl ho2 (some ⟨wr.heap.size, 0, none⟩) 1 1 [((i : Int), (t : Int))] rfl (RdP.one wr ((i : Int), (t : Int)) _) hroom (by simp; omega) ?_; intro u7 w7 ho7 hgr7 hat7))
                        have hB7 : Below w6.heap.size w6 w7 := (hbw.alloc hsw _).grown hgr7 (by simp; omega) (fun q hq => ho2.at_base q hq)
                        go_roundw
                        case rel => exact ⟨t + 1, by omega, by omega, by go_num, by rw [HN.out]; exact ho7, hB7⟩
                        case measure => simp [intOf]; omega
                      | false =>
                        rw [hb] at hadj
                        have HA := Lib.hid hadj
                        have HN : Hid (RefC.lstTo (k + 2) (fun a b => decide (a < b) && Pf.by_ D a b) i (t + 1) = RefC.lstTo (k + 2) (fun a b => decide (a < b) && Pf.by_ D a b) i t) := RefC.lstTo_miss (by rw [hb, Bool.and_false])
                        clear hb hadj hlen
                        go_wp2_with fail
                        refine (RefL.Beside_any A6 (k + 1) c6 (Pf.upP D) (i : Int) (t : Int) false _ hrw HA.out).mono ?_
                        rintro e x1 ⟨rfl, rfl⟩
                        go_wp2
                        go_roundw
                        case rel => exact ⟨t + 1, by omega, by omega, by go_num, by rw [HN.out]; exact ho, hbw⟩
                        case measure => simp [intOf]; omega
                    · obtain rfl : t = k + 2 := by omega
                      rw [RefC.lstTo_row] at ho
                      have htl' : ¬ ((k : Int) + 2 < (k : Int) + 2) := by omega
                      go_wp2
                      go_roundw
                      case rel => exact ⟨i + 1, by omega, by go_num, ho, hbw⟩
                      case measure => simp [intOf]; omega
                · obtain rfl : i = k + 2 := by omega
                  rw [RefC.lstTo_end, HFIN.out] at ho
                  go_wp2
                  go_ret
                  exact ⟨_, rfl, ho.mono hs6, hB6.trans (hbw.mono hs6)⟩

end Go.Proofs.YtnekbgeablhgiaaDoor.RefGr
