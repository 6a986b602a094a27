/-
  The contract of the reference's Far: how far all points are from each one, by all three points.
-/
import Derived.Test.YtojkjdccjomaaaaDoorRefL
import Derived.Test.YtojkjdccjomaaaaDoorLibM
import Derived.Test.YtojkjdccjomaaaaDoorWalkM
import Derived.BigRegion
namespace Go.Proofs.YtojkjdccjomaaaaDoor.RefF
open Go.RowKit
set_option linter.unusedSimpArgs false
set_option linter.unusedVariables false

/-- may one step from i to j, and over which points not -/
def steps (ls : List Gr.Ln) (either : Bool) (over : Int) (i j : Nat) : Bool := !decide ((i : Int) = over) && (!decide ((j : Int) = over) && (Gr.has ls (i : Int) (j : Int) || (either && Gr.has ls (j : Int) (i : Int))))
/-- what it starts with -/
def start (ls : List Gr.Ln) (either : Bool) (over : Int) (i j : Nat) : Int := if i = j then 0 else if steps ls either over i j = true then 1 else -1
theorem start_base (ls : List Gr.Ln) (either : Bool) (over : Int) : Wf.Base (start ls either over) := by
  refine ⟨fun i => by simp [start], fun i j => ?_, fun i j => ?_⟩
  · unfold start; split
    · omega
    · split <;> omega
  · unfold start; split
    · omega
    · split <;> omega

/-- while a row is filled -/
def FarL (w : World) (v : Value) (m : Nat) (G : Nat → Nat) (a : Nat) (D : Nat → Nat → Int) (g : Nat) (zs : List Int) (wx : World) : Prop :=
  Own wx w.heap.size 3 (.slice (some ⟨g, 0, none⟩) m m) zs ∧ OwnM wx w.heap.size v m G a D ∧ (∀ i, i < a → G i ≠ g) ∧ Below w.heap.size w wx
theorem FarL.put {w : World} {v : Value} {m : Nat} {G : Nat → Nat} {a : Nat} {D : Nat → Nat → Int} {g : Nat} {zs : List Int} {wx : World} (h : FarL w v m G a D g zs wx) (j : Nat) (x : Int) :
    FarL w v m G a D g (zs.set j x) (wx.setCell ⟨g, j, none⟩ (.int .i64 x)) := by
  obtain ⟨h1, h2, h3, h4⟩ := h
  obtain ⟨s1, s2⟩ := h1.store j x
  exact ⟨s1, h2.grown h1 h3 s2, h3, h4.setCell (p := ⟨g, j, none⟩) h1.base_le _⟩
theorem FarL.ends {w : World} {v : Value} {m : Nat} {G : Nat → Nat} {a : Nat} {D : Nat → Nat → Int} {g : Nat} {zs zs' : List Int} {wx : World} (h : FarL w v m G a D g zs wx) (he : zs = zs') : FarL w v m G a D g zs' wx := he ▸ h

/-- in the midst of a round: those ahead of (a, b) are done -/
def mid (D : Nat → Nat → Int) (k a b i j : Nat) : Int := if i < a ∨ (i = a ∧ j < b) then Wf.dk D (k + 1) i j else Wf.dk D k i j
theorem mid_x {D : Nat → Nat → Int} (h : Wf.Base D) (k a b i : Nat) : mid D k a b i k = Wf.dk D k i k := by
  unfold mid; split
  · exact Wf.dk_col h k i
  · rfl
theorem mid_y {D : Nat → Nat → Int} (h : Wf.Base D) (k a b j : Nat) : mid D k a b k j = Wf.dk D k k j := by
  unfold mid; split
  · exact Wf.dk_row h k j
  · rfl
theorem mid_z (D : Nat → Nat → Int) (k a b : Nat) : mid D k a b a b = Wf.dk D k a b := by
  unfold mid; rw [if_neg (by omega)]
theorem mid_new (D : Nat → Nat → Int) (k a b : Nat) : mid D k a (b + 1) a b = Wf.rl (Wf.dk D k a k) (Wf.dk D k k b) (Wf.dk D k a b) := by
  unfold mid; rw [if_pos (by omega)]; rfl
theorem mid_old (D : Nat → Nat → Int) (k a b i j : Nat) (h : ¬ (i = a ∧ j = b)) : mid D k a (b + 1) i j = mid D k a b i j := by
  unfold mid
  by_cases h1 : i < a ∨ (i = a ∧ j < b)
  · rw [if_pos h1, if_pos (by omega)]
  · rw [if_neg h1, if_neg (by omega)]
theorem mid_row (D : Nat → Nat → Int) (k a m i j : Nat) (hj : j < m) : mid D k a m i j = mid D k (a + 1) 0 i j := by
  unfold mid
  by_cases h1 : i < a + 1
  · rw [if_pos (by omega), if_pos (by omega)]
  · rw [if_neg (by omega), if_neg (by omega)]
theorem mid_done (D : Nat → Nat → Int) (k m i j : Nat) (hi : i < m) : mid D k m 0 i j = Wf.dk D (k + 1) i j := by
  unfold mid; rw [if_pos (by omega)]
theorem mid_zero (D : Nat → Nat → Int) (k i j : Nat) : Wf.dk D k i j = mid D k 0 0 i j := by
  unfold mid; rw [if_neg (by omega)]

set_option maxRecDepth 100000 in
set_option maxHeartbeats 8000000 in
theorem Far_any (m : Nat) (A : Option Addr) (n c : Nat) (ls : List Gr.Ln) (either : Bool) (over : Int) (w : World) (hr : RdP w w.heap.size A n c ls) (hm1 : 1 ≤ m) (hm8 : m ≤ 8) :
    Calls Tryd.prog 14 #[.int .i64 (m : Int), .slice A n c, .bool either, .int .i64 over] w fun e w' => ∃ gb cb, e = .returned (.slice (some ⟨gb, 0, none⟩) m cb) ∧
      RdR w' w'.heap.size (some ⟨gb, 0, none⟩) m cb (matF m m (Wf.dk (start ls either over) m)) ∧ Below w.heap.size w w' := by
  obtain ⟨i0, hi, hz0, hz1, hz2⟩ := info_parts intInfo
  have HI : Hid (Tryd.prog.info? 3 = some i0 ∧ i0.zero = some (.int .i64 0) ∧ i0.size = 1 ∧ i0.bytes = 8) := ⟨hi, hz0, hz1, hz2⟩
  clear hi hz0 hz1 hz2
  obtain ⟨D, hD⟩ : ∃ D, D = start ls either over := ⟨_, rfl⟩
  rw [← hD]
  have HD := Lib.hid hD
  have HB : Hid (Wf.Base D) := by show _; rw [hD]; exact start_base _ _ _
  clear hD
  go_enter Tryd.func14, Tryd.ntmps14
  go_wp2
  go_loopw [9, 10] (fun ov av wr => ∃ (a : Nat) (G : Nat → Nat), a ≤ m ∧ av = .int .i64 (a : Int) ∧ OwnM wr w.heap.size ov m G a D ∧ Below w.heap.size w wr) (fun _ av _ => m - (intOf av).toNat)
  case atStart => exact ⟨0, fun _ => 0, Nat.zero_le _, rfl, OwnM.nil _ _ _ _ _, Below.refl _ _⟩
  case round =>
    obtain ⟨a, G, ham, rfl, hM, hb⟩ := hrel
    obtain ⟨W, hW⟩ : ∃ W, W = wr := ⟨_, rfl⟩
    subst hW
    have hsz := hb.size
    by_cases hlt : a < m
    · have ha1 : (0 : Int) ≤ (a : Int) := by omega
      have ha2 : (a : Int) < (m : Int) := by omega
      go_wp2_with (at_make; refine wpList_make_full _ rfl (.tmp 21) (.tmp 21) 25 rfl w.heap.size 3 i0 (.int .i64 0) 1 Tryd.underlying25 HI.out.1 HI.out.2.1 HI.out.2.2.1 .i64 .i64 _ _ m rfl rfl (by omega) (by omega) (by rw [HI.out.2.2.2]; omega) (by simp only [maxLen]; omega) hsz ?_; intro w2 hown2 hg2; have hown := Own.made hown2; clear hown2)
      have hb2 : Below W.heap.size W w2 := (Below.refl _ _).grown hg2 (Nat.le_refl _) (fun _ h => by cases h)
      have hL0 : FarL w _ m G a D W.heap.size (fillTo (rowF m D a) 0) w2 := ⟨by rw [fillTo_zero, rowF_len]; exact hown, hM.below hb2, fun i hi => Nat.ne_of_lt (hM.lt i hi), hb.trans (hb2.mono hsz)⟩
      have HL0 := Lib.hid hL0
      clear hown hg2 hb2 hM hb hL0
      obtain ⟨g, hg⟩ : ∃ g, g = W.heap.size := ⟨_, rfl⟩
      rw [← hg] at HL0 ⊢
      clear hg
      go_loopw [12] (fun bv wx => ∃ b : Nat, b ≤ m ∧ bv = .int .i64 (b : Int) ∧ FarL w _ m G a D g (fillTo (rowF m D a) b) wx) (fun bv _ => m - (intOf bv).toNat)
      case atStart => exact ⟨0, Nat.zero_le _, rfl, HL0.out⟩
      case round =>
        clear HL0
        obtain ⟨b, hbm, rfl, hL⟩ := hrel
        obtain ⟨wx, hwx⟩ : ∃ wx, wx = wr := ⟨_, rfl⟩
        subst hwx
        by_cases hlb : b < m
        · have hb1 : (0 : Int) ≤ (b : Int) := by omega
          have hb2 : (b : Int) < (m : Int) := by omega
          have g2 := hL.1.cell b hlb
          have g3 := hL.1.frozen b
          have hL1 := hL.put b (-1)
          have g4 := hL1.1.cell b hlb
          have g5 := hL1.1.frozen b
          have hr1 := hr.past hL1.2.2.2
          have HF : Hid (∀ x, x = D a b → (fillTo (rowF m D a) b).set b x = fillTo (rowF m D a) (b + 1)) := by
            intro x hx
            rw [hx, ← fillTo_succ (by rw [rowF_len]; exact hlb), rowF_at D a hlb]
          have HL1 := Lib.hid hL1
          clear hL hL1
          by_cases hab : a = b
          · have d1 : ((a : Int) == (b : Int)) = true := by simp [hab]
            have HAB := Lib.hid hab
            clear hab hr1
            go_wp2
            go_roundw
            case rel => exact ⟨b + 1, by omega, by go_num, (HL1.out.put b 0).ends (by rw [List.set_set]; exact HF.out _ (by rw [HD.out]; unfold start steps; rw [if_pos HAB.out]))⟩
            case measure => simp [intOf]; omega
          · have d1 : ((a : Int) == (b : Int)) = false := by simpa using fun h => hab (by omega)
            have HAB := Lib.hid hab
            clear hab
            by_cases hao : (a : Int) = over
            · have d2 : ((a : Int) != over) = false := by simp [hao]
              have HAO := Lib.hid hao
              clear hao hr1
              go_wp2
              go_roundw
              case rel => exact ⟨b + 1, by omega, by go_num, HL1.out.ends (HF.out _ (by rw [HD.out]; unfold start steps; rw [if_neg HAB.out]; simp [HAO.out]))⟩
              case measure => simp [intOf]; omega
            · have d2 : ((a : Int) != over) = true := by simpa using hao
              have HAO := Lib.hid hao
              clear hao
              by_cases hbo : (b : Int) = over
              · have d3 : ((b : Int) != over) = false := by simp [hbo]
                have HBO := Lib.hid hbo
                clear hbo hr1
                go_wp2
                go_roundw
                case rel => exact ⟨b + 1, by omega, by go_num, HL1.out.ends (HF.out _ (by rw [HD.out]; unfold start steps; rw [if_neg HAB.out]; simp [HBO.out]))⟩
                case measure => simp [intOf]; omega
              · have d3 : ((b : Int) != over) = true := by simpa using hbo
                have HBO := Lib.hid hbo
                clear hbo
                cases h1 : Gr.has ls (a : Int) (b : Int) with
                | true =>
                  have H1 := Lib.hid h1
                  clear h1
                  go_wp2_with (go_at_call 25; refine (RefL.Goes_any A n c ls (a : Int) (b : Int) true _ hr1 H1.out).mono ?_; rintro e y1 ⟨rfl, rfl⟩)
                  go_roundw
                  case rel => exact ⟨b + 1, by omega, by go_num, (HL1.out.put b 1).ends (by rw [List.set_set]; exact HF.out _ (by rw [HD.out]; unfold start steps; rw [if_neg HAB.out]; simp [HAO.out, HBO.out, H1.out]))⟩
                  case measure => simp [intOf]; omega
                | false =>
                  have H1 := Lib.hid h1
                  clear h1
                  cases either with
                  | false =>
                    go_wp2_with (go_at_call 25; refine (RefL.Goes_any A n c ls (a : Int) (b : Int) false _ hr1 H1.out).mono ?_; rintro e y1 ⟨rfl, rfl⟩)
                    go_roundw
                    case rel => exact ⟨b + 1, by omega, by go_num, HL1.out.ends (HF.out _ (by rw [HD.out]; unfold start steps; rw [if_neg HAB.out]; simp [HAO.out, HBO.out, H1.out]))⟩
                    case measure => simp [intOf]; omega
                  | true =>
                    cases h2 : Gr.has ls (b : Int) (a : Int) with
                    | true =>
                      have H2 := Lib.hid h2
                      clear h2
                      go_wp2_with fail
                      refine (RefL.Goes_any A n c ls (a : Int) (b : Int) false _ hr1 H1.out).mono ?_
                      rintro e y1 ⟨rfl, rfl⟩
                      go_wp2_with fail
                      refine (RefL.Goes_any A n c ls (b : Int) (a : Int) true _ hr1 H2.out).mono ?_
                      rintro e y2 ⟨rfl, rfl⟩
                      go_wp2
                      go_roundw
                      case rel => exact ⟨b + 1, by omega, by go_num, (HL1.out.put b 1).ends (by rw [List.set_set]; exact HF.out _ (by rw [HD.out]; unfold start steps; rw [if_neg HAB.out]; simp [HAO.out, HBO.out, H1.out, H2.out]))⟩
                      case measure => simp [intOf]; omega
                    | false =>
                      have H2 := Lib.hid h2
                      clear h2
                      go_wp2_with fail
                      refine (RefL.Goes_any A n c ls (a : Int) (b : Int) false _ hr1 H1.out).mono ?_
                      rintro e y1 ⟨rfl, rfl⟩
                      go_wp2_with fail
                      refine (RefL.Goes_any A n c ls (b : Int) (a : Int) false _ hr1 H2.out).mono ?_
                      rintro e y2 ⟨rfl, rfl⟩
                      go_wp2
                      go_roundw
                      case rel => exact ⟨b + 1, by omega, by go_num, HL1.out.ends (HF.out _ (by rw [HD.out]; unfold start steps; rw [if_neg HAB.out]; simp [HAO.out, HBO.out, H1.out, H2.out]))⟩
                      case measure => simp [intOf]; omega
        · obtain rfl : b = m := by omega
          have hfa : fillTo (rowF b D a) b = rowF b D a := by have := fillTo_all (rowF b D a); rwa [rowF_len] at this
          rw [hfa] at hL
          obtain ⟨l1, l2, l3, l4⟩ := hL
          have hba := (Below.refl wx.heap.size wx).alloc (Nat.le_refl _) (.cells #[.slice (some ⟨g, 0, none⟩) b b] 25)
          have l1' := l1.below hba
          have l2' := l2.below hba
          have hcell : (wx.alloc (.cells #[.slice (some ⟨g, 0, none⟩) b b] 25)).cell? ⟨wx.heap.size, 0, none⟩ = some (.slice (some ⟨g, 0, none⟩) b b) := by simp
          have hs3 : w.heap.size ≤ (wx.alloc (.cells #[.slice (some ⟨g, 0, none⟩) b b] 25)).heap.size := Nat.le_trans l4.size hba.size
          have L2 := Lib.hid l2'
          have L3 := Lib.hid l3
          have hroom : a + 1 ≤ 1000000 := by omega
          clear hfa l2 l3 l2' l1
          go_wp2_with (at_builtin; refine wpList_appV _ rfl (.tmp 63) (.tmp 65) 38 rfl w.heap.size 25 Tryd.underlying38 rowInfo _ a (mrow G b a) rfl L2.out.1 wx.heap.size _ rfl hcell rfl hroom hs3 ?_; intro v5 w5 hr5 hg5; have hM5 := Lib.hid (L2.out.app l1' L3.out hr5 hg5); have hb5 := Lib.hid ((l4.alloc l4.size _).grown hg5 hs3 (fun k hk => (World.ownsRow.lt L2.out.1 k hk).1)); clear hr5 hg5)
          go_roundw
          case rel => exact ⟨a + 1, _, by omega, by go_num, hM5.out, hb5.out⟩
          case measure => simp [intOf]; omega
    · have hma : m = a := by omega
      subst hma
      obtain ⟨gb, cb, rfl, hcb1, hcb2, _⟩ := hM.slice (by omega)
      have HM := Lib.hid hM
      clear hM
      go_wp2
      go_loopw [13] (fun kv wx => ∃ k : Nat, k ≤ m ∧ kv = .int .i64 (k : Int) ∧ OwnM wx w.heap.size (.slice (some ⟨gb, 0, none⟩) m cb) m G m (Wf.dk D k) ∧ Below w.heap.size w wx) (fun kv _ => m - (intOf kv).toNat)
      case atStart => exact ⟨0, Nat.zero_le _, rfl, HM.out.congr (fun i j _ _ => rfl), hb⟩
      case round =>
        clear HM hb hsz
        obtain ⟨k, hkm, rfl, hM, hb⟩ := hrel
        by_cases hlk : k < m
        · have hk1 : (0 : Int) ≤ (k : Int) := by omega
          have hk2 : (k : Int) < (m : Int) := by omega
          have HM := Lib.hid hM
          clear hM
          go_wp2
          go_loopw [14] (fun av wx => ∃ a : Nat, a ≤ m ∧ av = .int .i64 (a : Int) ∧ OwnM wx w.heap.size (.slice (some ⟨gb, 0, none⟩) m cb) m G m (mid D k a 0) ∧ Below w.heap.size w wx) (fun av _ => m - (intOf av).toNat)
          case atStart => exact ⟨0, Nat.zero_le _, rfl, HM.out.congr (fun i j _ _ => mid_zero D k i j), hb⟩
          case round =>
            clear HM hb
            obtain ⟨a, ham, rfl, hM, hb⟩ := hrel
            by_cases hla : a < m
            · have ha1 : (0 : Int) ≤ (a : Int) := by omega
              have ha2 : (a : Int) < (m : Int) := by omega
              have HM := Lib.hid hM
              clear hM
              go_wp2
              go_loopw [15] (fun bv wx => ∃ b : Nat, b ≤ m ∧ bv = .int .i64 (b : Int) ∧ OwnM wx w.heap.size (.slice (some ⟨gb, 0, none⟩) m cb) m G m (mid D k a b) ∧ Below w.heap.size w wx) (fun bv _ => m - (intOf bv).toNat)
              case atStart => exact ⟨0, Nat.zero_le _, rfl, HM.out, hb⟩
              case round =>
                clear HM hb
                obtain ⟨b, hbm, rfl, hM, hb⟩ := hrel
                by_cases hlb : b < m
                · have hb1 : (0 : Int) ≤ (b : Int) := by omega
                  have hb2 : (b : Int) < (m : Int) := by omega
                  have c1 := hM.rowcell hla
                  have c2 := hM.rowcell hlk
                  have x1 := hM.cell hla hlk
                  have y1 := hM.cell hlk hlb
                  have z1 := hM.cell hla hlb
                  have f1 := hM.frozen b hla
                  rw [mid_x HB.out] at x1
                  rw [mid_y HB.out] at y1
                  rw [mid_z] at z1
                  have hp : 2 ^ k ≤ 256 := by
                    have := Nat.pow_le_pow_right (n := 2) (by omega) (show k ≤ 8 by omega)
                    simpa using this
                  have u1 := Wf.dk_high HB.out k a k
                  have u2 := Wf.dk_high HB.out k k b
                  have u3 := Wf.dk_high HB.out k a b
                  have l1 := Wf.dk_low HB.out k a k
                  have l2 := Wf.dk_low HB.out k k b
                  have l3 := Wf.dk_low HB.out k a b
                  have HNEW := Lib.hid (mid_new D k a b)
                  have HOLD := Lib.hid (mid_z D k a b)
                  have HPUT : Hid (∀ x n, mid D k a (b + 1) a b = x → OwnM ((wr.drewN n).setCell ⟨G a, b, none⟩ (.int .i64 x)) w.heap.size (.slice (some ⟨gb, 0, none⟩) m cb) m G m (mid D k a (b + 1)) ∧ Below w.heap.size w ((wr.drewN n).setCell ⟨G a, b, none⟩ (.int .i64 x))) := fun x n hx =>
                    ⟨(hM.drewN n).put hla hlb hx (fun i j _ _ h => mid_old D k a b i j h), OwnM.below_put (hb.trans (Below.drewN' _ _ _)) (hM.drewN n) hla b _⟩
                  have HKEEP : Hid (∀ n, mid D k a (b + 1) a b = mid D k a b a b → OwnM (wr.drewN n) w.heap.size (.slice (some ⟨gb, 0, none⟩) m cb) m G m (mid D k a (b + 1)) ∧ Below w.heap.size w (wr.drewN n)) := fun n hx =>
                    ⟨(hM.drewN n).congr (fun i j _ _ => by
                      by_cases h : i = a ∧ j = b
                      · rw [h.1, h.2]; exact hx.symm
                      · exact (mid_old D k a b i j h).symm), hb.trans (Below.drewN' _ _ _)⟩
                  clear hM hb
                  generalize Wf.dk D k a k = x at x1 u1 l1 HNEW
                  generalize Wf.dk D k k b = y at y1 u2 l2 HNEW
                  generalize Wf.dk D k a b = z at z1 u3 l3 HNEW HOLD
                  generalize G a = ga at c1 x1 z1 f1 HPUT
                  generalize G k = gk at c2 y1
                  have hw : IntKind.i64.wrap (x + y) = x + y := by rw [IntKind.wrap_i64]; omega
                  clear u1 u2 u3 hp
                  by_cases hx : 0 ≤ x
                  · have d1 : decide (0 ≤ x) = true := by simpa using hx
                    by_cases hy : 0 ≤ y
                    · have d2 : decide (0 ≤ y) = true := by simpa using hy
                      by_cases hz : z < 0
                      · have d3 : decide (z < 0) = true := by simpa using hz
                        have HV : Hid (Wf.rl x y z = x + y) := by show _ = _; unfold Wf.rl; rw [if_pos ⟨hx, hy, .inl hz⟩]
                        go_wp2
                        go_quiet (fail)
                        go_wp2
                        go_region
                        go_wp2
                        go_roundw
                        case rel => exact ⟨b + 1, by omega, by go_num, HPUT.out _ _ (by rw [HNEW.out, HV.out])⟩
                        case measure => simp [intOf]; omega
                      · have d3 : decide (z < 0) = false := by simpa using hz
                        by_cases hl : x + y < z
                        · have d4 : decide (x + y < z) = true := by simpa using hl
                          have HV : Hid (Wf.rl x y z = x + y) := by show _ = _; unfold Wf.rl; rw [if_pos ⟨hx, hy, .inr hl⟩]
                          go_wp2
                          go_quiet (fail)
                          go_wp2
                          go_region
                          go_wp2
                          go_roundw
                          case rel => exact ⟨b + 1, by omega, by go_num, HPUT.out _ _ (by rw [HNEW.out, HV.out])⟩
                          case measure => simp [intOf]; omega
                        · have d4 : decide (x + y < z) = false := by simpa using hl
                          have HV : Hid (Wf.rl x y z = z) := by show _ = _; unfold Wf.rl; rw [if_neg (fun h => h.2.2.elim hz hl)]
                          go_wp2
                          go_quiet (fail)
                          go_wp2
                          go_roundw
                          case rel => exact ⟨b + 1, by omega, by go_num, HKEEP.out _ (by rw [HNEW.out, HOLD.out, HV.out])⟩
                          case measure => simp [intOf]; omega
                    · have d2 : decide (0 ≤ y) = false := by simpa using hy
                      have HV : Hid (Wf.rl x y z = z) := by show _ = _; unfold Wf.rl; rw [if_neg (fun h => hy h.2.1)]
                      go_wp2
                      go_quiet (fail)
                      go_wp2
                      go_roundw
                      case rel => exact ⟨b + 1, by omega, by go_num, HKEEP.out _ (by rw [HNEW.out, HOLD.out, HV.out])⟩
                      case measure => simp [intOf]; omega
                  · have d1 : decide (0 ≤ x) = false := by simpa using hx
                    have HV : Hid (Wf.rl x y z = z) := by show _ = _; unfold Wf.rl; rw [if_neg (fun h => hx h.1)]
                    go_wp2
                    go_quiet (fail)
                    go_wp2
                    go_roundw
                    case rel => exact ⟨b + 1, by omega, by go_num, HKEEP.out _ (by rw [HNEW.out, HOLD.out, HV.out])⟩
                    case measure => simp [intOf]; omega
                · have hbm2 : m = b := by omega
                  subst hbm2
                  have HM := Lib.hid hM
                  clear hM
                  go_wp2
                  go_roundw
                  case rel => exact ⟨a + 1, by omega, by go_num, HM.out.congr (fun i j _ hj => mid_row D k a m i j hj), hb⟩
                  case measure => simp [intOf]; omega
            · have ham2 : m = a := by omega
              subst ham2
              have HM := Lib.hid hM
              clear hM
              go_wp2
              go_roundw
              case rel => exact ⟨k + 1, by omega, by go_num, HM.out.congr (fun i j hi _ => mid_done D k m i j hi), hb⟩
              case measure => simp [intOf]; omega
        · have hkm2 : m = k := by omega
          subst hkm2
          have HM := Lib.hid hM
          clear hM
          go_wp2
          go_ret
          exact ⟨gb, cb, rfl, HM.out.rd (by omega), hb⟩

end Go.Proofs.YtojkjdccjomaaaaDoor.RefF
