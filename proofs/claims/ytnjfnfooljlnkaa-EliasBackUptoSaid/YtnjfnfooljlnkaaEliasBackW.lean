/-
  The walk of the law EliasBack: for every slice of at most 1048576 integers it returns true.
-/
import Derived.Test.YtnjfnfooljlnkaaEliasF
namespace Go.Proofs.Ytnjfnfooljlnkaa.eliasBack
open Go.RowKit

theorem codes_take (code : Nat → List Int) (ns : List Int) (k : Nat) (h : k < ns.length) : El.codes code (ns.take (k + 1)) = El.codes code (ns.take k) ++ code (ns.getD k 0).toNat := by
  rw [List.take_succ_eq_append_getElem h, El.codes_snoc]
  simp [List.getD, h]
theorem nums_take {ns : List Int} {k : Nat} (hk : k < ns.length) (h : El.Nums (ns.take k)) (hx : 1 ≤ ns.getD k 0 ∧ ns.getD k 0 ≤ 1000000) : El.Nums (ns.take (k + 1)) := by
  intro n hn
  rw [List.take_succ_eq_append_getElem hk] at hn
  rcases List.mem_append.1 hn with hn | hn
  · exact h n hn
  · simp only [List.mem_singleton] at hn
    subst hn
    simpa [List.getD, hk] using hx
theorem gamma_le {n : Nat} (h1 : 1 ≤ n) (h2 : n ≤ 1000000) : (El.gamma n).length ≤ 60 := by
  have := El.bin_len_le h1 h2
  rw [El.gamma_len]; omega
theorem delta_le {n : Nat} (h1 : 1 ≤ n) (h2 : n ≤ 1000000) : (El.delta n).length ≤ 60 := by
  have a := El.bin_len_le h1 h2
  have b := El.bin_len_le (El.bin_pos n) (by omega)
  rw [El.delta_len]; omega
theorem codes_bits (code : Nat → List Int) (hc : ∀ n, El.Bits (code n)) (ns : List Int) : El.Bits (El.codes code ns) := by
  intro x hx
  simp only [El.codes, List.mem_flatMap] at hx
  obtain ⟨n, _, hn⟩ := hx
  exact hc _ _ hn
theorem gamma_bits (n : Nat) : El.Bits (El.gamma n) := by
  intro x hx
  rw [El.gamma] at hx
  rcases List.mem_append.1 hx with h | h
  · exact .inl (List.eq_of_mem_replicate h)
  · exact El.bin_bits n x h
theorem delta_bits (n : Nat) : El.Bits (El.delta n) := by
  intro x hx
  rw [El.delta] at hx
  rcases List.mem_append.1 hx with h | h
  · exact gamma_bits _ x h
  · exact El.bin_bits n x (List.mem_of_mem_tail h)
theorem rcode_codes (rd : List Int → Option (List Int)) (code : Nat → List Int) {ns : List Int} (hb : El.Bits (El.codes code ns)) (hl : (El.codes code ns).length ≤ 600) (hr : rd (El.codes code ns) = some ns) : rcode (rd (El.codes code ns)) (El.codes code ns) = 0 := by
  rw [rcode_bits (by omega) hb, hr]; rfl

/-- two slices that do not share a block -/
def Apart (v u : Value) : Prop := ∀ k, v.ownBlock = some k → u.ownBlock ≠ some k
/-- what the loop keeps of the two lists of codes -/
def Two (w : World) (B : Nat) (vg vd : Value) (ns : List Int) : Prop :=
  Own w B 3 vg (El.codes El.gamma ns) ∧ Own w B 3 vd (El.codes El.delta ns) ∧ Apart vg vd

set_option maxRecDepth 100000 in
set_option maxHeartbeats 4000000 in
theorem walk (w : World) (a0 : Option Addr) (n0 c0 : Nat) (z0 : List Int) (w0 : Rd w w.heap.size a0 n0 c0 z0) (s0 : n0 ≤ 1048576) :
    Calls Try.prog 4 #[.slice a0 n0 c0] w fun e w' => e = .returned (.bool true) ∧ Below w.heap.size w w' := by
  have HX := Lib.hid w0.len
  go_enter Try.func4, Try.ntmps4
  go_wp2_with fail
  refine (fact_any _).mono ?_
  rintro e w1 ⟨rfl, hb1⟩
  have hr1 := w0.past hb1
  have hs1 := hb1.size
  go_wp2_with fail
  go_loopw [4, 5, 6] (fun vg vd i wr => ∃ k : Nat, k ≤ n0 ∧ i = .int .i64 k ∧ Two wr w1.heap.size vg vd (z0.take k) ∧ El.Nums (z0.take k) ∧ (El.codes El.gamma (z0.take k)).length ≤ 60 * k ∧ (El.codes El.delta (z0.take k)).length ≤ 60 * k ∧ Below w1.heap.size w1 wr) (fun _ _ i _ => n0 - (intOf i).toNat)
  case atStart => exact ⟨0, Nat.zero_le _, rfl, ⟨Own.nil _ _ _, Own.nil _ _ _, fun k h => by simp [Value.ownBlock] at h⟩, fun _ h => by simp at h, by simp [El.codes], by simp [El.codes], Below.refl _ _⟩
  case round =>
    obtain ⟨k, hk, rfl, ⟨hog, hod, hap⟩, hnums, hlg, hld, hbel⟩ := hrel
    have hszr := hbel.size
    by_cases hlt : k < n0
    · have hr2 := (hr1.below hbel)
      obtain ⟨b2, o2, rfl, hb2, hc2⟩ := hr2.at_ (by omega)
      have g2 := hc2 k hlt
      clear hc2
      have hkn : k < z0.length := by rw [HX.out]; exact hlt
      have hctg := codes_take El.gamma z0 k hkn
      have hctd := codes_take El.delta z0 k hkn
      have hnt := nums_take hkn hnums
      obtain ⟨x, hx⟩ : ∃ x, x = z0.getD k 0 := ⟨_, rfl⟩
      rw [← hx] at g2 hctg hctd hnt
      clear hx
      by_cases hbad : x < 1 ∨ 1000000 < x
      · clear hctg hctd hnt
        go_wp2_with fail
        refine (Gamma_no _ _ hbad).mono ?_
        rintro e w3 ⟨rfl, rfl⟩
        go_wp2_with fail
        refine (Delta_no _ _ hbad).mono ?_
        rintro e w3 ⟨rfl, rfl⟩
        go_wp2_with fail
        refine (in_no _ _ _ _ hbad).mono ?_
        rintro e w3 ⟨rfl, rfl⟩
        go_wp2
        go_ret
        exact ⟨rfl, hb1.trans (hbel.mono hs1)⟩
      · obtain ⟨m, rfl⟩ : ∃ m : Nat, x = m := ⟨x.toNat, by omega⟩
        have m1 : 1 ≤ m := by omega
        have m2 : m ≤ 1000000 := by omega
        have hnt' := hnt ⟨by omega, by omega⟩
        clear hbad hnt
        rw [Int.toNat_natCast] at hctg hctd
        have HCG := Lib.hid hctg
        have HCD := Lib.hid hctd
        clear hctg hctd
        have hgl := gamma_le m1 m2
        have hdl := delta_le m1 m2
        go_wp2_with fail
        refine (Gamma_yes _ _ m1 m2).mono ?_
        rintro e w3 ⟨v3, rfl, hown3, hb3⟩
        have hs3 := hb3.size
        have g3 : w3.cell? ⟨b2, o2 + k, none⟩ = some (.int .i64 m) := (hb3.cell (by show b2 < _; omega)).trans g2
        go_wp2_with fail
        refine (Delta_yes _ _ m1 m2).mono ?_
        rintro e w4 ⟨v4, rfl, hown4, hb4⟩
        have hs4 := hb4.size
        have hw4 : Below w1.heap.size w1 w4 := (hbel.trans (hb3.mono hszr)).trans (hb4.mono (by omega))
        have hog4 := (hog.below hb3).below hb4
        have hod4 := (hod.below hb3).below hb4
        have hown34 := hown3.below hb4
        obtain ⟨A3, c3, rfl, hr3⟩ := hown34.rd
        go_wp2_with (first | (at_builtin; refine wpList_app _ rfl (.tmp 60) (.tmp 61) _ rfl w1.heap.size 3 Try.underlying26 intInfo _ _ rfl hog4 _ _ _ _ rfl hr3 (by omega) (by omega) ?_; intro v5 w5 hog5 hg5 hat5; have hw5 := below_app hw4 hog4 hg5 (by omega); have hs5 := hw5.size; have hz5 := hg5.size; have hod5 := hod4.grown hg5 (fun j hj => fun he => hap j he hj); have hown45 := hown4.grown hg5 (fun j hj => fun he => by have := hown4.at_base j hj; have := hog.lt j he; omega); obtain ⟨A4, c4, rfl, hr4⟩ := hown45.rd) | (at_builtin; refine wpList_app _ rfl (.tmp 63) (.tmp 64) _ rfl w1.heap.size 3 Try.underlying26 intInfo _ _ rfl hod5 _ _ _ _ rfl hr4 (by omega) (by omega) ?_; intro v6 w6 hod6 hg6 hat6))
        have hw6 := below_app hw5 hod5 hg6 (by omega)
        have hog6 : Own w6 w1.heap.size 3 v5 (El.codes El.gamma (z0.take k) ++ El.gamma m) := hog5.grown hg6 (fun j hj => fun he => by
          rcases hat5 with h | h
          · rw [h] at hj; exact hap j hj he
          · rw [h] at hj
            have := hod4.lt j he
            simp only [Option.some.injEq] at hj
            omega)
        have hap' : Apart v5 v6 := by
          intro j hj he
          rcases hat6 with h | h
          · rw [h] at he
            rcases hat5 with h' | h'
            · rw [h'] at hj; exact hap j hj he
            · rw [h'] at hj
              have := hod4.lt j he
              simp only [Option.some.injEq] at hj
              omega
          · rw [h] at he
            have := hog5.lt j hj
            simp only [Option.some.injEq] at he
            omega
        go_roundw
        case rel =>
          refine ⟨k + 1, by omega, by go_num, ⟨?_, ?_, hap'⟩, hnt', ?_, ?_, hw6⟩
          · rw [HCG.out]; exact hog6
          · rw [HCD.out]; exact hod6
          · rw [HCG.out, List.length_append]; omega
          · rw [HCD.out, List.length_append]; omega
        case measure => simp [intOf]; omega
    · obtain rfl : k = n0 := by omega
      rw [List.take_of_length_le (by rw [HX.out]; exact Nat.le_refl _)] at hog hod hnums hlg hld
      have HRG := Lib.hid (El.readG_codes hnums)
      have HRD := Lib.hid (El.readD_codes hnums)
      have HNG := Lib.hid (codes_bits El.gamma gamma_bits z0)
      have HND := Lib.hid (codes_bits El.delta delta_bits z0)
      obtain ⟨AG, cg, rfl, hrg⟩ := hog.rd
      obtain ⟨AD, cd, rfl, hrd⟩ := hod.rd
      obtain ⟨LG, hLG⟩ : ∃ L, L = (El.codes El.gamma z0).length := ⟨_, rfl⟩
      obtain ⟨LD, hLD⟩ : ∃ L, L = (El.codes El.delta z0).length := ⟨_, rfl⟩
      rw [← hLG] at hrg hlg
      rw [← hLD] at hrd hld
      rw [← hLG, ← hLD]
      have HLG := Lib.hid hLG
      have HLD := Lib.hid hLD
      clear hLG hLD hog hod hap
      have hrl := hr1.past hbel
      have hwt : Below w.heap.size w wr := hb1.trans (hbel.mono hs1)
      by_cases hg6 : LG ≤ 600
      · go_wp2_with fail
        refine (ReadGamma_any _ _ _ _ _ hrg).mono ?_
        rintro e w6 ⟨hb6, ⟨h0, rfl⟩ | ⟨v6, ns, h0, h1, rfl, hown6⟩⟩
        · exact absurd (rcode_codes El.readG El.gamma HNG.out (by rw [← HLG.out]; exact hg6) HRG.out) h0
        · rw [HRG.out] at h1
          obtain rfl : z0 = ns := by simpa using h1
          clear h0 h1
          obtain ⟨A6, c6, rfl, hr6⟩ := hown6.rd
          rw [HX.out] at hr6 ⊢
          have hr0 := hrl.past hb6
          go_wp2_with fail
          refine (Ints_any _ _ _ _ _ _ z0 z0 _ hr6 hr0).mono ?_
          rintro e w7 ⟨rfl, hb7⟩
          have hw6 : Below w.heap.size w w6 := hwt.trans (hb6.mono hwt.size)
          have hyes : decide (z0 = z0) = true := by simp
          rw [hyes]
          clear hyes hwt
          have hwt : Below w.heap.size w w7 := hw6.trans (hb7.mono hw6.size)
          have hrl := hr0.past hb7
          have hrd := (hrd.past hb6).past hb7
          clear hb6 hb7 hr6 hr0 hown6
          by_cases hd6 : LD ≤ 600
          · go_wp2_with fail
            refine (ReadDelta_any _ _ _ _ _ hrd).mono ?_
            rintro e w8 ⟨hb8, ⟨h0, rfl⟩ | ⟨v8, ns, h0, h1, rfl, hown8⟩⟩
            · exact absurd (rcode_codes El.readD El.delta HND.out (by rw [← HLD.out]; exact hd6) HRD.out) h0
            · rw [HRD.out] at h1
              obtain rfl : z0 = ns := by simpa using h1
              clear h0 h1
              obtain ⟨A8, c8, rfl, hr8⟩ := hown8.rd
              rw [HX.out] at hr8 ⊢
              have hr0 := hrl.past hb8
              go_wp2_with fail
              refine (Ints_any _ _ _ _ _ _ z0 z0 _ hr8 hr0).mono ?_
              rintro e w9 ⟨rfl, hb9⟩
              have hw8 : Below w.heap.size w w8 := hwt.trans (hb8.mono hwt.size)
              have hyes : decide (z0 = z0) = true := by simp
              rw [hyes]
              clear hyes
              go_wp2
              go_ret
              exact ⟨rfl, hw8.trans (hb9.mono hw8.size)⟩
          · go_wp2
            go_ret
            exact ⟨rfl, hwt⟩
      · skip
        by_cases hd6 : LD ≤ 600
        · go_wp2_with fail
          refine (ReadDelta_any _ _ _ _ _ hrd).mono ?_
          rintro e w8 ⟨hb8, ⟨h0, rfl⟩ | ⟨v8, ns, h0, h1, rfl, hown8⟩⟩
          · exact absurd (rcode_codes El.readD El.delta HND.out (by rw [← HLD.out]; exact hd6) HRD.out) h0
          · rw [HRD.out] at h1
            obtain rfl : z0 = ns := by simpa using h1
            clear h0 h1
            obtain ⟨A8, c8, rfl, hr8⟩ := hown8.rd
            rw [HX.out] at hr8 ⊢
            have hr0 := hrl.past hb8
            go_wp2_with fail
            refine (Ints_any _ _ _ _ _ _ z0 z0 _ hr8 hr0).mono ?_
            rintro e w9 ⟨rfl, hb9⟩
            have hw8 : Below w.heap.size w w8 := hwt.trans (hb8.mono hwt.size)
            have hyes : decide (z0 = z0) = true := by simp
            rw [hyes]
            clear hyes
            go_wp2
            go_ret
            exact ⟨rfl, hw8.trans (hb9.mono hw8.size)⟩
        · go_wp2
          go_ret
          exact ⟨rfl, hwt⟩

end Go.Proofs.Ytnjfnfooljlnkaa.eliasBack
