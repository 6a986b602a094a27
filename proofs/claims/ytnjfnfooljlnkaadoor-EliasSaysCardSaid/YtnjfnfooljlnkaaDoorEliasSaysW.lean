/-
  The walk of the law EliasSays: for every integer and every slice of integers it returns true, where the library's variable errors.errorType holds what its initialiser lays.
-/
import Derived.Test.YtnjfnfooljlnkaaDoorTold
import Derived.Test.YtnjfnfooljlnkaaDoorRefC
namespace Go.Proofs.YtnjfnfooljlnkaaDoor.eliasSays
open Go.RowKit

set_option maxRecDepth 100000 in
set_option maxHeartbeats 8000000 in
theorem walk (w : World) (hetw : tld.EtIs w) (a0 : Int) (_w0 : (Lit.int .i64 a0).wf = true) (a1 : Option Addr) (n1 c1 : Nat) (z1 : List Int) (wbits : Rd w w.heap.size a1 n1 c1 z1) :
    Calls Tryd.prog 3 #[.int .i64 a0, .slice a1 n1 c1] w fun e w' => e = .returned (.bool true) ∧ Below w.heap.size w w' := by
  by_cases hn : a0 < 1 ∨ 1000000 < a0
  · go_enter Tryd.func3, Tryd.ntmps3
    go_wp2_with fail
    refine (in_no _ _ _ _ hn).mono ?_
    rintro e w1 ⟨rfl, rfl⟩
    go_wp2_with fail
    refine (Gamma_no _ _ hn).mono ?_
    rintro e w1 ⟨rfl, rfl⟩
    go_wp2_with fail
    refine (Error_err _ _ _ hetw).mono ?_
    rintro e w2 ⟨rfl, hb2⟩
    rw [show ((1 : Int) == 1) = true from rfl]
    go_wp2_with fail
    refine (Ints_any _ _ _ _ _ _ [] [] _ (Rd.nil _ _) (Rd.nil _ _)).mono ?_
    rintro e w3 ⟨rfl, hb3⟩
    rw [show decide (([] : List Int) = []) = true from rfl]
    have hs2 := hb2.size
    have hw3 : Below w.heap.size w w3 := hb2.trans (hb3.mono hs2)
    have het3 := hetw.below hw3
    clear hb2 hb3
    go_wp2_with fail
    refine (Delta_no _ _ hn).mono ?_
    rintro e w4 ⟨rfl, rfl⟩
    go_wp2_with fail
    refine (Error_err _ _ _ het3).mono ?_
    rintro e w4 ⟨rfl, hb4⟩
    rw [show ((1 : Int) == 1) = true from rfl]
    have hw4 : Below w.heap.size w w4 := hw3.trans (hb4.mono hw3.size)
    clear hw3 het3 hb4
    go_wp2_with fail
    refine (Ints_any _ _ _ _ _ _ [] [] _ (Rd.nil _ _) (Rd.nil _ _)).mono ?_
    rintro e w5 ⟨rfl, hb5⟩
    rw [show decide (([] : List Int) = []) = true from rfl]
    have hwt : Below w.heap.size w w5 := hw4.trans (hb5.mono hw4.size)
    have hrb := wbits.past hwt
    have het := hetw.below hwt
    clear hw4 hb5
    go_wp2_with fail
    refine (R.ReadGamma_any _ _ _ z1 _ hrb).mono ?_
    rintro e wa ⟨hba, ⟨h0, rfl⟩ | ⟨va, ns, h0, h1, rfl, howna⟩⟩
    · have hrbA := hrb.past hba
      have hetA := het.below hba
      have hwA := hwt.trans (hba.mono hwt.size)
      have H0 := Lib.hid h0
      clear h0
      go_wp2_with fail
      refine (ReadGamma_any _ _ _ z1 _ hrbA).mono ?_
      rintro e wb ⟨hbb, ⟨h0', rfl⟩ | ⟨vb, ns', h0', _, _, _⟩⟩
      · clear h0'
        have hetB := hetA.below hbb
        have hrbB := hrbA.past hbb
        have hwB := hwA.trans (hbb.mono hwA.size)
        clear hrbA hetA hwA hba hbb hrb hwt het H0
        generalize rcode (El.readG z1) z1 = kc at *
        go_wp2_with fail
        refine (Error_err _ _ _ hetB).mono ?_
        rintro e wc ⟨rfl, hbc⟩
        have hetC := hetB.below hbc
        have hrbC := hrbB.past hbc
        have hwC := hwB.trans (hbc.mono hwB.size)
        clear hetB hrbB hwB hbc
        rw [show (kc == kc) = true by simp]
        go_wp2_with fail
        refine (Ints_any _ _ _ _ _ _ [] [] _ (Rd.nil _ _) (Rd.nil _ _)).mono ?_
        rintro e wd ⟨rfl, hbd⟩
        have het := hetC.below hbd
        have hrb := hrbC.past hbd
        have hwt := hwC.trans (hbd.mono hwC.size)
        clear hetC hrbC hwC hbd
        rw [show decide (([] : List Int) = []) = true from rfl]
        go_wp2_with fail
        refine (R.ReadDelta_any _ _ _ z1 _ hrb).mono ?_
        rintro e wa ⟨hba, ⟨h0, rfl⟩ | ⟨va, ns, h0, h1, rfl, howna⟩⟩
        · have hrbA := hrb.past hba
          have hetA := het.below hba
          have hwA := hwt.trans (hba.mono hwt.size)
          have H0 := Lib.hid h0
          clear h0
          go_wp2_with fail
          refine (ReadDelta_any _ _ _ z1 _ hrbA).mono ?_
          rintro e wb ⟨hbb, ⟨h0', rfl⟩ | ⟨vb, ns', h0', _, _, _⟩⟩
          · clear h0'
            have hetB := hetA.below hbb
            have hrbB := hrbA.past hbb
            have hwB := hwA.trans (hbb.mono hwA.size)
            clear hrbA hetA hwA hba hbb hrb hwt het H0
            generalize rcode (El.readD z1) z1 = kc at *
            go_wp2_with fail
            refine (Error_err _ _ _ hetB).mono ?_
            rintro e wc ⟨rfl, hbc⟩
            have hetC := hetB.below hbc
            have hrbC := hrbB.past hbc
            have hwC := hwB.trans (hbc.mono hwB.size)
            clear hetB hrbB hwB hbc
            rw [show (kc == kc) = true by simp]
            go_wp2_with fail
            refine (Ints_any _ _ _ _ _ _ [] [] _ (Rd.nil _ _) (Rd.nil _ _)).mono ?_
            rintro e wd ⟨rfl, hbd⟩
            have het := hetC.below hbd
            have hrb := hrbC.past hbd
            have hwt := hwC.trans (hbd.mono hwC.size)
            clear hetC hrbC hwC hbd
            rw [show decide (([] : List Int) = []) = true from rfl]
            go_wp2
            go_ret
            exact ⟨rfl, hwt⟩
          · exact absurd h0' H0.out
        · obtain ⟨Aa, ca, rfl, hra⟩ := howna.rd
          have hrbA := hrb.past hba
          have hetA := het.below hba
          have hwA := hwt.trans (hba.mono hwt.size)
          have H0 := Lib.hid h0
          have H1 := Lib.hid h1
          clear h0 h1
          go_wp2_with fail
          refine (ReadDelta_any _ _ _ z1 _ hrbA).mono ?_
          rintro e wb ⟨hbb, ⟨h0', rfl⟩ | ⟨vb, ns', h0', h1', rfl, hownb⟩⟩
          · exact absurd H0.out h0'
          · obtain rfl : ns = ns' := by
              have := H1.out.symm.trans h1'
              simpa using this
            clear h0' h1' H0 H1
            obtain ⟨Ab, cb, rfl, hrB⟩ := hownb.rd
            have hrA := hra.past hbb
            have hetB := hetA.below hbb
            have hrbB := hrbA.past hbb
            have hwB := hwA.trans (hbb.mono hwA.size)
            clear hrbA hetA hwA hba hbb hra howna hownb hrb hwt het
            go_wp2_with fail
            refine (Error_nil _ _).mono ?_
            rintro e wc ⟨rfl, rfl⟩
            rw [show ((0 : Int) == 0) = true from rfl]
            go_wp2_with fail
            refine (Ints_any _ _ _ _ _ _ ns ns _ hrB hrA).mono ?_
            rintro e wd ⟨rfl, hbd⟩
            have het := hetB.below hbd
            have hrb := hrbB.past hbd
            have hwt := hwB.trans (hbd.mono hwB.size)
            clear hetB hrbB hwB hbd hrA hrB
            rw [show decide (ns = ns) = true by simp]
            go_wp2
            go_ret
            exact ⟨rfl, hwt⟩
      · exact absurd h0' H0.out
    · obtain ⟨Aa, ca, rfl, hra⟩ := howna.rd
      have hrbA := hrb.past hba
      have hetA := het.below hba
      have hwA := hwt.trans (hba.mono hwt.size)
      have H0 := Lib.hid h0
      have H1 := Lib.hid h1
      clear h0 h1
      go_wp2_with fail
      refine (ReadGamma_any _ _ _ z1 _ hrbA).mono ?_
      rintro e wb ⟨hbb, ⟨h0', rfl⟩ | ⟨vb, ns', h0', h1', rfl, hownb⟩⟩
      · exact absurd H0.out h0'
      · obtain rfl : ns = ns' := by
          have := H1.out.symm.trans h1'
          simpa using this
        clear h0' h1' H0 H1
        obtain ⟨Ab, cb, rfl, hrB⟩ := hownb.rd
        have hrA := hra.past hbb
        have hetB := hetA.below hbb
        have hrbB := hrbA.past hbb
        have hwB := hwA.trans (hbb.mono hwA.size)
        clear hrbA hetA hwA hba hbb hra howna hownb hrb hwt het
        go_wp2_with fail
        refine (Error_nil _ _).mono ?_
        rintro e wc ⟨rfl, rfl⟩
        rw [show ((0 : Int) == 0) = true from rfl]
        go_wp2_with fail
        refine (Ints_any _ _ _ _ _ _ ns ns _ hrB hrA).mono ?_
        rintro e wd ⟨rfl, hbd⟩
        have het := hetB.below hbd
        have hrb := hrbB.past hbd
        have hwt := hwB.trans (hbd.mono hwB.size)
        clear hetB hrbB hwB hbd hrA hrB
        rw [show decide (ns = ns) = true by simp]
        go_wp2_with fail
        refine (R.ReadDelta_any _ _ _ z1 _ hrb).mono ?_
        rintro e wa ⟨hba, ⟨h0, rfl⟩ | ⟨va, ns, h0, h1, rfl, howna⟩⟩
        · have hrbA := hrb.past hba
          have hetA := het.below hba
          have hwA := hwt.trans (hba.mono hwt.size)
          have H0 := Lib.hid h0
          clear h0
          go_wp2_with fail
          refine (ReadDelta_any _ _ _ z1 _ hrbA).mono ?_
          rintro e wb ⟨hbb, ⟨h0', rfl⟩ | ⟨vb, ns', h0', _, _, _⟩⟩
          · clear h0'
            have hetB := hetA.below hbb
            have hrbB := hrbA.past hbb
            have hwB := hwA.trans (hbb.mono hwA.size)
            clear hrbA hetA hwA hba hbb hrb hwt het H0
            generalize rcode (El.readD z1) z1 = kc at *
            go_wp2_with fail
            refine (Error_err _ _ _ hetB).mono ?_
            rintro e wc ⟨rfl, hbc⟩
            have hetC := hetB.below hbc
            have hrbC := hrbB.past hbc
            have hwC := hwB.trans (hbc.mono hwB.size)
            clear hetB hrbB hwB hbc
            rw [show (kc == kc) = true by simp]
            go_wp2_with fail
            refine (Ints_any _ _ _ _ _ _ [] [] _ (Rd.nil _ _) (Rd.nil _ _)).mono ?_
            rintro e wd ⟨rfl, hbd⟩
            have het := hetC.below hbd
            have hrb := hrbC.past hbd
            have hwt := hwC.trans (hbd.mono hwC.size)
            clear hetC hrbC hwC hbd
            rw [show decide (([] : List Int) = []) = true from rfl]
            go_wp2
            go_ret
            exact ⟨rfl, hwt⟩
          · exact absurd h0' H0.out
        · obtain ⟨Aa, ca, rfl, hra⟩ := howna.rd
          have hrbA := hrb.past hba
          have hetA := het.below hba
          have hwA := hwt.trans (hba.mono hwt.size)
          have H0 := Lib.hid h0
          have H1 := Lib.hid h1
          clear h0 h1
          go_wp2_with fail
          refine (ReadDelta_any _ _ _ z1 _ hrbA).mono ?_
          rintro e wb ⟨hbb, ⟨h0', rfl⟩ | ⟨vb, ns', h0', h1', rfl, hownb⟩⟩
          · exact absurd H0.out h0'
          · obtain rfl : ns = ns' := by
              have := H1.out.symm.trans h1'
              simpa using this
            clear h0' h1' H0 H1
            obtain ⟨Ab, cb, rfl, hrB⟩ := hownb.rd
            have hrA := hra.past hbb
            have hetB := hetA.below hbb
            have hrbB := hrbA.past hbb
            have hwB := hwA.trans (hbb.mono hwA.size)
            clear hrbA hetA hwA hba hbb hra howna hownb hrb hwt het
            go_wp2_with fail
            refine (Error_nil _ _).mono ?_
            rintro e wc ⟨rfl, rfl⟩
            rw [show ((0 : Int) == 0) = true from rfl]
            go_wp2_with fail
            refine (Ints_any _ _ _ _ _ _ ns ns _ hrB hrA).mono ?_
            rintro e wd ⟨rfl, hbd⟩
            have het := hetB.below hbd
            have hrb := hrbB.past hbd
            have hwt := hwB.trans (hbd.mono hwB.size)
            clear hetB hrbB hwB hbd hrA hrB
            rw [show decide (ns = ns) = true by simp]
            go_wp2
            go_ret
            exact ⟨rfl, hwt⟩
  · obtain ⟨n, rfl⟩ : ∃ n : Nat, a0 = n := ⟨a0.toNat, by omega⟩
    have h1 : 1 ≤ n := by omega
    have h2 : n ≤ 1000000 := by omega
    clear hn
    go_enter Tryd.func3, Tryd.ntmps3
    go_wp2_with fail
    refine (in_yes _ _ _ _ (by omega) (by omega)).mono ?_
    rintro e w1 ⟨rfl, rfl⟩
    go_wp2_with fail
    refine (R.Gamma_any _ _ h1 h2).mono ?_
    rintro e w2 ⟨v2, rfl, hown2, hb2⟩
    obtain ⟨A2, c2, rfl, hr2⟩ := hown2.rd
    go_wp2_with fail
    refine (R.Delta_any _ _ h1 h2).mono ?_
    rintro e w3 ⟨v3, rfl, hown3, hb3⟩
    obtain ⟨A3, c3, rfl, hr3⟩ := hown3.rd
    go_wp2_with fail
    refine (Gamma_yes _ _ h1 h2).mono ?_
    rintro e w4 ⟨v4, rfl, hown4, hb4⟩
    obtain ⟨A4, c4, rfl, hr4⟩ := hown4.rd
    have hs2 := hb2.size
    have hs3 := hb3.size
    have hs4 := hb4.size
    have hw4 : Below w.heap.size w w4 := (hb2.trans (hb3.mono hs2)).trans (hb4.mono (by omega))
    have hr24 := (hr2.past hb3).past hb4
    have hr34 := hr3.past hb4
    clear hown2 hown3 hown4 hr2 hr3
    go_wp2_with fail
    refine (Error_nil _ _).mono ?_
    rintro e w5 ⟨rfl, rfl⟩
    rw [show ((0 : Int) == 0) = true from rfl]
    go_wp2_with fail
    refine (Ints_any _ _ _ _ _ _ (El.gamma n) (El.gamma n) _ hr4 hr24).mono ?_
    rintro e w5 ⟨rfl, hb5⟩
    rw [show decide (El.gamma n = El.gamma n) = true by simp]
    have hs5 := hb5.size
    have hr35 := hr34.past hb5
    have hw5 : Below w.heap.size w w5 := hw4.trans (hb5.mono hw4.size)
    clear hb2 hb3 hb4 hb5 hr4 hr24 hr34 hw4
    go_wp2_with fail
    refine (Delta_yes _ _ h1 h2).mono ?_
    rintro e w6 ⟨v6, rfl, hown6, hb6⟩
    obtain ⟨A6, c6, rfl, hr6⟩ := hown6.rd
    have hr36 := hr35.past hb6
    have hw6 : Below w.heap.size w w6 := hw5.trans (hb6.mono hw5.size)
    clear hown6 hr35 hw5 hb6
    go_wp2_with fail
    refine (Error_nil _ _).mono ?_
    rintro e w7 ⟨rfl, rfl⟩
    rw [show ((0 : Int) == 0) = true from rfl]
    go_wp2_with fail
    refine (Ints_any _ _ _ _ _ _ (El.delta n) (El.delta n) _ hr6 hr36).mono ?_
    rintro e w7 ⟨rfl, hb7⟩
    rw [show decide (El.delta n = El.delta n) = true by simp]
    have hwt : Below w.heap.size w w7 := hw6.trans (hb7.mono hw6.size)
    have hrb := wbits.past hwt
    have het := hetw.below hwt
    clear hw6 hb7 hr6 hr36
    go_wp2_with fail
    refine (R.ReadGamma_any _ _ _ z1 _ hrb).mono ?_
    rintro e wa ⟨hba, ⟨h0, rfl⟩ | ⟨va, ns, h0, h1, rfl, howna⟩⟩
    · have hrbA := hrb.past hba
      have hetA := het.below hba
      have hwA := hwt.trans (hba.mono hwt.size)
      have H0 := Lib.hid h0
      clear h0
      go_wp2_with fail
      refine (ReadGamma_any _ _ _ z1 _ hrbA).mono ?_
      rintro e wb ⟨hbb, ⟨h0', rfl⟩ | ⟨vb, ns', h0', _, _, _⟩⟩
      · clear h0'
        have hetB := hetA.below hbb
        have hrbB := hrbA.past hbb
        have hwB := hwA.trans (hbb.mono hwA.size)
        clear hrbA hetA hwA hba hbb hrb hwt het H0
        generalize rcode (El.readG z1) z1 = kc at *
        go_wp2_with fail
        refine (Error_err _ _ _ hetB).mono ?_
        rintro e wc ⟨rfl, hbc⟩
        have hetC := hetB.below hbc
        have hrbC := hrbB.past hbc
        have hwC := hwB.trans (hbc.mono hwB.size)
        clear hetB hrbB hwB hbc
        rw [show (kc == kc) = true by simp]
        go_wp2_with fail
        refine (Ints_any _ _ _ _ _ _ [] [] _ (Rd.nil _ _) (Rd.nil _ _)).mono ?_
        rintro e wd ⟨rfl, hbd⟩
        have het := hetC.below hbd
        have hrb := hrbC.past hbd
        have hwt := hwC.trans (hbd.mono hwC.size)
        clear hetC hrbC hwC hbd
        rw [show decide (([] : List Int) = []) = true from rfl]
        go_wp2_with fail
        refine (R.ReadDelta_any _ _ _ z1 _ hrb).mono ?_
        rintro e wa ⟨hba, ⟨h0, rfl⟩ | ⟨va, ns, h0, h1, rfl, howna⟩⟩
        · have hrbA := hrb.past hba
          have hetA := het.below hba
          have hwA := hwt.trans (hba.mono hwt.size)
          have H0 := Lib.hid h0
          clear h0
          go_wp2_with fail
          refine (ReadDelta_any _ _ _ z1 _ hrbA).mono ?_
          rintro e wb ⟨hbb, ⟨h0', rfl⟩ | ⟨vb, ns', h0', _, _, _⟩⟩
          · clear h0'
            have hetB := hetA.below hbb
            have hrbB := hrbA.past hbb
            have hwB := hwA.trans (hbb.mono hwA.size)
            clear hrbA hetA hwA hba hbb hrb hwt het H0
            generalize rcode (El.readD z1) z1 = kc at *
            go_wp2_with fail
            refine (Error_err _ _ _ hetB).mono ?_
            rintro e wc ⟨rfl, hbc⟩
            have hetC := hetB.below hbc
            have hrbC := hrbB.past hbc
            have hwC := hwB.trans (hbc.mono hwB.size)
            clear hetB hrbB hwB hbc
            rw [show (kc == kc) = true by simp]
            go_wp2_with fail
            refine (Ints_any _ _ _ _ _ _ [] [] _ (Rd.nil _ _) (Rd.nil _ _)).mono ?_
            rintro e wd ⟨rfl, hbd⟩
            have het := hetC.below hbd
            have hrb := hrbC.past hbd
            have hwt := hwC.trans (hbd.mono hwC.size)
            clear hetC hrbC hwC hbd
            rw [show decide (([] : List Int) = []) = true from rfl]
            go_wp2
            go_ret
            exact ⟨rfl, hwt⟩
          · exact absurd h0' H0.out
        · obtain ⟨Aa, ca, rfl, hra⟩ := howna.rd
          have hrbA := hrb.past hba
          have hetA := het.below hba
          have hwA := hwt.trans (hba.mono hwt.size)
          have H0 := Lib.hid h0
          have H1 := Lib.hid h1
          clear h0 h1
          go_wp2_with fail
          refine (ReadDelta_any _ _ _ z1 _ hrbA).mono ?_
          rintro e wb ⟨hbb, ⟨h0', rfl⟩ | ⟨vb, ns', h0', h1', rfl, hownb⟩⟩
          · exact absurd H0.out h0'
          · obtain rfl : ns = ns' := by
              have := H1.out.symm.trans h1'
              simpa using this
            clear h0' h1' H0 H1
            obtain ⟨Ab, cb, rfl, hrB⟩ := hownb.rd
            have hrA := hra.past hbb
            have hetB := hetA.below hbb
            have hrbB := hrbA.past hbb
            have hwB := hwA.trans (hbb.mono hwA.size)
            clear hrbA hetA hwA hba hbb hra howna hownb hrb hwt het
            go_wp2_with fail
            refine (Error_nil _ _).mono ?_
            rintro e wc ⟨rfl, rfl⟩
            rw [show ((0 : Int) == 0) = true from rfl]
            go_wp2_with fail
            refine (Ints_any _ _ _ _ _ _ ns ns _ hrB hrA).mono ?_
            rintro e wd ⟨rfl, hbd⟩
            have het := hetB.below hbd
            have hrb := hrbB.past hbd
            have hwt := hwB.trans (hbd.mono hwB.size)
            clear hetB hrbB hwB hbd hrA hrB
            rw [show decide (ns = ns) = true by simp]
            go_wp2
            go_ret
            exact ⟨rfl, hwt⟩
      · exact absurd h0' H0.out
    · obtain ⟨Aa, ca, rfl, hra⟩ := howna.rd
      have hrbA := hrb.past hba
      have hetA := het.below hba
      have hwA := hwt.trans (hba.mono hwt.size)
      have H0 := Lib.hid h0
      have H1 := Lib.hid h1
      clear h0 h1
      go_wp2_with fail
      refine (ReadGamma_any _ _ _ z1 _ hrbA).mono ?_
      rintro e wb ⟨hbb, ⟨h0', rfl⟩ | ⟨vb, ns', h0', h1', rfl, hownb⟩⟩
      · exact absurd H0.out h0'
      · obtain rfl : ns = ns' := by
          have := H1.out.symm.trans h1'
          simpa using this
        clear h0' h1' H0 H1
        obtain ⟨Ab, cb, rfl, hrB⟩ := hownb.rd
        have hrA := hra.past hbb
        have hetB := hetA.below hbb
        have hrbB := hrbA.past hbb
        have hwB := hwA.trans (hbb.mono hwA.size)
        clear hrbA hetA hwA hba hbb hra howna hownb hrb hwt het
        go_wp2_with fail
        refine (Error_nil _ _).mono ?_
        rintro e wc ⟨rfl, rfl⟩
        rw [show ((0 : Int) == 0) = true from rfl]
        go_wp2_with fail
        refine (Ints_any _ _ _ _ _ _ ns ns _ hrB hrA).mono ?_
        rintro e wd ⟨rfl, hbd⟩
        have het := hetB.below hbd
        have hrb := hrbB.past hbd
        have hwt := hwB.trans (hbd.mono hwB.size)
        clear hetB hrbB hwB hbd hrA hrB
        rw [show decide (ns = ns) = true by simp]
        go_wp2_with fail
        refine (R.ReadDelta_any _ _ _ z1 _ hrb).mono ?_
        rintro e wa ⟨hba, ⟨h0, rfl⟩ | ⟨va, ns, h0, h1, rfl, howna⟩⟩
        · have hrbA := hrb.past hba
          have hetA := het.below hba
          have hwA := hwt.trans (hba.mono hwt.size)
          have H0 := Lib.hid h0
          clear h0
          go_wp2_with fail
          refine (ReadDelta_any _ _ _ z1 _ hrbA).mono ?_
          rintro e wb ⟨hbb, ⟨h0', rfl⟩ | ⟨vb, ns', h0', _, _, _⟩⟩
          · clear h0'
            have hetB := hetA.below hbb
            have hrbB := hrbA.past hbb
            have hwB := hwA.trans (hbb.mono hwA.size)
            clear hrbA hetA hwA hba hbb hrb hwt het H0
            generalize rcode (El.readD z1) z1 = kc at *
            go_wp2_with fail
            refine (Error_err _ _ _ hetB).mono ?_
            rintro e wc ⟨rfl, hbc⟩
            have hetC := hetB.below hbc
            have hrbC := hrbB.past hbc
            have hwC := hwB.trans (hbc.mono hwB.size)
            clear hetB hrbB hwB hbc
            rw [show (kc == kc) = true by simp]
            go_wp2_with fail
            refine (Ints_any _ _ _ _ _ _ [] [] _ (Rd.nil _ _) (Rd.nil _ _)).mono ?_
            rintro e wd ⟨rfl, hbd⟩
            have het := hetC.below hbd
            have hrb := hrbC.past hbd
            have hwt := hwC.trans (hbd.mono hwC.size)
            clear hetC hrbC hwC hbd
            rw [show decide (([] : List Int) = []) = true from rfl]
            go_wp2
            go_ret
            exact ⟨rfl, hwt⟩
          · exact absurd h0' H0.out
        · obtain ⟨Aa, ca, rfl, hra⟩ := howna.rd
          have hrbA := hrb.past hba
          have hetA := het.below hba
          have hwA := hwt.trans (hba.mono hwt.size)
          have H0 := Lib.hid h0
          have H1 := Lib.hid h1
          clear h0 h1
          go_wp2_with fail
          refine (ReadDelta_any _ _ _ z1 _ hrbA).mono ?_
          rintro e wb ⟨hbb, ⟨h0', rfl⟩ | ⟨vb, ns', h0', h1', rfl, hownb⟩⟩
          · exact absurd H0.out h0'
          · obtain rfl : ns = ns' := by
              have := H1.out.symm.trans h1'
              simpa using this
            clear h0' h1' H0 H1
            obtain ⟨Ab, cb, rfl, hrB⟩ := hownb.rd
            have hrA := hra.past hbb
            have hetB := hetA.below hbb
            have hrbB := hrbA.past hbb
            have hwB := hwA.trans (hbb.mono hwA.size)
            clear hrbA hetA hwA hba hbb hra howna hownb hrb hwt het
            go_wp2_with fail
            refine (Error_nil _ _).mono ?_
            rintro e wc ⟨rfl, rfl⟩
            rw [show ((0 : Int) == 0) = true from rfl]
            go_wp2_with fail
            refine (Ints_any _ _ _ _ _ _ ns ns _ hrB hrA).mono ?_
            rintro e wd ⟨rfl, hbd⟩
            have het := hetB.below hbd
            have hrb := hrbB.past hbd
            have hwt := hwB.trans (hbd.mono hwB.size)
            clear hetB hrbB hwB hbd hrA hrB
            rw [show decide (ns = ns) = true by simp]
            go_wp2
            go_ret
            exact ⟨rfl, hwt⟩

end Go.Proofs.YtnjfnfooljlnkaaDoor.eliasSays
