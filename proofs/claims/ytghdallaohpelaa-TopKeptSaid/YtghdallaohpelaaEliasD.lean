/-
  Contracts of cutDelta, readAll, ReadGamma and ReadDelta of package elias.
-/
import Derived.Test.YtghdallaohpelaaEliasC
namespace Go.Proofs.Ytghdallaohpelaa
open Go.RowKit

set_option maxHeartbeats 800000 in
theorem cutDelta_any {B : Nat} (A : Option Addr) (l c : Nat) (bs : List Int) (w : World) (hr : Rd w B A l c bs) (hl : l ≤ 600) (hb : El.Bits bs) :
    Calls Try.prog 30 #[.slice A l c] w fun e w' => Cut B w w' (El.cutDl bs) e := by
  go_enter Try.func30, Try.ntmps30
  go_wp2_with fail
  refine (cutGamma_any _ _ _ _ _ hr hl hb).mono ?_
  rintro e w1 ⟨hb1, h⟩
  cases hcut : El.cutG bs with
  | none =>
    rw [hcut] at h
    simp only at h
    subst h
    have hn : Hid (El.cutDl bs = none) := by show _ = _; rw [El.cutDl, hcut]
    clear hcut
    go_wp2
    go_ret3
    unfold Cut
    rw [hn.out]
    exact ⟨hb1, rfl⟩
  | some q =>
    obtain ⟨s, r⟩ := q
    rw [hcut] at h
    simp only at h
    obtain ⟨A2, n2, c2, rfl, hr2⟩ := h
    obtain ⟨s1, s2, s3, s4, s5⟩ := El.cutG_some hb hcut
    have hfin : Hid (El.cutDl bs = El.cutD 1 r (s - 1).toNat) := by show _ = _; rw [El.cutDl, hcut]
    clear hcut s3 s4
    go_wp2_with fail
    refine (cutDigits_int _ _ _ _ _ _ _ hr2 (by omega) (by omega) (by omega) (by omega) s5).mono ?_
    rintro e w2 ⟨hb2, h⟩
    rw [← hfin.out] at h
    have hb12 : Below w.heap.size w w2 := hb1.trans (hb2.mono hb1.size)
    cases hcut2 : El.cutDl bs with
    | none =>
      rw [hcut2] at h
      simp only at h
      subst h
      have HC := Lib.hid hcut2
      clear hcut2
      go_wp2
      go_ret3
      unfold Cut
      rw [HC.out]
      exact ⟨hb12, rfl⟩
    | some q =>
      obtain ⟨m, r3⟩ := q
      rw [hcut2] at h
      simp only at h
      obtain ⟨A3, n3, c3, rfl, hr3⟩ := h
      have HC := Lib.hid hcut2
      clear hcut2
      go_wp2
      go_ret3
      unfold Cut
      rw [HC.out]
      exact ⟨hb12, _, _, _, rfl, hr3⟩

/-- the number of the error that ReadGamma and ReadDelta hand back; 0: none -/
def rcode (o : Option (List Int)) (bs : List Int) : Int :=
  if 600 < bs.length then 4 else if bs.all (fun x => x == 0 || x == 1) = true then (if o.isSome = true then 0 else 2) else 1
theorem rcode_full {o : Option (List Int)} {bs : List Int} (h : 600 < bs.length) : rcode o bs = 4 := by unfold rcode; rw [if_pos h]
theorem rcode_bad {o : Option (List Int)} {bs : List Int} (h : ¬ 600 < bs.length) (hb : ¬ El.Bits bs) : rcode o bs = 1 := by
  unfold rcode
  rw [if_neg h, if_neg]
  intro h'
  exact hb (by simpa [El.Bits] using h')
theorem rcode_bits {o : Option (List Int)} {bs : List Int} (h : ¬ 600 < bs.length) (hb : El.Bits bs) : rcode o bs = if o.isSome = true then 0 else 2 := by
  unfold rcode
  rw [if_neg h, if_pos]
  simpa [El.Bits] using hb
theorem rcode_zero {o : Option (List Int)} {bs : List Int} (h : rcode o bs = 0) : bs.length ≤ 600 ∧ El.Bits bs ∧ ∃ ns, o = some ns := by
  by_cases h1 : 600 < bs.length
  · rw [rcode_full h1] at h; omega
  · by_cases h2 : El.Bits bs
    · rw [rcode_bits h1 h2] at h
      cases o with
      | none => simp at h
      | some ns => exact ⟨by omega, h2, ns, rfl⟩
    · rw [rcode_bad h1 h2] at h; omega

def ReadPost (w w' : World) (o : Option (List Int)) (bs : List Int) (e : Ending) : Prop :=
  Below w.heap.size w w' ∧ ((rcode o bs ≠ 0 ∧ e = .returned (.tuple #[.slice none 0 0, errv (rcode o bs)])) ∨
    (∃ v ns, rcode o bs = 0 ∧ o = some ns ∧ e = .returned (.tuple #[v, .nilIface]) ∧ Own w' w.heap.size 3 v ns))

def lenOf : Value → Nat
  | .slice _ n _ => n
  | _ => 0

/-- what the reading loop keeps -/
def Reading (cut : List Int → Option (Int × List Int)) (bs : List Int) (rest ns : List Int) : Prop :=
  ∃ f, rest.length ≤ f ∧ El.readAll cut bs.length bs = (El.readAll cut f rest).map (ns ++ ·)
theorem Reading.start (cut : List Int → Option (Int × List Int)) (bs : List Int) : Reading cut bs bs [] := ⟨bs.length, Nat.le_refl _, by simp⟩
theorem Reading.stop {cut : List Int → Option (Int × List Int)} {bs ns : List Int} (h : Reading cut bs [] ns) : El.readAll cut bs.length bs = some ns := by
  obtain ⟨f, _, h⟩ := h
  rw [h, El.readAll_nil]
  simp
theorem Reading.none_ {cut : List Int → Option (Int × List Int)} {bs rest ns : List Int} (h : Reading cut bs rest ns) (hr : 0 < rest.length) (hc : cut rest = none) : El.readAll cut bs.length bs = none := by
  obtain ⟨f, hf, h⟩ := h
  obtain ⟨f, rfl⟩ : ∃ g, f = g + 1 := ⟨f - 1, by omega⟩
  rw [h, El.readAll_step _ _ hr, hc]
  rfl
theorem Reading.some_ {cut : List Int → Option (Int × List Int)} {bs rest ns : List Int} (h : Reading cut bs rest ns) (hr : 0 < rest.length) {m : Int} {r : List Int} (hc : cut rest = some (m, r)) (hl : r.length < rest.length) :
    Reading cut bs r (ns ++ [m]) := by
  obtain ⟨f, hf, h⟩ := h
  obtain ⟨f, rfl⟩ : ∃ g, f = g + 1 := ⟨f - 1, by omega⟩
  refine ⟨f, by omega, ?_⟩
  rw [h, El.readAll_step _ _ hr, hc]
  simp only [Option.map_map]
  congr 1
  funext x
  simp

set_option maxHeartbeats 1000000 in
theorem readAll_any (g : Nat) (hg : g = 37 ∨ g = 30) (cut : List Int → Option (Int × List Int))
    (hcut : ∀ (B : Nat) (A : Option Addr) (l c : Nat) (bs : List Int) (w : World), Rd w B A l c bs → l ≤ 600 → El.Bits bs → Calls Try.prog g #[.slice A l c] w fun e w' => Cut B w w' (cut bs) e)
    (hsome : ∀ (bs : List Int) (m : Int) (r : List Int), El.Bits bs → cut bs = some (m, r) → r.length < bs.length ∧ El.Bits r)
    (A : Option Addr) (n c : Nat) (bs : List Int) (w : World) (hr : Rd w w.heap.size A n c bs) :
    Calls Try.prog 29 #[.slice A n c, .func (.func g) #[] #[]] w fun e w' => ReadPost w w' (El.readAll cut bs.length bs) bs e := by
  have HX := Lib.hid hr.len
  have hbig := hr.big
  have HC := Lib.hid hcut
  have HS := Lib.hid hsome
  clear hcut hsome
  by_cases h6 : 600 < n
  · have hcode : Hid (rcode (El.readAll cut bs.length bs) bs = 4) := rcode_full (by rw [HX.out]; exact h6)
    go_enter Try.func29, Try.ntmps29
    go_wp2_with (go_at_call 36; refine (check_full _ _ _ _ h6 hbig).mono ?_; rintro e w' ⟨rfl, rfl⟩)
    go_ret2
    unfold ReadPost
    rw [hcode.out]
    exact ⟨Below.refl _ _, .inl ⟨by omega, rfl⟩⟩
  · by_cases hbits : El.Bits bs
    · have hchk : Hid (chk bs = .nilIface) := chk_ok hbits
      have hcode : Hid (rcode (El.readAll cut bs.length bs) bs = if (El.readAll cut bs.length bs).isSome = true then 0 else 2) := rcode_bits (by rw [HX.out]; exact h6) hbits
      go_enter Try.func29, Try.ntmps29
      go_wp2_with (go_at_call 36; refine (check_any _ _ _ _ _ hr (by omega)).mono ?_; rintro e w' ⟨rfl, rfl⟩; rw [hchk.out])
      go_loopw [0, 7] (fun s v wr => ∃ (A1 : Option Addr) (l1 c1 : Nat) (rest ns : List Int), s = .slice A1 l1 c1 ∧ Rd wr w.heap.size A1 l1 c1 rest ∧ El.Bits rest ∧ Own wr w.heap.size 3 v ns ∧ ns.length + l1 ≤ 600 ∧
          Below w.heap.size w wr ∧ Reading cut bs rest ns) (fun s _ _ => lenOf s)
      case atStart => exact ⟨A, n, c, bs, [], rfl, hr, hbits, Own.nil _ _ _, by simp; omega, Below.refl _ _, Reading.start _ _⟩
      case round =>
        obtain ⟨A1, l1, c1, rest, ns, rfl, hr1, hbits1, hown, hlen, hbel, hread⟩ := hrel
        have HL := Lib.hid hr1.len
        have hsz := hbel.size
        have hbig1 := hr1.big
        by_cases hpos : 0 < l1
        · cases hcr : cut rest with
          | none =>
            have hfin : Hid (El.readAll cut bs.length bs = none) := hread.none_ (by rw [HL.out]; exact hpos) hcr
            have hcr' := Lib.hid hcr
            clear hcr
            rcases hg with rfl | rfl
            all_goals
              go_wp2_with fail
              refine (HC.out _ _ _ _ _ _ hr1 (by omega) hbits1).mono ?_
              rintro e w1 ⟨hb1, h⟩
              rw [hcr'.out] at h
              simp only at h
              subst h
              go_wp2
              go_ret2
              unfold ReadPost
              rw [hcode.out, hfin.out]
              exact ⟨hbel.trans (hb1.mono hsz), .inl ⟨by simp, rfl⟩⟩
          | some q =>
            obtain ⟨m, r⟩ := q
            obtain ⟨hrl, hrb⟩ := HS.out _ _ _ hbits1 hcr
            have hread2 := hread.some_ (by rw [HL.out]; exact hpos) hcr hrl
            rw [HL.out] at hrl
            have hcr' := Lib.hid hcr
            clear hcr
            rcases hg with rfl | rfl
            all_goals
              go_wp2_with fail
              refine (HC.out _ _ _ _ _ _ hr1 (by omega) hbits1).mono ?_
              rintro e w1 ⟨hb1, h⟩
              rw [hcr'.out] at h
              simp only at h
              obtain ⟨A2, n2, c2, rfl, hr2⟩ := h
              have HL2 := Lib.hid hr2.len
              have hn2 : n2 < l1 := by have := HL2.out; omega
              have hbw1 : Below w.heap.size w w1 := hbel.trans (hb1.mono hsz)
              have hsz1 := hbw1.size
              have hown1 := hown.below hb1
              go_wp2_with (at_builtin; refine wpList_app _ rfl (.tmp 29) (.tmp 31) _ rfl w.heap.size 3 Try.underlying31 intInfo _ ns rfl (hown1.below ((Below.refl _ _).alloc (Nat.le_refl _) _)) (some ⟨w1.heap.size, 0, none⟩) 1 1 [m] rfl (Rd.one _ _ _) (by omega) (by simp; omega) ?_; intro v3 w3 hown3 hg3 hat3)
              have hb3 := below_app (hbw1.alloc hsz1 _) (hown1.below ((Below.refl _ _).alloc (Nat.le_refl _) _)) hg3 (by simp; omega)
              have hb13 := below_app ((Below.refl w.heap.size w1).alloc hsz1 _) (hown1.below ((Below.refl _ _).alloc (Nat.le_refl _) _)) hg3 (by simp; omega)
              go_roundw
              case rel => exact ⟨A2, n2, c2, r, ns ++ [m], rfl, hr2.below hb13, hrb, hown3, by simp; omega, hb3, hread2⟩
              case measure => simp [lenOf]; omega
        · obtain rfl : l1 = 0 := by omega
          have hrest : rest = [] := List.eq_nil_of_length_eq_zero HL.out
          subst hrest
          have hfin := Lib.hid hread.stop
          go_wp2
          go_ret2
          unfold ReadPost
          rw [hcode.out, hfin.out]
          exact ⟨hbel, .inr ⟨_, ns, rfl, rfl, rfl, hown⟩⟩
    · have hchk : Hid (chk bs = errv 1) := chk_bad hbits
      have hcode : Hid (rcode (El.readAll cut bs.length bs) bs = 1) := rcode_bad (by rw [HX.out]; exact h6) hbits
      go_enter Try.func29, Try.ntmps29
      go_wp2_with (go_at_call 36; refine (check_any _ _ _ _ _ hr (by omega)).mono ?_; rintro e w' ⟨rfl, rfl⟩; rw [hchk.out])
      go_ret2
      unfold ReadPost
      rw [hcode.out]
      exact ⟨Below.refl _ _, .inl ⟨by omega, rfl⟩⟩

theorem ReadDelta_any (A : Option Addr) (n c : Nat) (bs : List Int) (w : World) (hr : Rd w w.heap.size A n c bs) :
    Calls Try.prog 18 #[.slice A n c] w fun e w' => ReadPost w w' (El.readD bs) bs e := by
  have hc := readAll_any _ (.inr rfl) El.cutDl (fun _ A l c bs w h1 h2 h3 => cutDelta_any A l c bs w h1 h2 h3) (fun bs m r hb h => ⟨(El.cutDl_some hb h).2.2.2.1, (El.cutDl_some hb h).2.2.2.2⟩) A n c bs w hr
  have HC := Lib.hid hc
  clear hc
  go_enter Try.func18, Try.ntmps18
  go_wp2_with fail
  refine HC.out.mono ?_
  rintro e w1 ⟨hb1, ⟨h0, rfl⟩ | ⟨v, ns, h0, h1, rfl, hown⟩⟩
  · have H0 := Lib.hid h0
    clear h0
    go_wp2
    go_ret2
    exact ⟨hb1, .inl ⟨H0.out, rfl⟩⟩
  · have H0 := Lib.hid h0
    have H1 := Lib.hid h1
    clear h0 h1
    go_wp2
    go_ret2
    exact ⟨hb1, .inr ⟨v, ns, H0.out, H1.out, rfl, hown⟩⟩

end Go.Proofs.Ytghdallaohpelaa
