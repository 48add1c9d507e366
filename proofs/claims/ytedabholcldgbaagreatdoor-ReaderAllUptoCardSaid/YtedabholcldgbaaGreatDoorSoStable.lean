/- slices.stableCmpFunc, SortStableFunc at forms and reader.Compare. -/
import Derived.Test.YtedabholcldgbaaGreatDoorSoSym
namespace Go.Proofs.YtedabholcldgbaaGreatDoor.So
open Go.RowKit Go.Deep Go.Sort Go.Shelf

theorem symMerge_any (w0 : World) (g n cap : Nat) (hn : n ≤ 4611686018427387903) : ∀ (N : Nat) (W : World) (a m b : Nat) (e : Nat → T) (d : Array T), b - a < N → Is d n e → Hd w0 W g d → AllF w0 g n e → a < m → m < b → b ≤ n → Sorted e a m → Sorted e m b → SymOk w0 g n cap a m b e W := by
  intro N
  induction N with
  | zero => intro W a m b e d h; omega
  | succ N ih =>
    intro W a m b e d hN hI hH hF ham hmb hb hs1 hs2
    by_cases c1 : m = a + 1
    · exact merge1_any w0 W g n cap a m b e d hI hH hF c1 hmb hb (by omega) hs2
    · by_cases c2 : b = m + 1
      · exact merge2_any w0 W g n cap a m b e d hI hH hF (by omega) c2 hb (by omega) hs1
      · exact symMerge_step w0 W g n cap a m b e d hI hH hF (by omega) (by omega) hb hn hs1 hs2
          fun W a' m' b' e' d' hlt h1 h2 h3 h4 h5 h6 h7 h8 => ih W a' m' b' e' d' (by omega) h1 h2 h3 h4 h5 h6 h7 h8
def Mult (s q : Nat) : Prop := ∃ k, q = k * s
theorem mult_zero (s : Nat) : Mult s 0 := ⟨0, by omega⟩
theorem Mult.next {s q : Nat} (h : Mult s q) : Mult s (q + s) := by
  obtain ⟨k, rfl⟩ := h
  exact ⟨k + 1, by rw [Nat.add_mul, Nat.one_mul]⟩
theorem Mult.half {s q : Nat} (h : Mult (2 * s) q) : Mult s q := by
  obtain ⟨k, rfl⟩ := h
  exact ⟨k * 2, by rw [Nat.mul_assoc]⟩
theorem Mult.cmp {s q a : Nat} (h : Mult s q) (h' : Mult s a) (hlt : q < a) : q + s ≤ a := by
  obtain ⟨k, rfl⟩ := h
  obtain ⟨j, rfl⟩ := h'
  have hkj : k < j := Nat.lt_of_mul_lt_mul_right hlt
  have := Nat.mul_le_mul_right s (show k + 1 ≤ j from hkj)
  rwa [Nat.add_mul, Nat.one_mul] at this
/-- All stretches of s that end by a are sorted. -/
def Done (e : Nat → T) (a s : Nat) : Prop := ∀ q, Mult s q → q + s ≤ a → Sorted e q (q + s)
/-- All stretches of s from a on are sorted, as far as n. -/
def Left (e : Nat → T) (n a s : Nat) : Prop := ∀ q, Mult s q → a ≤ q → ∀ x y, q ≤ x → x < y → y < q + s → y < n → cT (e x) (e y) ≤ 0
theorem Done.more {e e' : Nat → T} {a s : Nat} (h : Done e a s) (ha : Mult s a) (hs : SameR e e' a (a + s)) (ho : Sorted e' a (a + s)) : Done e' (a + s) s := fun q hq hqa => by
  by_cases c : q = a
  · subst c; exact ho
  · have hlt : q < a := by omega
    have := hq.cmp ha hlt
    exact (h q hq this).congr fun x _ h2 => hs.far x (by omega)
theorem Done.all {e e' : Nat → T} {n a s : Nat} (h : Done e a s) (ha : Mult s a) (_hn : n < a + s) (hs : SameR e e' a n) (ho : Sorted e' a n) : Left e' n 0 s := fun q hq _ x y h1 h2 h3 h4 => by
  by_cases c : q < a
  · have := hq.cmp ha c
    rw [hs.far x (by omega), hs.far y (by omega)]
    exact h q hq this x y h1 h2 h3
  · exact ho x y (by omega) h2 h4
theorem Left.next {e e' : Nat → T} {n a s b : Nat} (h : Left e n a s) (hb : b = a + 2 * s) (hs : SameR e e' a b) : Left e' n b s := fun q hq hqa x y h1 h2 h3 h4 => by
  rw [hs.far x (by omega), hs.far y (by omega)]
  exact h q hq (by omega) x y h1 h2 h3 h4
theorem Left.two {e : Nat → T} {n a s : Nat} (h : Left e n a s) (ha : Mult s a) (hb : a + 2 * s ≤ n) : Sorted e a (a + s) ∧ Sorted e (a + s) (a + 2 * s) :=
  ⟨fun x y h1 h2 h3 => h a ha (Nat.le_refl _) x y h1 h2 h3 (by omega), fun x y h1 h2 h3 => h (a + s) ha.next (by omega) x y h1 h2 (by omega) (by omega)⟩
theorem Left.end2 {e : Nat → T} {n a s : Nat} (h : Left e n a s) (ha : Mult s a) (hm : a + s < n) (hb : n < a + 2 * s) : Sorted e a (a + s) ∧ Sorted e (a + s) n :=
  ⟨fun x y h1 h2 h3 => h a ha (Nat.le_refl _) x y h1 h2 h3 (by omega), fun x y h1 h2 h3 => h (a + s) ha.next (by omega) x y h1 h2 (by omega) h3⟩
theorem Left.end1 {e : Nat → T} {n a s : Nat} (h : Left e n a s) (ha : Mult s a) (hm : n ≤ a + s) : Sorted e a n :=
  fun x y h1 h2 h3 => h a ha (Nat.le_refl _) x y h1 h2 (by omega) h3
theorem Left.whole {e : Nat → T} {n s : Nat} (h : Left e n 0 s) (hs : n ≤ s) : Sorted e 0 n := fun x y h1 h2 h3 => h 0 (mult_zero s) (Nat.le_refl _) x y h1 h2 (by omega) h3
set_option linter.unusedSimpArgs false in
set_option maxHeartbeats 8000000 in
set_option maxRecDepth 1000000 in
theorem stable_any (w0 W : World) (g n cap : Nat) (e : Nat → T) (d : Array T) (hd : Is d n e) (h : Hd w0 W g d) (hf : AllF w0 g n e) (hn : n ≤ 1000000000000000) :
    Calls Tryz.prog 64 #[.slice (some ⟨g, 0, none⟩) n cap, .int .i64 n, CF] W fun en w' => en = .returned (.tuple #[]) ∧ ∃ d' e', Is d' n e' ∧ SameR e e' 0 n ∧ Sorted e' 0 n ∧ Hd w0 w' g d' := by
  have HD := Lib.hid hd
  have H := Lib.hid h
  have HF := Lib.hid hf
  clear hd h hf
  have HINS := Lib.hid fun (W : World) (a b : Nat) (e' : Nat → T) (d' : Array T) (h1 : Is d' n e') (h2 : Hd w0 W g d') (h3 : SameR e e' 0 n) (h4 : a ≤ b) (h5 : b ≤ n) => insertion_any w0 W g n cap a b e' d' h1 h2 (HF.out.same h3 (Nat.le_refl _)) h4 h5 (by omega)
  have HSYM := Lib.hid fun (W : World) (a m b : Nat) (e' : Nat → T) (d' : Array T) (h1 : Is d' n e') (h2 : Hd w0 W g d') (h3 : SameR e e' 0 n) (h4 : a < m) (h5 : m < b) (h6 : b ≤ n) (h7 : Sorted e' a m) (h8 : Sorted e' m b) => symMerge_any w0 g n cap (by omega) (b - a + 1) W a m b e' d' (by omega) h1 h2 (HF.out.same h3 (Nat.le_refl _)) h4 h5 h6 h7 h8
  go_enter Tryz.func64, Tryz.ntmps64
  go_wp2_with fail
  go_loopg [7, 8] (n + 20) (fun q va vb wr => ∃ (a : Nat) (dk : Array T) (ek : Nat → T), va = .int .i64 a ∧ vb = .int .i64 ((a + 20 : Nat) : Int) ∧ a ≤ n ∧ q = n + 20 - a ∧ Hid (Mult 20 a) ∧ Is dk n ek ∧ SameR e ek 0 n ∧ Done ek a 20 ∧ Hd w0 wr g dk)
  case atStart => exact ⟨0, d, e, rfl, rfl, by omega, by omega, Lib.hid (mult_zero 20), HD.out, SameR.refl _ _ _, fun q _ h => by omega, H.out⟩
  case round =>
    obtain ⟨a, dk, ek, rfl, rfl, han, rfl, hM, hI, hS, hO, hH⟩ := hrel
    have HI := Lib.hid hI
    have HS := Lib.hid hS
    have HO := Lib.hid hO
    have HH := Lib.hid hH
    clear hI hS hO hH
    obtain ⟨b, hb⟩ : ∃ b, a + 20 = b := ⟨_, rfl⟩
    rw [hb]
    by_cases hlt : b ≤ n
    · have gb : (b : Int) ≤ (n : Int) := by omega
      have HC := Lib.hid (HINS.out _ a b ek dk HI.out HH.out HS.out (by omega) hlt)
      obtain ⟨c, hc⟩ : ∃ c, b + 20 = c := ⟨_, rfl⟩
      have g20 : ((b : Int) + 20) = (c : Int) := by omega
      have gc2 : c ≤ 2000000000000000 := by omega
      have HCQ := Lib.hid hc
      have HB := Lib.hid hb
      clear hb hc
      go_wp2_with (go_at_call 96; (with_reducible refine HC.out.mono ?_); rintro en w2 ⟨rfl, d2, e2, h1, h2, h3, h4⟩; have H1 := Lib.hid h1; have H2 := Lib.hid h2; have H3 := Lib.hid h3; have H4 := Lib.hid h4; clear h1 h2 h3 h4)
      go_roundg (n + 20 - b)
      case measure => have := HB.out; omega
      case rel =>
        have hbb := HB.out
        refine ⟨b, d2, e2, rfl, by rw [HCQ.out], hlt, rfl, Lib.hid (by rw [← hbb]; exact hM.out.next), H1.out, HS.out.trans (H2.out.wide (by omega) hlt), ?_, H4.out⟩
        have := HO.out.more hM.out (e' := e2) (by rw [hbb]; exact H2.out) (by rw [hbb]; exact H3.out)
        rwa [hbb] at this
    · have gb : ¬ (b : Int) ≤ (n : Int) := by omega
      have HC := Lib.hid (HINS.out _ a n ek dk HI.out HH.out HS.out han (Nat.le_refl _))
      have HB := Lib.hid hb
      clear hb
      go_wp2_with (go_at_call 96; (with_reducible refine HC.out.mono ?_); rintro en w2 ⟨rfl, d2, e2, h1, h2, h3, h4⟩; have H1 := Lib.hid h1; have H2 := Lib.hid h2; have H3 := Lib.hid h3; have H4 := Lib.hid h4; clear h1 h2 h3 h4)
      go_loopg [6] (n + 20) (fun q vs wr => ∃ (s : Nat) (dk : Array T) (ek : Nat → T), vs = .int .i64 s ∧ 20 ≤ s ∧ s ≤ 2 * n + 40 ∧ q = n + 40 - s ∧ Is dk n ek ∧ SameR e ek 0 n ∧ Left ek n 0 s ∧ Hd w0 wr g dk)
      case atStart =>
        have hbb := HB.out
        exact ⟨20, d2, e2, rfl, by omega, by omega, by omega, H1.out, HS.out.trans (H2.out.wide (by omega) (Nat.le_refl _)), HO.out.all hM.out (by omega) H2.out H3.out, H4.out⟩
      case round =>
        obtain ⟨s, dj, ej, rfl, hs1, hs2, rfl, hI2, hS2, hL, hH2⟩ := hrel
        have HI2 := Lib.hid hI2
        have HS2 := Lib.hid hS2
        have HL := Lib.hid hL
        have HH2 := Lib.hid hH2
        clear hI2 hS2 hL hH2
        by_cases hsn : s < n
        · have gs : (s : Int) < (n : Int) := by omega
          obtain ⟨t, ht⟩ : ∃ t, 2 * s = t := ⟨_, rfl⟩
          have gt : (2 * (s : Int)) = (t : Int) := by omega
          have gt2 : ((s : Int) * 2) = (t : Int) := by omega
          go_wp2_with fail
          go_loopg [7, 8] (n + t) (fun q va vb wr => ∃ (a' : Nat) (dm : Array T) (em : Nat → T), va = .int .i64 a' ∧ vb = .int .i64 ((a' + t : Nat) : Int) ∧ a' ≤ n ∧ q = n + t - a' ∧ Hid (Mult t a') ∧ Is dm n em ∧ SameR e em 0 n ∧ Done em a' t ∧ Left em n a' s ∧ Hd w0 wr g dm)
          case atStart => exact ⟨0, dj, ej, rfl, by simp, by omega, by omega, Lib.hid (mult_zero t), HI2.out, HS2.out, fun q _ h => by omega, HL.out, HH2.out⟩
          case round =>
            obtain ⟨a', dm, em, rfl, rfl, han', rfl, hM2, hI3, hS3, hO3, hL3, hH3⟩ := hrel
            have HI3 := Lib.hid hI3
            have HS3 := Lib.hid hS3
            have HO3 := Lib.hid hO3
            have HL3 := Lib.hid hL3
            have HH3 := Lib.hid hH3
            have HMS : Hid (Mult s a') := Lib.hid (by have := hM2.out; rw [← ht] at this; exact this.half)
            clear hI3 hS3 hO3 hL3 hH3
            obtain ⟨b', hb'⟩ : ∃ b', a' + t = b' := ⟨_, rfl⟩
            obtain ⟨m', hm'⟩ : ∃ m', a' + s = m' := ⟨_, rfl⟩
            have gm : ((a' : Int) + (s : Int)) = (m' : Int) := by omega
            rw [hb']
            by_cases hlt2 : b' ≤ n
            · have gb2 : (b' : Int) ≤ (n : Int) := by omega
              have hso := HL3.out.two HMS.out (by omega)
              rw [ht, hb', hm'] at hso
              have HC2 := Lib.hid (show Calls _ _ _ _ _ from HSYM.out _ a' m' b' em dm HI3.out HH3.out HS3.out (by omega) (by omega) hlt2 hso.1 hso.2)
              obtain ⟨c, hc⟩ : ∃ c, b' + t = c := ⟨_, rfl⟩
              have gbt : ((b' : Int) + (t : Int)) = (c : Int) := by omega
              have gc2 : c ≤ 9000000000000000 := by omega
              have HCQ := Lib.hid hc
              have HB2 := Lib.hid hb'
              have HT2 := Lib.hid ht
              clear hb' ht hso hm' hc
              go_wp2_with (go_at_call 97; (with_reducible refine HC2.out.mono ?_); rintro en w3 ⟨rfl, d3, e3, h1, h2, h3, h4⟩; have K1 := Lib.hid h1; have K2 := Lib.hid h2; have K3 := Lib.hid h3; have K4 := Lib.hid h4; clear h1 h2 h3 h4)
              go_roundg (n + t - b')
              case measure => have := HB2.out; have := HT2.out; omega
              case rel =>
                have hbb := HB2.out
                have htt := HT2.out
                refine ⟨b', d3, e3, rfl, by rw [HCQ.out], hlt2, rfl, Lib.hid (by rw [← hbb]; exact hM2.out.next), K1.out, HS3.out.trans (K2.out.wide (by omega) hlt2), ?_, HL3.out.next (by omega) K2.out, K4.out⟩
                have := HO3.out.more hM2.out (e' := e3) (by rw [hbb]; exact K2.out) (by rw [hbb]; exact K3.out)
                rwa [hbb] at this
            · have gb2 : ¬ (b' : Int) ≤ (n : Int) := by omega
              by_cases hmn : m' < n
              · have gmn : (m' : Int) < (n : Int) := by omega
                have hso := HL3.out.end2 HMS.out (by omega) (by omega)
                rw [hm'] at hso
                have HC2 := Lib.hid (show Calls _ _ _ _ _ from HSYM.out _ a' m' n em dm HI3.out HH3.out HS3.out (by omega) hmn (Nat.le_refl _) hso.1 hso.2)
                have HB2 := Lib.hid hb'
                have HT2 := Lib.hid ht
                clear hb' ht hso hm'
                go_wp2_with (go_at_call 97; (with_reducible refine HC2.out.mono ?_); rintro en w3 ⟨rfl, d3, e3, h1, h2, h3, h4⟩; have K1 := Lib.hid h1; have K2 := Lib.hid h2; have K3 := Lib.hid h3; have K4 := Lib.hid h4; clear h1 h2 h3 h4)
                go_roundg (n + 40 - t)
                case measure => have := HT2.out; omega
                case rel =>
                  have htt := HT2.out
                  have hbb := HB2.out
                  exact ⟨t, d3, e3, rfl, by omega, by omega, rfl, K1.out, HS3.out.trans (K2.out.wide (by omega) (Nat.le_refl _)), HO3.out.all hM2.out (by omega) K2.out K3.out, K4.out⟩
              · have gmn : ¬ (m' : Int) < (n : Int) := by omega
                have HB2 := Lib.hid hb'
                have HT2 := Lib.hid ht
                have HSO := Lib.hid (HL3.out.end1 HMS.out (by omega))
                clear hb' ht hm'
                go_wp2_with fail
                go_roundg (n + 40 - t)
                case measure => have := HT2.out; omega
                case rel =>
                  have htt := HT2.out
                  have hbb := HB2.out
                  exact ⟨t, dm, em, rfl, by omega, by omega, rfl, HI3.out, HS3.out, HO3.out.all hM2.out (by omega) (SameR.refl _ _ _) HSO.out, HH3.out⟩
        · have gs : ¬ (s : Int) < (n : Int) := by omega
          go_wp2_with fail
          go_end0
          exact ⟨rfl, dj, ej, HI2.out, HS2.out, HL.out.whole (by omega), HH2.out⟩
end Go.Proofs.YtedabholcldgbaaGreatDoor.So
