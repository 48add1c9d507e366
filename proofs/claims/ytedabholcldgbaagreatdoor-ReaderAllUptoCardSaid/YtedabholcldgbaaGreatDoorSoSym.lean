/- slices.symMergeCmpFunc at forms. -/
import Derived.Test.YtedabholcldgbaaGreatDoorSoSym0
namespace Go.Proofs.YtedabholcldgbaaGreatDoor.So
open Go.RowKit Go.Deep Go.Sort Go.Shelf

/-- What symMerge does. -/
abbrev SymOk (w0 : World) (g n cap a m b : Nat) (e : Nat → T) (W : World) : Prop :=
  Calls Tryz.prog 97 #[.slice (some ⟨g, 0, none⟩) n cap, .int .i64 a, .int .i64 m, .int .i64 b, CF] W fun en w' => en = .returned (.tuple #[]) ∧ ∃ d' e', Is d' n e' ∧ SameR e e' a b ∧ Sorted e' a b ∧ Hd w0 w' g d'
set_option linter.unusedSimpArgs false in
set_option maxHeartbeats 16000000 in
set_option maxRecDepth 1000000 in
theorem symMerge_step (w0 W : World) (g n cap a m b : Nat) (e : Nat → T) (d : Array T) (hd : Is d n e) (h : Hd w0 W g d) (hf : AllF w0 g n e) (ham : a + 1 < m) (hmb : m + 1 < b) (hb : b ≤ n) (hn : n ≤ 4611686018427387903) (hsa : Sorted e a m) (hsb : Sorted e m b)
    (ih : ∀ (W : World) (a' m' b' : Nat) (e' : Nat → T) (d' : Array T), b' - a' < b - a → Is d' n e' → Hd w0 W g d' → AllF w0 g n e' → a' < m' → m' < b' → b' ≤ n → Sorted e' a' m' → Sorted e' m' b' → SymOk w0 g n cap a' m' b' e' W) : SymOk w0 g n cap a m b e W := by
  have HD := Lib.hid hd
  have H := Lib.hid h
  have HF := Lib.hid hf
  have HSA := Lib.hid hsa
  have HSB := Lib.hid hsb
  have IH := Lib.hid ih
  clear hd h hf hsa hsb ih
  have HROT := Lib.hid fun (W : World) (i j k : Nat) (h1 : i < j) (h2 : j < k) (h3 : k ≤ n) (hH : Hd w0 W g d) => rotate_any w0 W g n cap i j k e d HD.out hH h1 h2 h3 (by omega) CF
  have mixed : Tryz.prog.follows .mixedOrders = true := by kernel_rfl
  have aE := Tryz.isAgg29
  obtain ⟨k4, hk4⟩ : ∃ k4 : Nat, k4 = 4 := ⟨_, rfl⟩
  have zE := Tryz.sizeOf29
  rw [← hk4] at zE
  have HK4 := Lib.hid hk4
  clear hk4
  have aI := Tryz.isAgg3
  have zI := Tryz.sizeOf3
  have g1 : (((m : Int) - (a : Int)) == 1) = false := by simp; omega
  have g2 : (((b : Int) - (m : Int)) == 1) = false := by simp; omega
  obtain ⟨mid, hmid⟩ : ∃ mid, (a + b) / 2 = mid := ⟨_, rfl⟩
  have gmid : (((a : Int) + (b : Int)) / 2) = (mid : Int) := by omega
  obtain ⟨nn, hnn⟩ : ∃ nn, mid + m = nn := ⟨_, rfl⟩
  have gnn : ((mid : Int) + (m : Int)) = (nn : Int) := by omega
  have gnn2 : (nn : Int) ≤ 9223372036854775806 := by omega
  obtain ⟨pp, hpp⟩ : ∃ pp, nn - 1 = pp := ⟨_, rfl⟩
  have gpp : ((nn : Int) - 1) = (pp : Int) := by omega
  obtain ⟨lo, hi, hlh, LH⟩ : ∃ lo hi, ((m ≤ mid ∧ lo = a ∧ hi = m) ∨ (mid < m ∧ lo = mid + m - b ∧ hi = mid)) ∧ True := by
    by_cases hc : m ≤ mid
    · exact ⟨a, m, .inl ⟨hc, rfl, rfl⟩, trivial⟩
    · exact ⟨mid + m - b, mid, .inr ⟨by omega, rfl, rfl⟩, trivial⟩
  clear LH
  -- the search, the exchange, the halves
  have REST : Hid (∀ (Q : Exit → Act → World → Prop) (s : Nat), True) := Lib.hid fun _ _ => trivial
  clear REST
  rcases hlh with ⟨hc, hlo9, hhi9⟩ | ⟨hc, hlo9, hhi9⟩
  · have gm : ¬ (mid : Int) < (m : Int) := by omega
    have hlh : (m ≤ mid ∧ lo = a ∧ hi = m) ∨ (mid < m ∧ lo = mid + m - b ∧ hi = mid) := .inl ⟨hc, hlo9, hhi9⟩
    go_enter Tryz.func97, Tryz.ntmps97
    go_wp2_with fail
    go_loopg [20, 21] (hi - lo) (fun q vs vr wr => ∃ (s r : Nat), vs = .int .i64 s ∧ vr = .int .i64 r ∧ lo ≤ s ∧ s ≤ r ∧ r ≤ hi ∧ q = r - s ∧ (∀ x, lo ≤ x → x < s → 0 ≤ cT (e (mid + m - 1 - x)) (e x)) ∧ (∀ x, r ≤ x → x < hi → cT (e (mid + m - 1 - x)) (e x) < 0) ∧ Hd w0 wr g d)
    case atStart => exact ⟨lo, hi, by rw [hlo9], by rw [hhi9], Nat.le_refl _, by omega, Nat.le_refl _, rfl, fun x _ _ => by omega, fun x _ _ => by omega, H.out⟩
    case round =>
      obtain ⟨s, r, rfl, rfl, hs1, hsr, hr1, rfl, hlo, hhi, hH⟩ := hrel
      have HLO := Lib.hid hlo
      have HHI := Lib.hid hhi
      have HH := Lib.hid hH
      clear hlo hhi hH
      by_cases hlt : s < r
      · have gs : (s : Int) < (r : Int) := by omega
        obtain ⟨c, hc⟩ : ∃ c, (s + r) / 2 = c := ⟨_, rfl⟩
        have gc : (((s : Int) + (r : Int)) / 2) = (c : Int) := by omega
        obtain ⟨pc, hpc⟩ : ∃ pc, pp - c = pc := ⟨_, rfl⟩
        have hc1 : s ≤ c := by omega
        have hc2 : c < r := by omega
        have hcm : a ≤ c ∧ c < m ∧ m ≤ pc ∧ pc < b ∧ c ≤ pp := by omega
        have gpc : ((pp : Int) - (c : Int)) = (pc : Int) := by omega
        have hwp : IntKind.i64.wrap (pc : Int) = (pc : Int) := by rw [IntKind.wrap_i64]; omega
        have hwp2 : IntKind.i64.wrap ((pp : Int) - (c : Int)) = (pc : Int) := by rw [IntKind.wrap_i64]; omega
        have gc1 : (c : Int) < (n : Int) := by omega
        have gc0 : (0 : Int) ≤ (c : Int) := by omega
        have gp1 : (pc : Int) < (n : Int) := by omega
        have gp0 : (0 : Int) ≤ (pc : Int) := by omega
        have hcn : c < n := by omega
        have hpn : pc < n := by omega
        have hcmp := HH.out.compare HD.out HF.out hpn hcn
        have hmv := fun (W' : World) (hB : Below _ _ W') => (HH.out.next hB).moves (i := pc) (j := c) (by rw [HD.out.1]; omega) (by rw [HD.out.1]; omega)
        obtain ⟨cJ, hcJ⟩ : ∃ x, x = encT d[c]! := ⟨_, rfl⟩
        obtain ⟨cP, hcP⟩ : ∃ x, x = encT d[pc]! := ⟨_, rfl⟩
        rw [← hcJ, ← hcP] at hcmp
        simp only [← hcJ, ← hcP] at hmv
        simp only [← HK4.out] at hmv
        have LD := Lib.hid fun (W' : World) (hB : Below _ _ W') => (⟨(hmv W' hB).2.1, (hmv W' hB).1⟩ : Sem.run Tryz.prog (loadCellsFrom ⟨g, pc * k4, none⟩ 0 k4 #[]) W' = .ok cP.toArray W' ∧ Sem.run Tryz.prog (loadCellsFrom ⟨g, c * k4, none⟩ 0 k4 #[]) W' = .ok cJ.toArray W')
        have HC := Lib.hid hcmp
        obtain ⟨cc, hcc⟩ : ∃ cc, cT (e pc) (e c) = cc := ⟨_, rfl⟩
        rw [hcc] at HC
        have HCC := Lib.hid hcc
        have HPC : Hid (∀ x, pc = mid + m - 1 - c) := Lib.hid fun _ : Nat => by omega
        have HNUM := Lib.hid hcm
        clear hcJ hcP hcc hmv hcmp hc hpc hcm
        by_cases hlv : cc < 0
        · go_wp2_with fail
          go_region_held3 (fun w' => Sem.run Tryz.prog (loadCellsFrom ⟨g, pc * k4, none⟩ 0 k4 #[]) w' = .ok cP.toArray w' ∧ Sem.run Tryz.prog (loadCellsFrom ⟨g, c * k4, none⟩ 0 k4 #[]) w' = .ok cJ.toArray w')
            (first
              | exact LD.out _ (Below.refl _ _).drew
              | exact LD.out _ HB2.out)
            (first
              | (go_at_call 36; refine (HC.out _ (Below.refl _ _).drew).mono ?_; rintro en w2 ⟨rfl, hB⟩; have HB2 := Lib.hid (up (Below.refl _ _).drew hB); clear hB))
          go_wp2_with fail
          go_roundg (c - s)
          case measure => omega
          case rel =>
            refine ⟨s, c, rfl, rfl, hs1, hc1, by omega, rfl, HLO.out, fun x hx1 hx2 => ?_, HH.out.next HB2.out⟩
            have h2 := HCC.out
            have hp := HPC.out 0
            have hq := HNUM.out
            by_cases hx : x = c
            · rw [hx, ← hp, h2]; exact hlv
            · rcases Int.lt_or_le (cT (e (mid + m - 1 - x)) (e x)) 0 with h3 | h3
              · exact h3
              · exfalso
                have h4 : cT (e x) (e (mid + m - 1 - x)) ≤ 0 := by rw [cT_anti]; omega
                have h5 : cT (e c) (e x) ≤ 0 := HSA.out.le (by omega) (by omega) (by omega)
                have h6 : cT (e (mid + m - 1 - x)) (e pc) ≤ 0 := HSB.out.le (by omega) (by omega) (by omega)
                have h7 := cT_trans h5 (cT_trans h4 h6)
                rw [cT_anti] at h7
                omega
        · have hlv' : ¬ cc < 0 := hlv
          have dcc : decide (cc < 0) = false := by simp; omega
          go_wp2_with fail
          go_region_held3 (fun w' => Sem.run Tryz.prog (loadCellsFrom ⟨g, pc * k4, none⟩ 0 k4 #[]) w' = .ok cP.toArray w' ∧ Sem.run Tryz.prog (loadCellsFrom ⟨g, c * k4, none⟩ 0 k4 #[]) w' = .ok cJ.toArray w')
            (first
              | exact LD.out _ (Below.refl _ _).drew
              | exact LD.out _ HB2.out)
            (first
              | (go_at_call 36; refine (HC.out _ (Below.refl _ _).drew).mono ?_; rintro en w2 ⟨rfl, hB⟩; have HB2 := Lib.hid (up (Below.refl _ _).drew hB); clear hB))
          go_wp2_with fail
          go_roundg (r - (c + 1))
          case measure => omega
          case rel =>
            refine ⟨c + 1, r, by go_num, rfl, by omega, by omega, hr1, rfl, fun x hx1 hx2 => ?_, HHI.out, HH.out.next HB2.out⟩
            have h2 := HCC.out
            have hp := HPC.out 0
            have hq := HNUM.out
            have h4 : cT (e c) (e pc) ≤ 0 := by rw [cT_anti]; omega
            have h5 : cT (e x) (e c) ≤ 0 := HSA.out.le (by omega) (by omega) (by omega)
            have h6 : cT (e pc) (e (mid + m - 1 - x)) ≤ 0 := HSB.out.le (by omega) (by omega) (by omega)
            have h7 := cT_trans h5 (cT_trans h4 h6)
            rw [cT_anti] at h7
            omega
      · have gs : ¬ (s : Int) < (r : Int) := by omega
        obtain rfl : s = r := by omega
        have CUT : Cut e a m b mid lo hi s := ⟨hmid.symm, by omega, by omega, hlh, HSA.out, HSB.out, hs1, hr1, HLO.out, HHI.out⟩
        obtain ⟨n1, n2, n3, n4, n5, n6, n7⟩ := CUT.nums
        obtain ⟨q1, q2, q3, q4⟩ := CUT.parts
        have hsame := rot_same e n1 n2 n5 n4
        obtain ⟨t, ht⟩ : ∃ t, mid + m - s = t := ⟨_, rfl⟩
        have gt : ((nn : Int) - (s : Int)) = (t : Int) := by omega
        have hrot := rot_none e (s := s) (m := m) (t := t) n2 (by omega)
        rw [ht] at n4 n5 q1 q2 q3 q4 hsame
        obtain ⟨E, hE⟩ : ∃ E, rotF e s m t = E := ⟨_, rfl⟩
        have hclose := fun (e2 e3 : Nat → T) => CUT.close (e2 := e2) (e3 := e3)
        rw [ht] at hclose
        rw [hE] at q1 q2 q3 q4 hsame hrot hclose
        have HCL := Lib.hid hclose
        have HAF := Lib.hid (HF.out.same hsame hb)
        have HE := Lib.hid hE
        have HS1 := Lib.hid fun (W : World) (d' : Array T) (hI : Is d' n E) (hH : Hd w0 W g d') (h1 : a < s) (h2 : s < mid) => IH.out W a s mid E d' (by omega) hI hH HAF.out h1 h2 (by omega) q1 q2
        have HS2 := Lib.hid fun (W : World) (e2 : Nat → T) (d' : Array T) (hI : Is d' n e2) (hH : Hd w0 W g d') (hs : SameR E e2 a mid) (h1 : mid < t) (h2 : t < b) => IH.out W mid t b e2 d' (by omega) hI hH (HAF.out.same hs (by omega)) h1 h2 hb
          (q3.congr fun x _ _ => hs.far x (by omega)) (q4.congr fun x _ _ => hs.far x (by omega))
        have HQ := Lib.hid (⟨q1, q2, q3, q4⟩ : Sorted E a s ∧ Sorted E s mid ∧ Sorted E mid t ∧ Sorted E t b)
        have HR0 := Lib.hid hrot
        have HNN : Hid (s ≤ m ∧ m ≤ t ∧ t ≤ b ∧ a ≤ s ∧ s ≤ mid ∧ a < mid ∧ mid < b) := Lib.hid ⟨n2, n5, n4, n1, n3, n6, n7⟩
        clear CUT q1 q2 q3 q4 hsame hrot hE hclose n1 n2 n3 n4 n5 n6 n7 ht
        by_cases hR : s < m ∧ m < t
        · obtain ⟨r1, r2⟩ := hR
          have k1 : (s : Int) < (m : Int) := by omega
          have k2 : (m : Int) < (t : Int) := by omega
          have HRC := Lib.hid (HROT.out _ s m t r1 r2 (by have := HNN.out; omega) HH.out)
          clear r1 r2
          by_cases hA : a < s ∧ s < mid
          · obtain ⟨a1, a2⟩ := hA
            have k3 : (a : Int) < (s : Int) := by omega
            have k4' : (s : Int) < (mid : Int) := by omega
            have HA1 := Lib.hid fun W d' hI hH => (HS1.out W d' hI hH a1 a2 : Calls _ _ _ _ _)
            clear a1 a2
            by_cases hB : mid < t ∧ t < b
            · obtain ⟨b1, b2⟩ := hB
              have k5 : (mid : Int) < (t : Int) := by omega
              have k6 : (t : Int) < (b : Int) := by omega
              have HB1 := Lib.hid fun W e2 d' hI hH hs => (HS2.out W e2 d' hI hH hs b1 b2 : Calls _ _ _ _ _)
              clear b1 b2
              go_wp2_with (first | (go_at_call 138; (with_reducible refine HRC.out.mono ?_); rintro en w2 ⟨rfl, d1, h1, h2⟩; rw [HE.out] at h1; have HI1 := Lib.hid h1; have HH1 := Lib.hid h2; clear h1 h2) | (go_at_call 97; (with_reducible refine (HA1.out _ _ HI1.out HH1.out).mono ?_); rintro en w3 ⟨rfl, d2, e2, h1, h2, h3, h4⟩; have HI2 := Lib.hid h1; have HA2 := Lib.hid h2; have HO2 := Lib.hid h3; have HH2 := Lib.hid h4; clear h1 h2 h3 h4) | (go_at_call 97; (with_reducible refine (HB1.out _ _ _ HI2.out HH2.out HA2.out).mono ?_); rintro en w4 ⟨rfl, d3, e3, h1, h2, h3, h4⟩; have HI3 := Lib.hid h1; have HA3 := Lib.hid h2; have HO3 := Lib.hid h3; have HH3 := Lib.hid h4; clear h1 h2 h3 h4))
              all_goals (go_end0; have hcl := HCL.out e2 e3 HA2.out HO2.out HA3.out HO3.out; exact ⟨rfl, d3, e3, HI3.out, hcl.1, hcl.2, HH3.out⟩)
            · have HSB2 : Hid (Sorted E mid b) := Lib.hid (by
                have := HNN.out; rcases Nat.lt_or_ge mid t with hx | hx
                · have : t = b := by omega
                  have h9 := HQ.out.2.2.1
                  rw [this] at h9
                  exact h9
                · have : t = mid := by omega
                  have h9 := HQ.out.2.2.2
                  rw [this] at h9
                  exact h9)
              by_cases hb1 : mid < t
              · have x0 : (mid : Int) < (t : Int) := by omega
                have y0 : ¬ (t : Int) < (b : Int) := by omega
                go_wp2_with (first | (go_at_call 138; (with_reducible refine HRC.out.mono ?_); rintro en w2 ⟨rfl, d1, h1, h2⟩; rw [HE.out] at h1; have HI1 := Lib.hid h1; have HH1 := Lib.hid h2; clear h1 h2) | (go_at_call 97; (with_reducible refine (HA1.out _ _ HI1.out HH1.out).mono ?_); rintro en w3 ⟨rfl, d2, e2, h1, h2, h3, h4⟩; have HI2 := Lib.hid h1; have HA2 := Lib.hid h2; have HO2 := Lib.hid h3; have HH2 := Lib.hid h4; clear h1 h2 h3 h4))
                all_goals (go_end0; have hcl := HCL.out e2 e2 HA2.out HO2.out (SameR.refl _ _ _) (HSB2.out.congr fun x hx _ => HA2.out.far x (by omega)); exact ⟨rfl, d2, e2, HI2.out, hcl.1, hcl.2, HH2.out⟩)
              · have x0 : ¬ (mid : Int) < (t : Int) := by omega
                go_wp2_with (first | (go_at_call 138; (with_reducible refine HRC.out.mono ?_); rintro en w2 ⟨rfl, d1, h1, h2⟩; rw [HE.out] at h1; have HI1 := Lib.hid h1; have HH1 := Lib.hid h2; clear h1 h2) | (go_at_call 97; (with_reducible refine (HA1.out _ _ HI1.out HH1.out).mono ?_); rintro en w3 ⟨rfl, d2, e2, h1, h2, h3, h4⟩; have HI2 := Lib.hid h1; have HA2 := Lib.hid h2; have HO2 := Lib.hid h3; have HH2 := Lib.hid h4; clear h1 h2 h3 h4))
                all_goals (go_end0; have hcl := HCL.out e2 e2 HA2.out HO2.out (SameR.refl _ _ _) (HSB2.out.congr fun x hx _ => HA2.out.far x (by omega)); exact ⟨rfl, d2, e2, HI2.out, hcl.1, hcl.2, HH2.out⟩)
          · have HSA2 : Hid (Sorted E a mid) := Lib.hid (by
              have := HNN.out; rcases Nat.lt_or_ge a s with hx | hx
              · have : s = mid := by omega
                subst this; exact HQ.out.1
              · have : s = a := by omega
                have h9 := HQ.out.2.1
                rw [this] at h9
                exact h9)
            by_cases hB : mid < t ∧ t < b
            · obtain ⟨b1, b2⟩ := hB
              have k5 : (mid : Int) < (t : Int) := by omega
              have k6 : (t : Int) < (b : Int) := by omega
              have HB1 := Lib.hid fun W e2 d' hI hH hs => (HS2.out W e2 d' hI hH hs b1 b2 : Calls _ _ _ _ _)
              clear b1 b2
              by_cases ha1 : a < s
              · have x0 : (a : Int) < (s : Int) := by omega
                have y0 : ¬ (s : Int) < (mid : Int) := by omega
                go_wp2_with (first | (go_at_call 138; (with_reducible refine HRC.out.mono ?_); rintro en w2 ⟨rfl, d1, h1, h2⟩; rw [HE.out] at h1; have HI1 := Lib.hid h1; have HH1 := Lib.hid h2; clear h1 h2) | (go_at_call 97; (with_reducible refine (HB1.out _ _ _ HI1.out HH1.out (SameR.refl _ _ _)).mono ?_); rintro en w4 ⟨rfl, d3, e3, h1, h2, h3, h4⟩; have HI3 := Lib.hid h1; have HA3 := Lib.hid h2; have HO3 := Lib.hid h3; have HH3 := Lib.hid h4; clear h1 h2 h3 h4))
                all_goals (go_end0; have hcl := HCL.out E e3 (SameR.refl _ _ _) HSA2.out HA3.out HO3.out; exact ⟨rfl, d3, e3, HI3.out, hcl.1, hcl.2, HH3.out⟩)
              · have x0 : ¬ (a : Int) < (s : Int) := by omega
                go_wp2_with (first | (go_at_call 138; (with_reducible refine HRC.out.mono ?_); rintro en w2 ⟨rfl, d1, h1, h2⟩; rw [HE.out] at h1; have HI1 := Lib.hid h1; have HH1 := Lib.hid h2; clear h1 h2) | (go_at_call 97; (with_reducible refine (HB1.out _ _ _ HI1.out HH1.out (SameR.refl _ _ _)).mono ?_); rintro en w4 ⟨rfl, d3, e3, h1, h2, h3, h4⟩; have HI3 := Lib.hid h1; have HA3 := Lib.hid h2; have HO3 := Lib.hid h3; have HH3 := Lib.hid h4; clear h1 h2 h3 h4))
                all_goals (go_end0; have hcl := HCL.out E e3 (SameR.refl _ _ _) HSA2.out HA3.out HO3.out; exact ⟨rfl, d3, e3, HI3.out, hcl.1, hcl.2, HH3.out⟩)
            · have HSB2 : Hid (Sorted E mid b) := Lib.hid (by
                have := HNN.out; rcases Nat.lt_or_ge mid t with hx | hx
                · have : t = b := by omega
                  have h9 := HQ.out.2.2.1
                  rw [this] at h9
                  exact h9
                · have : t = mid := by omega
                  have h9 := HQ.out.2.2.2
                  rw [this] at h9
                  exact h9)
              by_cases ha1 : a < s
              · have x0 : (a : Int) < (s : Int) := by omega
                have y0 : ¬ (s : Int) < (mid : Int) := by omega
                by_cases hb1 : mid < t
                · have x1 : (mid : Int) < (t : Int) := by omega
                  have y1 : ¬ (t : Int) < (b : Int) := by omega
                  go_wp2_with (first | (go_at_call 138; (with_reducible refine HRC.out.mono ?_); rintro en w2 ⟨rfl, d1, h1, h2⟩; rw [HE.out] at h1; have HI1 := Lib.hid h1; have HH1 := Lib.hid h2; clear h1 h2))
                  all_goals (go_end0; have hcl := HCL.out E E (SameR.refl _ _ _) HSA2.out (SameR.refl _ _ _) HSB2.out; exact ⟨rfl, d1, E, HI1.out, hcl.1, hcl.2, HH1.out⟩)
                · have x1 : ¬ (mid : Int) < (t : Int) := by omega
                  go_wp2_with (first | (go_at_call 138; (with_reducible refine HRC.out.mono ?_); rintro en w2 ⟨rfl, d1, h1, h2⟩; rw [HE.out] at h1; have HI1 := Lib.hid h1; have HH1 := Lib.hid h2; clear h1 h2))
                  all_goals (go_end0; have hcl := HCL.out E E (SameR.refl _ _ _) HSA2.out (SameR.refl _ _ _) HSB2.out; exact ⟨rfl, d1, E, HI1.out, hcl.1, hcl.2, HH1.out⟩)
              · have x0 : ¬ (a : Int) < (s : Int) := by omega
                by_cases hb1 : mid < t
                · have x1 : (mid : Int) < (t : Int) := by omega
                  have y1 : ¬ (t : Int) < (b : Int) := by omega
                  go_wp2_with (first | (go_at_call 138; (with_reducible refine HRC.out.mono ?_); rintro en w2 ⟨rfl, d1, h1, h2⟩; rw [HE.out] at h1; have HI1 := Lib.hid h1; have HH1 := Lib.hid h2; clear h1 h2))
                  all_goals (go_end0; have hcl := HCL.out E E (SameR.refl _ _ _) HSA2.out (SameR.refl _ _ _) HSB2.out; exact ⟨rfl, d1, E, HI1.out, hcl.1, hcl.2, HH1.out⟩)
                · have x1 : ¬ (mid : Int) < (t : Int) := by omega
                  go_wp2_with (first | (go_at_call 138; (with_reducible refine HRC.out.mono ?_); rintro en w2 ⟨rfl, d1, h1, h2⟩; rw [HE.out] at h1; have HI1 := Lib.hid h1; have HH1 := Lib.hid h2; clear h1 h2))
                  all_goals (go_end0; have hcl := HCL.out E E (SameR.refl _ _ _) HSA2.out (SameR.refl _ _ _) HSB2.out; exact ⟨rfl, d1, E, HI1.out, hcl.1, hcl.2, HH1.out⟩)
        · have HI1 : Hid (Is d n E) := Lib.hid (by rw [HR0.out hR]; exact HD.out)
          have HH1 := HH
          have k1 : ((s : Int) < (m : Int)) → ((m : Int) < (t : Int)) → False := fun x y => hR ⟨by omega, by omega⟩
          by_cases hA : a < s ∧ s < mid
          · obtain ⟨a1, a2⟩ := hA
            have k3 : (a : Int) < (s : Int) := by omega
            have k4' : (s : Int) < (mid : Int) := by omega
            have HA1 := Lib.hid fun W d' hI hH => (HS1.out W d' hI hH a1 a2 : Calls _ _ _ _ _)
            clear a1 a2
            by_cases hB : mid < t ∧ t < b
            · obtain ⟨b1, b2⟩ := hB
              have k5 : (mid : Int) < (t : Int) := by omega
              have k6 : (t : Int) < (b : Int) := by omega
              have HB1 := Lib.hid fun W e2 d' hI hH hs => (HS2.out W e2 d' hI hH hs b1 b2 : Calls _ _ _ _ _)
              clear b1 b2
              have dR : (decide ((s : Int) < (m : Int)) && decide ((m : Int) < (t : Int))) = false := by simp; omega
              by_cases hr1 : s < m
              · have x0 : (s : Int) < (m : Int) := by omega
                have y0 : ¬ (m : Int) < (t : Int) := by omega
                go_wp2_with (first | (go_at_call 97; (with_reducible refine (HA1.out _ _ HI1.out HH1.out).mono ?_); rintro en w3 ⟨rfl, d2, e2, h1, h2, h3, h4⟩; have HI2 := Lib.hid h1; have HA2 := Lib.hid h2; have HO2 := Lib.hid h3; have HH2 := Lib.hid h4; clear h1 h2 h3 h4) | (go_at_call 97; (with_reducible refine (HB1.out _ _ _ HI2.out HH2.out HA2.out).mono ?_); rintro en w4 ⟨rfl, d3, e3, h1, h2, h3, h4⟩; have HI3 := Lib.hid h1; have HA3 := Lib.hid h2; have HO3 := Lib.hid h3; have HH3 := Lib.hid h4; clear h1 h2 h3 h4))
                all_goals (go_end0; have hcl := HCL.out e2 e3 HA2.out HO2.out HA3.out HO3.out; exact ⟨rfl, d3, e3, HI3.out, hcl.1, hcl.2, HH3.out⟩)
              · have x0 : ¬ (s : Int) < (m : Int) := by omega
                go_wp2_with (first | (go_at_call 97; (with_reducible refine (HA1.out _ _ HI1.out HH1.out).mono ?_); rintro en w3 ⟨rfl, d2, e2, h1, h2, h3, h4⟩; have HI2 := Lib.hid h1; have HA2 := Lib.hid h2; have HO2 := Lib.hid h3; have HH2 := Lib.hid h4; clear h1 h2 h3 h4) | (go_at_call 97; (with_reducible refine (HB1.out _ _ _ HI2.out HH2.out HA2.out).mono ?_); rintro en w4 ⟨rfl, d3, e3, h1, h2, h3, h4⟩; have HI3 := Lib.hid h1; have HA3 := Lib.hid h2; have HO3 := Lib.hid h3; have HH3 := Lib.hid h4; clear h1 h2 h3 h4))
                all_goals (go_end0; have hcl := HCL.out e2 e3 HA2.out HO2.out HA3.out HO3.out; exact ⟨rfl, d3, e3, HI3.out, hcl.1, hcl.2, HH3.out⟩)
            · have HSB2 : Hid (Sorted E mid b) := Lib.hid (by
                have := HNN.out; rcases Nat.lt_or_ge mid t with hx | hx
                · have : t = b := by omega
                  have h9 := HQ.out.2.2.1
                  rw [this] at h9
                  exact h9
                · have : t = mid := by omega
                  have h9 := HQ.out.2.2.2
                  rw [this] at h9
                  exact h9)
              have dR : (decide ((s : Int) < (m : Int)) && decide ((m : Int) < (t : Int))) = false := by simp; omega
              by_cases hr1 : s < m
              · have x0 : (s : Int) < (m : Int) := by omega
                have y0 : ¬ (m : Int) < (t : Int) := by omega
                by_cases hb1 : mid < t
                · have x1 : (mid : Int) < (t : Int) := by omega
                  have y1 : ¬ (t : Int) < (b : Int) := by omega
                  go_wp2_with (first | (go_at_call 97; (with_reducible refine (HA1.out _ _ HI1.out HH1.out).mono ?_); rintro en w3 ⟨rfl, d2, e2, h1, h2, h3, h4⟩; have HI2 := Lib.hid h1; have HA2 := Lib.hid h2; have HO2 := Lib.hid h3; have HH2 := Lib.hid h4; clear h1 h2 h3 h4))
                  all_goals (go_end0; have hcl := HCL.out e2 e2 HA2.out HO2.out (SameR.refl _ _ _) (HSB2.out.congr fun x hx _ => HA2.out.far x (by omega)); exact ⟨rfl, d2, e2, HI2.out, hcl.1, hcl.2, HH2.out⟩)
                · have x1 : ¬ (mid : Int) < (t : Int) := by omega
                  go_wp2_with (first | (go_at_call 97; (with_reducible refine (HA1.out _ _ HI1.out HH1.out).mono ?_); rintro en w3 ⟨rfl, d2, e2, h1, h2, h3, h4⟩; have HI2 := Lib.hid h1; have HA2 := Lib.hid h2; have HO2 := Lib.hid h3; have HH2 := Lib.hid h4; clear h1 h2 h3 h4))
                  all_goals (go_end0; have hcl := HCL.out e2 e2 HA2.out HO2.out (SameR.refl _ _ _) (HSB2.out.congr fun x hx _ => HA2.out.far x (by omega)); exact ⟨rfl, d2, e2, HI2.out, hcl.1, hcl.2, HH2.out⟩)
              · have x0 : ¬ (s : Int) < (m : Int) := by omega
                by_cases hb1 : mid < t
                · have x1 : (mid : Int) < (t : Int) := by omega
                  have y1 : ¬ (t : Int) < (b : Int) := by omega
                  go_wp2_with (first | (go_at_call 97; (with_reducible refine (HA1.out _ _ HI1.out HH1.out).mono ?_); rintro en w3 ⟨rfl, d2, e2, h1, h2, h3, h4⟩; have HI2 := Lib.hid h1; have HA2 := Lib.hid h2; have HO2 := Lib.hid h3; have HH2 := Lib.hid h4; clear h1 h2 h3 h4))
                  all_goals (go_end0; have hcl := HCL.out e2 e2 HA2.out HO2.out (SameR.refl _ _ _) (HSB2.out.congr fun x hx _ => HA2.out.far x (by omega)); exact ⟨rfl, d2, e2, HI2.out, hcl.1, hcl.2, HH2.out⟩)
                · have x1 : ¬ (mid : Int) < (t : Int) := by omega
                  go_wp2_with (first | (go_at_call 97; (with_reducible refine (HA1.out _ _ HI1.out HH1.out).mono ?_); rintro en w3 ⟨rfl, d2, e2, h1, h2, h3, h4⟩; have HI2 := Lib.hid h1; have HA2 := Lib.hid h2; have HO2 := Lib.hid h3; have HH2 := Lib.hid h4; clear h1 h2 h3 h4))
                  all_goals (go_end0; have hcl := HCL.out e2 e2 HA2.out HO2.out (SameR.refl _ _ _) (HSB2.out.congr fun x hx _ => HA2.out.far x (by omega)); exact ⟨rfl, d2, e2, HI2.out, hcl.1, hcl.2, HH2.out⟩)
          · have HSA2 : Hid (Sorted E a mid) := Lib.hid (by
              have := HNN.out; rcases Nat.lt_or_ge a s with hx | hx
              · have : s = mid := by omega
                subst this; exact HQ.out.1
              · have : s = a := by omega
                have h9 := HQ.out.2.1
                rw [this] at h9
                exact h9)
            by_cases hB : mid < t ∧ t < b
            · obtain ⟨b1, b2⟩ := hB
              have k5 : (mid : Int) < (t : Int) := by omega
              have k6 : (t : Int) < (b : Int) := by omega
              have HB1 := Lib.hid fun W e2 d' hI hH hs => (HS2.out W e2 d' hI hH hs b1 b2 : Calls _ _ _ _ _)
              clear b1 b2
              have dR : (decide ((s : Int) < (m : Int)) && decide ((m : Int) < (t : Int))) = false := by simp; omega
              by_cases hr1 : s < m
              · have x0 : (s : Int) < (m : Int) := by omega
                have y0 : ¬ (m : Int) < (t : Int) := by omega
                by_cases ha1 : a < s
                · have x1 : (a : Int) < (s : Int) := by omega
                  have y1 : ¬ (s : Int) < (mid : Int) := by omega
                  go_wp2_with (first | (go_at_call 97; (with_reducible refine (HB1.out _ _ _ HI1.out HH1.out (SameR.refl _ _ _)).mono ?_); rintro en w4 ⟨rfl, d3, e3, h1, h2, h3, h4⟩; have HI3 := Lib.hid h1; have HA3 := Lib.hid h2; have HO3 := Lib.hid h3; have HH3 := Lib.hid h4; clear h1 h2 h3 h4))
                  all_goals (go_end0; have hcl := HCL.out E e3 (SameR.refl _ _ _) HSA2.out HA3.out HO3.out; exact ⟨rfl, d3, e3, HI3.out, hcl.1, hcl.2, HH3.out⟩)
                · have x1 : ¬ (a : Int) < (s : Int) := by omega
                  go_wp2_with (first | (go_at_call 97; (with_reducible refine (HB1.out _ _ _ HI1.out HH1.out (SameR.refl _ _ _)).mono ?_); rintro en w4 ⟨rfl, d3, e3, h1, h2, h3, h4⟩; have HI3 := Lib.hid h1; have HA3 := Lib.hid h2; have HO3 := Lib.hid h3; have HH3 := Lib.hid h4; clear h1 h2 h3 h4))
                  all_goals (go_end0; have hcl := HCL.out E e3 (SameR.refl _ _ _) HSA2.out HA3.out HO3.out; exact ⟨rfl, d3, e3, HI3.out, hcl.1, hcl.2, HH3.out⟩)
              · have x0 : ¬ (s : Int) < (m : Int) := by omega
                by_cases ha1 : a < s
                · have x1 : (a : Int) < (s : Int) := by omega
                  have y1 : ¬ (s : Int) < (mid : Int) := by omega
                  go_wp2_with (first | (go_at_call 97; (with_reducible refine (HB1.out _ _ _ HI1.out HH1.out (SameR.refl _ _ _)).mono ?_); rintro en w4 ⟨rfl, d3, e3, h1, h2, h3, h4⟩; have HI3 := Lib.hid h1; have HA3 := Lib.hid h2; have HO3 := Lib.hid h3; have HH3 := Lib.hid h4; clear h1 h2 h3 h4))
                  all_goals (go_end0; have hcl := HCL.out E e3 (SameR.refl _ _ _) HSA2.out HA3.out HO3.out; exact ⟨rfl, d3, e3, HI3.out, hcl.1, hcl.2, HH3.out⟩)
                · have x1 : ¬ (a : Int) < (s : Int) := by omega
                  go_wp2_with (first | (go_at_call 97; (with_reducible refine (HB1.out _ _ _ HI1.out HH1.out (SameR.refl _ _ _)).mono ?_); rintro en w4 ⟨rfl, d3, e3, h1, h2, h3, h4⟩; have HI3 := Lib.hid h1; have HA3 := Lib.hid h2; have HO3 := Lib.hid h3; have HH3 := Lib.hid h4; clear h1 h2 h3 h4))
                  all_goals (go_end0; have hcl := HCL.out E e3 (SameR.refl _ _ _) HSA2.out HA3.out HO3.out; exact ⟨rfl, d3, e3, HI3.out, hcl.1, hcl.2, HH3.out⟩)
            · have HSB2 : Hid (Sorted E mid b) := Lib.hid (by
                have := HNN.out; rcases Nat.lt_or_ge mid t with hx | hx
                · have : t = b := by omega
                  have h9 := HQ.out.2.2.1
                  rw [this] at h9
                  exact h9
                · have : t = mid := by omega
                  have h9 := HQ.out.2.2.2
                  rw [this] at h9
                  exact h9)
              have dR : (decide ((s : Int) < (m : Int)) && decide ((m : Int) < (t : Int))) = false := by simp; omega
              by_cases hr1 : s < m
              · have x0 : (s : Int) < (m : Int) := by omega
                have y0 : ¬ (m : Int) < (t : Int) := by omega
                by_cases ha1 : a < s
                · have x1 : (a : Int) < (s : Int) := by omega
                  have y1 : ¬ (s : Int) < (mid : Int) := by omega
                  by_cases hb1 : mid < t
                  · have x2 : (mid : Int) < (t : Int) := by omega
                    have y2 : ¬ (t : Int) < (b : Int) := by omega
                    go_wp2_with fail
                    all_goals (go_end0; have hcl := HCL.out E E (SameR.refl _ _ _) HSA2.out (SameR.refl _ _ _) HSB2.out; exact ⟨rfl, d, E, HI1.out, hcl.1, hcl.2, HH1.out⟩)
                  · have x2 : ¬ (mid : Int) < (t : Int) := by omega
                    go_wp2_with fail
                    all_goals (go_end0; have hcl := HCL.out E E (SameR.refl _ _ _) HSA2.out (SameR.refl _ _ _) HSB2.out; exact ⟨rfl, d, E, HI1.out, hcl.1, hcl.2, HH1.out⟩)
                · have x1 : ¬ (a : Int) < (s : Int) := by omega
                  by_cases hb1 : mid < t
                  · have x2 : (mid : Int) < (t : Int) := by omega
                    have y2 : ¬ (t : Int) < (b : Int) := by omega
                    go_wp2_with fail
                    all_goals (go_end0; have hcl := HCL.out E E (SameR.refl _ _ _) HSA2.out (SameR.refl _ _ _) HSB2.out; exact ⟨rfl, d, E, HI1.out, hcl.1, hcl.2, HH1.out⟩)
                  · have x2 : ¬ (mid : Int) < (t : Int) := by omega
                    go_wp2_with fail
                    all_goals (go_end0; have hcl := HCL.out E E (SameR.refl _ _ _) HSA2.out (SameR.refl _ _ _) HSB2.out; exact ⟨rfl, d, E, HI1.out, hcl.1, hcl.2, HH1.out⟩)
              · have x0 : ¬ (s : Int) < (m : Int) := by omega
                by_cases ha1 : a < s
                · have x1 : (a : Int) < (s : Int) := by omega
                  have y1 : ¬ (s : Int) < (mid : Int) := by omega
                  by_cases hb1 : mid < t
                  · have x2 : (mid : Int) < (t : Int) := by omega
                    have y2 : ¬ (t : Int) < (b : Int) := by omega
                    go_wp2_with fail
                    all_goals (go_end0; have hcl := HCL.out E E (SameR.refl _ _ _) HSA2.out (SameR.refl _ _ _) HSB2.out; exact ⟨rfl, d, E, HI1.out, hcl.1, hcl.2, HH1.out⟩)
                  · have x2 : ¬ (mid : Int) < (t : Int) := by omega
                    go_wp2_with fail
                    all_goals (go_end0; have hcl := HCL.out E E (SameR.refl _ _ _) HSA2.out (SameR.refl _ _ _) HSB2.out; exact ⟨rfl, d, E, HI1.out, hcl.1, hcl.2, HH1.out⟩)
                · have x1 : ¬ (a : Int) < (s : Int) := by omega
                  by_cases hb1 : mid < t
                  · have x2 : (mid : Int) < (t : Int) := by omega
                    have y2 : ¬ (t : Int) < (b : Int) := by omega
                    go_wp2_with fail
                    all_goals (go_end0; have hcl := HCL.out E E (SameR.refl _ _ _) HSA2.out (SameR.refl _ _ _) HSB2.out; exact ⟨rfl, d, E, HI1.out, hcl.1, hcl.2, HH1.out⟩)
                  · have x2 : ¬ (mid : Int) < (t : Int) := by omega
                    go_wp2_with fail
                    all_goals (go_end0; have hcl := HCL.out E E (SameR.refl _ _ _) HSA2.out (SameR.refl _ _ _) HSB2.out; exact ⟨rfl, d, E, HI1.out, hcl.1, hcl.2, HH1.out⟩)
  · have gm : (mid : Int) < (m : Int) := by omega
    have hlh : (m ≤ mid ∧ lo = a ∧ hi = m) ∨ (mid < m ∧ lo = mid + m - b ∧ hi = mid) := .inr ⟨hc, hlo9, hhi9⟩
    have glo : ((nn : Int) - (b : Int)) = (lo : Int) := by omega
    go_enter Tryz.func97, Tryz.ntmps97
    go_wp2_with fail
    go_loopg [20, 21] (hi - lo) (fun q vs vr wr => ∃ (s r : Nat), vs = .int .i64 s ∧ vr = .int .i64 r ∧ lo ≤ s ∧ s ≤ r ∧ r ≤ hi ∧ q = r - s ∧ (∀ x, lo ≤ x → x < s → 0 ≤ cT (e (mid + m - 1 - x)) (e x)) ∧ (∀ x, r ≤ x → x < hi → cT (e (mid + m - 1 - x)) (e x) < 0) ∧ Hd w0 wr g d)
    case atStart => exact ⟨lo, hi, by rw [show nn - b = lo by omega], by rw [hhi9], Nat.le_refl _, by omega, Nat.le_refl _, rfl, fun x _ _ => by omega, fun x _ _ => by omega, H.out⟩
    case round =>
      obtain ⟨s, r, rfl, rfl, hs1, hsr, hr1, rfl, hlo, hhi, hH⟩ := hrel
      have HLO := Lib.hid hlo
      have HHI := Lib.hid hhi
      have HH := Lib.hid hH
      clear hlo hhi hH
      by_cases hlt : s < r
      · have gs : (s : Int) < (r : Int) := by omega
        obtain ⟨c, hc⟩ : ∃ c, (s + r) / 2 = c := ⟨_, rfl⟩
        have gc : (((s : Int) + (r : Int)) / 2) = (c : Int) := by omega
        obtain ⟨pc, hpc⟩ : ∃ pc, pp - c = pc := ⟨_, rfl⟩
        have hc1 : s ≤ c := by omega
        have hc2 : c < r := by omega
        have hcm : a ≤ c ∧ c < m ∧ m ≤ pc ∧ pc < b ∧ c ≤ pp := by omega
        have gpc : ((pp : Int) - (c : Int)) = (pc : Int) := by omega
        have hwp : IntKind.i64.wrap (pc : Int) = (pc : Int) := by rw [IntKind.wrap_i64]; omega
        have hwp2 : IntKind.i64.wrap ((pp : Int) - (c : Int)) = (pc : Int) := by rw [IntKind.wrap_i64]; omega
        have gc1 : (c : Int) < (n : Int) := by omega
        have gc0 : (0 : Int) ≤ (c : Int) := by omega
        have gp1 : (pc : Int) < (n : Int) := by omega
        have gp0 : (0 : Int) ≤ (pc : Int) := by omega
        have hcn : c < n := by omega
        have hpn : pc < n := by omega
        have hcmp := HH.out.compare HD.out HF.out hpn hcn
        have hmv := fun (W' : World) (hB : Below _ _ W') => (HH.out.next hB).moves (i := pc) (j := c) (by rw [HD.out.1]; omega) (by rw [HD.out.1]; omega)
        obtain ⟨cJ, hcJ⟩ : ∃ x, x = encT d[c]! := ⟨_, rfl⟩
        obtain ⟨cP, hcP⟩ : ∃ x, x = encT d[pc]! := ⟨_, rfl⟩
        rw [← hcJ, ← hcP] at hcmp
        simp only [← hcJ, ← hcP] at hmv
        simp only [← HK4.out] at hmv
        have LD := Lib.hid fun (W' : World) (hB : Below _ _ W') => (⟨(hmv W' hB).2.1, (hmv W' hB).1⟩ : Sem.run Tryz.prog (loadCellsFrom ⟨g, pc * k4, none⟩ 0 k4 #[]) W' = .ok cP.toArray W' ∧ Sem.run Tryz.prog (loadCellsFrom ⟨g, c * k4, none⟩ 0 k4 #[]) W' = .ok cJ.toArray W')
        have HC := Lib.hid hcmp
        obtain ⟨cc, hcc⟩ : ∃ cc, cT (e pc) (e c) = cc := ⟨_, rfl⟩
        rw [hcc] at HC
        have HCC := Lib.hid hcc
        have HPC : Hid (∀ x, pc = mid + m - 1 - c) := Lib.hid fun _ : Nat => by omega
        have HNUM := Lib.hid hcm
        clear hcJ hcP hcc hmv hcmp hc hpc hcm
        by_cases hlv : cc < 0
        · go_wp2_with fail
          go_region_held3 (fun w' => Sem.run Tryz.prog (loadCellsFrom ⟨g, pc * k4, none⟩ 0 k4 #[]) w' = .ok cP.toArray w' ∧ Sem.run Tryz.prog (loadCellsFrom ⟨g, c * k4, none⟩ 0 k4 #[]) w' = .ok cJ.toArray w')
            (first
              | exact LD.out _ (Below.refl _ _).drew
              | exact LD.out _ HB2.out)
            (first
              | (go_at_call 36; refine (HC.out _ (Below.refl _ _).drew).mono ?_; rintro en w2 ⟨rfl, hB⟩; have HB2 := Lib.hid (up (Below.refl _ _).drew hB); clear hB))
          go_wp2_with fail
          go_roundg (c - s)
          case measure => omega
          case rel =>
            refine ⟨s, c, rfl, rfl, hs1, hc1, by omega, rfl, HLO.out, fun x hx1 hx2 => ?_, HH.out.next HB2.out⟩
            have h2 := HCC.out
            have hp := HPC.out 0
            have hq := HNUM.out
            by_cases hx : x = c
            · rw [hx, ← hp, h2]; exact hlv
            · rcases Int.lt_or_le (cT (e (mid + m - 1 - x)) (e x)) 0 with h3 | h3
              · exact h3
              · exfalso
                have h4 : cT (e x) (e (mid + m - 1 - x)) ≤ 0 := by rw [cT_anti]; omega
                have h5 : cT (e c) (e x) ≤ 0 := HSA.out.le (by omega) (by omega) (by omega)
                have h6 : cT (e (mid + m - 1 - x)) (e pc) ≤ 0 := HSB.out.le (by omega) (by omega) (by omega)
                have h7 := cT_trans h5 (cT_trans h4 h6)
                rw [cT_anti] at h7
                omega
        · have hlv' : ¬ cc < 0 := hlv
          have dcc : decide (cc < 0) = false := by simp; omega
          go_wp2_with fail
          go_region_held3 (fun w' => Sem.run Tryz.prog (loadCellsFrom ⟨g, pc * k4, none⟩ 0 k4 #[]) w' = .ok cP.toArray w' ∧ Sem.run Tryz.prog (loadCellsFrom ⟨g, c * k4, none⟩ 0 k4 #[]) w' = .ok cJ.toArray w')
            (first
              | exact LD.out _ (Below.refl _ _).drew
              | exact LD.out _ HB2.out)
            (first
              | (go_at_call 36; refine (HC.out _ (Below.refl _ _).drew).mono ?_; rintro en w2 ⟨rfl, hB⟩; have HB2 := Lib.hid (up (Below.refl _ _).drew hB); clear hB))
          go_wp2_with fail
          go_roundg (r - (c + 1))
          case measure => omega
          case rel =>
            refine ⟨c + 1, r, by go_num, rfl, by omega, by omega, hr1, rfl, fun x hx1 hx2 => ?_, HHI.out, HH.out.next HB2.out⟩
            have h2 := HCC.out
            have hp := HPC.out 0
            have hq := HNUM.out
            have h4 : cT (e c) (e pc) ≤ 0 := by rw [cT_anti]; omega
            have h5 : cT (e x) (e c) ≤ 0 := HSA.out.le (by omega) (by omega) (by omega)
            have h6 : cT (e pc) (e (mid + m - 1 - x)) ≤ 0 := HSB.out.le (by omega) (by omega) (by omega)
            have h7 := cT_trans h5 (cT_trans h4 h6)
            rw [cT_anti] at h7
            omega
      · have gs : ¬ (s : Int) < (r : Int) := by omega
        obtain rfl : s = r := by omega
        have CUT : Cut e a m b mid lo hi s := ⟨hmid.symm, by omega, by omega, hlh, HSA.out, HSB.out, hs1, hr1, HLO.out, HHI.out⟩
        obtain ⟨n1, n2, n3, n4, n5, n6, n7⟩ := CUT.nums
        obtain ⟨q1, q2, q3, q4⟩ := CUT.parts
        have hsame := rot_same e n1 n2 n5 n4
        obtain ⟨t, ht⟩ : ∃ t, mid + m - s = t := ⟨_, rfl⟩
        have gt : ((nn : Int) - (s : Int)) = (t : Int) := by omega
        have hrot := rot_none e (s := s) (m := m) (t := t) n2 (by omega)
        rw [ht] at n4 n5 q1 q2 q3 q4 hsame
        obtain ⟨E, hE⟩ : ∃ E, rotF e s m t = E := ⟨_, rfl⟩
        have hclose := fun (e2 e3 : Nat → T) => CUT.close (e2 := e2) (e3 := e3)
        rw [ht] at hclose
        rw [hE] at q1 q2 q3 q4 hsame hrot hclose
        have HCL := Lib.hid hclose
        have HAF := Lib.hid (HF.out.same hsame hb)
        have HE := Lib.hid hE
        have HS1 := Lib.hid fun (W : World) (d' : Array T) (hI : Is d' n E) (hH : Hd w0 W g d') (h1 : a < s) (h2 : s < mid) => IH.out W a s mid E d' (by omega) hI hH HAF.out h1 h2 (by omega) q1 q2
        have HS2 := Lib.hid fun (W : World) (e2 : Nat → T) (d' : Array T) (hI : Is d' n e2) (hH : Hd w0 W g d') (hs : SameR E e2 a mid) (h1 : mid < t) (h2 : t < b) => IH.out W mid t b e2 d' (by omega) hI hH (HAF.out.same hs (by omega)) h1 h2 hb
          (q3.congr fun x _ _ => hs.far x (by omega)) (q4.congr fun x _ _ => hs.far x (by omega))
        have HQ := Lib.hid (⟨q1, q2, q3, q4⟩ : Sorted E a s ∧ Sorted E s mid ∧ Sorted E mid t ∧ Sorted E t b)
        have HR0 := Lib.hid hrot
        have HNN : Hid (s ≤ m ∧ m ≤ t ∧ t ≤ b ∧ a ≤ s ∧ s ≤ mid ∧ a < mid ∧ mid < b) := Lib.hid ⟨n2, n5, n4, n1, n3, n6, n7⟩
        clear CUT q1 q2 q3 q4 hsame hrot hE hclose n1 n2 n3 n4 n5 n6 n7 ht
        by_cases hR : s < m ∧ m < t
        · obtain ⟨r1, r2⟩ := hR
          have k1 : (s : Int) < (m : Int) := by omega
          have k2 : (m : Int) < (t : Int) := by omega
          have HRC := Lib.hid (HROT.out _ s m t r1 r2 (by have := HNN.out; omega) HH.out)
          clear r1 r2
          by_cases hA : a < s ∧ s < mid
          · obtain ⟨a1, a2⟩ := hA
            have k3 : (a : Int) < (s : Int) := by omega
            have k4' : (s : Int) < (mid : Int) := by omega
            have HA1 := Lib.hid fun W d' hI hH => (HS1.out W d' hI hH a1 a2 : Calls _ _ _ _ _)
            clear a1 a2
            by_cases hB : mid < t ∧ t < b
            · obtain ⟨b1, b2⟩ := hB
              have k5 : (mid : Int) < (t : Int) := by omega
              have k6 : (t : Int) < (b : Int) := by omega
              have HB1 := Lib.hid fun W e2 d' hI hH hs => (HS2.out W e2 d' hI hH hs b1 b2 : Calls _ _ _ _ _)
              clear b1 b2
              go_wp2_with (first | (go_at_call 138; (with_reducible refine HRC.out.mono ?_); rintro en w2 ⟨rfl, d1, h1, h2⟩; rw [HE.out] at h1; have HI1 := Lib.hid h1; have HH1 := Lib.hid h2; clear h1 h2) | (go_at_call 97; (with_reducible refine (HA1.out _ _ HI1.out HH1.out).mono ?_); rintro en w3 ⟨rfl, d2, e2, h1, h2, h3, h4⟩; have HI2 := Lib.hid h1; have HA2 := Lib.hid h2; have HO2 := Lib.hid h3; have HH2 := Lib.hid h4; clear h1 h2 h3 h4) | (go_at_call 97; (with_reducible refine (HB1.out _ _ _ HI2.out HH2.out HA2.out).mono ?_); rintro en w4 ⟨rfl, d3, e3, h1, h2, h3, h4⟩; have HI3 := Lib.hid h1; have HA3 := Lib.hid h2; have HO3 := Lib.hid h3; have HH3 := Lib.hid h4; clear h1 h2 h3 h4))
              all_goals (go_end0; have hcl := HCL.out e2 e3 HA2.out HO2.out HA3.out HO3.out; exact ⟨rfl, d3, e3, HI3.out, hcl.1, hcl.2, HH3.out⟩)
            · have HSB2 : Hid (Sorted E mid b) := Lib.hid (by
                have := HNN.out; rcases Nat.lt_or_ge mid t with hx | hx
                · have : t = b := by omega
                  have h9 := HQ.out.2.2.1
                  rw [this] at h9
                  exact h9
                · have : t = mid := by omega
                  have h9 := HQ.out.2.2.2
                  rw [this] at h9
                  exact h9)
              by_cases hb1 : mid < t
              · have x0 : (mid : Int) < (t : Int) := by omega
                have y0 : ¬ (t : Int) < (b : Int) := by omega
                go_wp2_with (first | (go_at_call 138; (with_reducible refine HRC.out.mono ?_); rintro en w2 ⟨rfl, d1, h1, h2⟩; rw [HE.out] at h1; have HI1 := Lib.hid h1; have HH1 := Lib.hid h2; clear h1 h2) | (go_at_call 97; (with_reducible refine (HA1.out _ _ HI1.out HH1.out).mono ?_); rintro en w3 ⟨rfl, d2, e2, h1, h2, h3, h4⟩; have HI2 := Lib.hid h1; have HA2 := Lib.hid h2; have HO2 := Lib.hid h3; have HH2 := Lib.hid h4; clear h1 h2 h3 h4))
                all_goals (go_end0; have hcl := HCL.out e2 e2 HA2.out HO2.out (SameR.refl _ _ _) (HSB2.out.congr fun x hx _ => HA2.out.far x (by omega)); exact ⟨rfl, d2, e2, HI2.out, hcl.1, hcl.2, HH2.out⟩)
              · have x0 : ¬ (mid : Int) < (t : Int) := by omega
                go_wp2_with (first | (go_at_call 138; (with_reducible refine HRC.out.mono ?_); rintro en w2 ⟨rfl, d1, h1, h2⟩; rw [HE.out] at h1; have HI1 := Lib.hid h1; have HH1 := Lib.hid h2; clear h1 h2) | (go_at_call 97; (with_reducible refine (HA1.out _ _ HI1.out HH1.out).mono ?_); rintro en w3 ⟨rfl, d2, e2, h1, h2, h3, h4⟩; have HI2 := Lib.hid h1; have HA2 := Lib.hid h2; have HO2 := Lib.hid h3; have HH2 := Lib.hid h4; clear h1 h2 h3 h4))
                all_goals (go_end0; have hcl := HCL.out e2 e2 HA2.out HO2.out (SameR.refl _ _ _) (HSB2.out.congr fun x hx _ => HA2.out.far x (by omega)); exact ⟨rfl, d2, e2, HI2.out, hcl.1, hcl.2, HH2.out⟩)
          · have HSA2 : Hid (Sorted E a mid) := Lib.hid (by
              have := HNN.out; rcases Nat.lt_or_ge a s with hx | hx
              · have : s = mid := by omega
                subst this; exact HQ.out.1
              · have : s = a := by omega
                have h9 := HQ.out.2.1
                rw [this] at h9
                exact h9)
            by_cases hB : mid < t ∧ t < b
            · obtain ⟨b1, b2⟩ := hB
              have k5 : (mid : Int) < (t : Int) := by omega
              have k6 : (t : Int) < (b : Int) := by omega
              have HB1 := Lib.hid fun W e2 d' hI hH hs => (HS2.out W e2 d' hI hH hs b1 b2 : Calls _ _ _ _ _)
              clear b1 b2
              by_cases ha1 : a < s
              · have x0 : (a : Int) < (s : Int) := by omega
                have y0 : ¬ (s : Int) < (mid : Int) := by omega
                go_wp2_with (first | (go_at_call 138; (with_reducible refine HRC.out.mono ?_); rintro en w2 ⟨rfl, d1, h1, h2⟩; rw [HE.out] at h1; have HI1 := Lib.hid h1; have HH1 := Lib.hid h2; clear h1 h2) | (go_at_call 97; (with_reducible refine (HB1.out _ _ _ HI1.out HH1.out (SameR.refl _ _ _)).mono ?_); rintro en w4 ⟨rfl, d3, e3, h1, h2, h3, h4⟩; have HI3 := Lib.hid h1; have HA3 := Lib.hid h2; have HO3 := Lib.hid h3; have HH3 := Lib.hid h4; clear h1 h2 h3 h4))
                all_goals (go_end0; have hcl := HCL.out E e3 (SameR.refl _ _ _) HSA2.out HA3.out HO3.out; exact ⟨rfl, d3, e3, HI3.out, hcl.1, hcl.2, HH3.out⟩)
              · have x0 : ¬ (a : Int) < (s : Int) := by omega
                go_wp2_with (first | (go_at_call 138; (with_reducible refine HRC.out.mono ?_); rintro en w2 ⟨rfl, d1, h1, h2⟩; rw [HE.out] at h1; have HI1 := Lib.hid h1; have HH1 := Lib.hid h2; clear h1 h2) | (go_at_call 97; (with_reducible refine (HB1.out _ _ _ HI1.out HH1.out (SameR.refl _ _ _)).mono ?_); rintro en w4 ⟨rfl, d3, e3, h1, h2, h3, h4⟩; have HI3 := Lib.hid h1; have HA3 := Lib.hid h2; have HO3 := Lib.hid h3; have HH3 := Lib.hid h4; clear h1 h2 h3 h4))
                all_goals (go_end0; have hcl := HCL.out E e3 (SameR.refl _ _ _) HSA2.out HA3.out HO3.out; exact ⟨rfl, d3, e3, HI3.out, hcl.1, hcl.2, HH3.out⟩)
            · have HSB2 : Hid (Sorted E mid b) := Lib.hid (by
                have := HNN.out; rcases Nat.lt_or_ge mid t with hx | hx
                · have : t = b := by omega
                  have h9 := HQ.out.2.2.1
                  rw [this] at h9
                  exact h9
                · have : t = mid := by omega
                  have h9 := HQ.out.2.2.2
                  rw [this] at h9
                  exact h9)
              by_cases ha1 : a < s
              · have x0 : (a : Int) < (s : Int) := by omega
                have y0 : ¬ (s : Int) < (mid : Int) := by omega
                by_cases hb1 : mid < t
                · have x1 : (mid : Int) < (t : Int) := by omega
                  have y1 : ¬ (t : Int) < (b : Int) := by omega
                  go_wp2_with (first | (go_at_call 138; (with_reducible refine HRC.out.mono ?_); rintro en w2 ⟨rfl, d1, h1, h2⟩; rw [HE.out] at h1; have HI1 := Lib.hid h1; have HH1 := Lib.hid h2; clear h1 h2))
                  all_goals (go_end0; have hcl := HCL.out E E (SameR.refl _ _ _) HSA2.out (SameR.refl _ _ _) HSB2.out; exact ⟨rfl, d1, E, HI1.out, hcl.1, hcl.2, HH1.out⟩)
                · have x1 : ¬ (mid : Int) < (t : Int) := by omega
                  go_wp2_with (first | (go_at_call 138; (with_reducible refine HRC.out.mono ?_); rintro en w2 ⟨rfl, d1, h1, h2⟩; rw [HE.out] at h1; have HI1 := Lib.hid h1; have HH1 := Lib.hid h2; clear h1 h2))
                  all_goals (go_end0; have hcl := HCL.out E E (SameR.refl _ _ _) HSA2.out (SameR.refl _ _ _) HSB2.out; exact ⟨rfl, d1, E, HI1.out, hcl.1, hcl.2, HH1.out⟩)
              · have x0 : ¬ (a : Int) < (s : Int) := by omega
                by_cases hb1 : mid < t
                · have x1 : (mid : Int) < (t : Int) := by omega
                  have y1 : ¬ (t : Int) < (b : Int) := by omega
                  go_wp2_with (first | (go_at_call 138; (with_reducible refine HRC.out.mono ?_); rintro en w2 ⟨rfl, d1, h1, h2⟩; rw [HE.out] at h1; have HI1 := Lib.hid h1; have HH1 := Lib.hid h2; clear h1 h2))
                  all_goals (go_end0; have hcl := HCL.out E E (SameR.refl _ _ _) HSA2.out (SameR.refl _ _ _) HSB2.out; exact ⟨rfl, d1, E, HI1.out, hcl.1, hcl.2, HH1.out⟩)
                · have x1 : ¬ (mid : Int) < (t : Int) := by omega
                  go_wp2_with (first | (go_at_call 138; (with_reducible refine HRC.out.mono ?_); rintro en w2 ⟨rfl, d1, h1, h2⟩; rw [HE.out] at h1; have HI1 := Lib.hid h1; have HH1 := Lib.hid h2; clear h1 h2))
                  all_goals (go_end0; have hcl := HCL.out E E (SameR.refl _ _ _) HSA2.out (SameR.refl _ _ _) HSB2.out; exact ⟨rfl, d1, E, HI1.out, hcl.1, hcl.2, HH1.out⟩)
        · have HI1 : Hid (Is d n E) := Lib.hid (by rw [HR0.out hR]; exact HD.out)
          have HH1 := HH
          have k1 : ((s : Int) < (m : Int)) → ((m : Int) < (t : Int)) → False := fun x y => hR ⟨by omega, by omega⟩
          by_cases hA : a < s ∧ s < mid
          · obtain ⟨a1, a2⟩ := hA
            have k3 : (a : Int) < (s : Int) := by omega
            have k4' : (s : Int) < (mid : Int) := by omega
            have HA1 := Lib.hid fun W d' hI hH => (HS1.out W d' hI hH a1 a2 : Calls _ _ _ _ _)
            clear a1 a2
            by_cases hB : mid < t ∧ t < b
            · obtain ⟨b1, b2⟩ := hB
              have k5 : (mid : Int) < (t : Int) := by omega
              have k6 : (t : Int) < (b : Int) := by omega
              have HB1 := Lib.hid fun W e2 d' hI hH hs => (HS2.out W e2 d' hI hH hs b1 b2 : Calls _ _ _ _ _)
              clear b1 b2
              have dR : (decide ((s : Int) < (m : Int)) && decide ((m : Int) < (t : Int))) = false := by simp; omega
              by_cases hr1 : s < m
              · have x0 : (s : Int) < (m : Int) := by omega
                have y0 : ¬ (m : Int) < (t : Int) := by omega
                go_wp2_with (first | (go_at_call 97; (with_reducible refine (HA1.out _ _ HI1.out HH1.out).mono ?_); rintro en w3 ⟨rfl, d2, e2, h1, h2, h3, h4⟩; have HI2 := Lib.hid h1; have HA2 := Lib.hid h2; have HO2 := Lib.hid h3; have HH2 := Lib.hid h4; clear h1 h2 h3 h4) | (go_at_call 97; (with_reducible refine (HB1.out _ _ _ HI2.out HH2.out HA2.out).mono ?_); rintro en w4 ⟨rfl, d3, e3, h1, h2, h3, h4⟩; have HI3 := Lib.hid h1; have HA3 := Lib.hid h2; have HO3 := Lib.hid h3; have HH3 := Lib.hid h4; clear h1 h2 h3 h4))
                all_goals (go_end0; have hcl := HCL.out e2 e3 HA2.out HO2.out HA3.out HO3.out; exact ⟨rfl, d3, e3, HI3.out, hcl.1, hcl.2, HH3.out⟩)
              · have x0 : ¬ (s : Int) < (m : Int) := by omega
                go_wp2_with (first | (go_at_call 97; (with_reducible refine (HA1.out _ _ HI1.out HH1.out).mono ?_); rintro en w3 ⟨rfl, d2, e2, h1, h2, h3, h4⟩; have HI2 := Lib.hid h1; have HA2 := Lib.hid h2; have HO2 := Lib.hid h3; have HH2 := Lib.hid h4; clear h1 h2 h3 h4) | (go_at_call 97; (with_reducible refine (HB1.out _ _ _ HI2.out HH2.out HA2.out).mono ?_); rintro en w4 ⟨rfl, d3, e3, h1, h2, h3, h4⟩; have HI3 := Lib.hid h1; have HA3 := Lib.hid h2; have HO3 := Lib.hid h3; have HH3 := Lib.hid h4; clear h1 h2 h3 h4))
                all_goals (go_end0; have hcl := HCL.out e2 e3 HA2.out HO2.out HA3.out HO3.out; exact ⟨rfl, d3, e3, HI3.out, hcl.1, hcl.2, HH3.out⟩)
            · have HSB2 : Hid (Sorted E mid b) := Lib.hid (by
                have := HNN.out; rcases Nat.lt_or_ge mid t with hx | hx
                · have : t = b := by omega
                  have h9 := HQ.out.2.2.1
                  rw [this] at h9
                  exact h9
                · have : t = mid := by omega
                  have h9 := HQ.out.2.2.2
                  rw [this] at h9
                  exact h9)
              have dR : (decide ((s : Int) < (m : Int)) && decide ((m : Int) < (t : Int))) = false := by simp; omega
              by_cases hr1 : s < m
              · have x0 : (s : Int) < (m : Int) := by omega
                have y0 : ¬ (m : Int) < (t : Int) := by omega
                by_cases hb1 : mid < t
                · have x1 : (mid : Int) < (t : Int) := by omega
                  have y1 : ¬ (t : Int) < (b : Int) := by omega
                  go_wp2_with (first | (go_at_call 97; (with_reducible refine (HA1.out _ _ HI1.out HH1.out).mono ?_); rintro en w3 ⟨rfl, d2, e2, h1, h2, h3, h4⟩; have HI2 := Lib.hid h1; have HA2 := Lib.hid h2; have HO2 := Lib.hid h3; have HH2 := Lib.hid h4; clear h1 h2 h3 h4))
                  all_goals (go_end0; have hcl := HCL.out e2 e2 HA2.out HO2.out (SameR.refl _ _ _) (HSB2.out.congr fun x hx _ => HA2.out.far x (by omega)); exact ⟨rfl, d2, e2, HI2.out, hcl.1, hcl.2, HH2.out⟩)
                · have x1 : ¬ (mid : Int) < (t : Int) := by omega
                  go_wp2_with (first | (go_at_call 97; (with_reducible refine (HA1.out _ _ HI1.out HH1.out).mono ?_); rintro en w3 ⟨rfl, d2, e2, h1, h2, h3, h4⟩; have HI2 := Lib.hid h1; have HA2 := Lib.hid h2; have HO2 := Lib.hid h3; have HH2 := Lib.hid h4; clear h1 h2 h3 h4))
                  all_goals (go_end0; have hcl := HCL.out e2 e2 HA2.out HO2.out (SameR.refl _ _ _) (HSB2.out.congr fun x hx _ => HA2.out.far x (by omega)); exact ⟨rfl, d2, e2, HI2.out, hcl.1, hcl.2, HH2.out⟩)
              · have x0 : ¬ (s : Int) < (m : Int) := by omega
                by_cases hb1 : mid < t
                · have x1 : (mid : Int) < (t : Int) := by omega
                  have y1 : ¬ (t : Int) < (b : Int) := by omega
                  go_wp2_with (first | (go_at_call 97; (with_reducible refine (HA1.out _ _ HI1.out HH1.out).mono ?_); rintro en w3 ⟨rfl, d2, e2, h1, h2, h3, h4⟩; have HI2 := Lib.hid h1; have HA2 := Lib.hid h2; have HO2 := Lib.hid h3; have HH2 := Lib.hid h4; clear h1 h2 h3 h4))
                  all_goals (go_end0; have hcl := HCL.out e2 e2 HA2.out HO2.out (SameR.refl _ _ _) (HSB2.out.congr fun x hx _ => HA2.out.far x (by omega)); exact ⟨rfl, d2, e2, HI2.out, hcl.1, hcl.2, HH2.out⟩)
                · have x1 : ¬ (mid : Int) < (t : Int) := by omega
                  go_wp2_with (first | (go_at_call 97; (with_reducible refine (HA1.out _ _ HI1.out HH1.out).mono ?_); rintro en w3 ⟨rfl, d2, e2, h1, h2, h3, h4⟩; have HI2 := Lib.hid h1; have HA2 := Lib.hid h2; have HO2 := Lib.hid h3; have HH2 := Lib.hid h4; clear h1 h2 h3 h4))
                  all_goals (go_end0; have hcl := HCL.out e2 e2 HA2.out HO2.out (SameR.refl _ _ _) (HSB2.out.congr fun x hx _ => HA2.out.far x (by omega)); exact ⟨rfl, d2, e2, HI2.out, hcl.1, hcl.2, HH2.out⟩)
          · have HSA2 : Hid (Sorted E a mid) := Lib.hid (by
              have := HNN.out; rcases Nat.lt_or_ge a s with hx | hx
              · have : s = mid := by omega
                subst this; exact HQ.out.1
              · have : s = a := by omega
                have h9 := HQ.out.2.1
                rw [this] at h9
                exact h9)
            by_cases hB : mid < t ∧ t < b
            · obtain ⟨b1, b2⟩ := hB
              have k5 : (mid : Int) < (t : Int) := by omega
              have k6 : (t : Int) < (b : Int) := by omega
              have HB1 := Lib.hid fun W e2 d' hI hH hs => (HS2.out W e2 d' hI hH hs b1 b2 : Calls _ _ _ _ _)
              clear b1 b2
              have dR : (decide ((s : Int) < (m : Int)) && decide ((m : Int) < (t : Int))) = false := by simp; omega
              by_cases hr1 : s < m
              · have x0 : (s : Int) < (m : Int) := by omega
                have y0 : ¬ (m : Int) < (t : Int) := by omega
                by_cases ha1 : a < s
                · have x1 : (a : Int) < (s : Int) := by omega
                  have y1 : ¬ (s : Int) < (mid : Int) := by omega
                  go_wp2_with (first | (go_at_call 97; (with_reducible refine (HB1.out _ _ _ HI1.out HH1.out (SameR.refl _ _ _)).mono ?_); rintro en w4 ⟨rfl, d3, e3, h1, h2, h3, h4⟩; have HI3 := Lib.hid h1; have HA3 := Lib.hid h2; have HO3 := Lib.hid h3; have HH3 := Lib.hid h4; clear h1 h2 h3 h4))
                  all_goals (go_end0; have hcl := HCL.out E e3 (SameR.refl _ _ _) HSA2.out HA3.out HO3.out; exact ⟨rfl, d3, e3, HI3.out, hcl.1, hcl.2, HH3.out⟩)
                · have x1 : ¬ (a : Int) < (s : Int) := by omega
                  go_wp2_with (first | (go_at_call 97; (with_reducible refine (HB1.out _ _ _ HI1.out HH1.out (SameR.refl _ _ _)).mono ?_); rintro en w4 ⟨rfl, d3, e3, h1, h2, h3, h4⟩; have HI3 := Lib.hid h1; have HA3 := Lib.hid h2; have HO3 := Lib.hid h3; have HH3 := Lib.hid h4; clear h1 h2 h3 h4))
                  all_goals (go_end0; have hcl := HCL.out E e3 (SameR.refl _ _ _) HSA2.out HA3.out HO3.out; exact ⟨rfl, d3, e3, HI3.out, hcl.1, hcl.2, HH3.out⟩)
              · have x0 : ¬ (s : Int) < (m : Int) := by omega
                by_cases ha1 : a < s
                · have x1 : (a : Int) < (s : Int) := by omega
                  have y1 : ¬ (s : Int) < (mid : Int) := by omega
                  go_wp2_with (first | (go_at_call 97; (with_reducible refine (HB1.out _ _ _ HI1.out HH1.out (SameR.refl _ _ _)).mono ?_); rintro en w4 ⟨rfl, d3, e3, h1, h2, h3, h4⟩; have HI3 := Lib.hid h1; have HA3 := Lib.hid h2; have HO3 := Lib.hid h3; have HH3 := Lib.hid h4; clear h1 h2 h3 h4))
                  all_goals (go_end0; have hcl := HCL.out E e3 (SameR.refl _ _ _) HSA2.out HA3.out HO3.out; exact ⟨rfl, d3, e3, HI3.out, hcl.1, hcl.2, HH3.out⟩)
                · have x1 : ¬ (a : Int) < (s : Int) := by omega
                  go_wp2_with (first | (go_at_call 97; (with_reducible refine (HB1.out _ _ _ HI1.out HH1.out (SameR.refl _ _ _)).mono ?_); rintro en w4 ⟨rfl, d3, e3, h1, h2, h3, h4⟩; have HI3 := Lib.hid h1; have HA3 := Lib.hid h2; have HO3 := Lib.hid h3; have HH3 := Lib.hid h4; clear h1 h2 h3 h4))
                  all_goals (go_end0; have hcl := HCL.out E e3 (SameR.refl _ _ _) HSA2.out HA3.out HO3.out; exact ⟨rfl, d3, e3, HI3.out, hcl.1, hcl.2, HH3.out⟩)
            · have HSB2 : Hid (Sorted E mid b) := Lib.hid (by
                have := HNN.out; rcases Nat.lt_or_ge mid t with hx | hx
                · have : t = b := by omega
                  have h9 := HQ.out.2.2.1
                  rw [this] at h9
                  exact h9
                · have : t = mid := by omega
                  have h9 := HQ.out.2.2.2
                  rw [this] at h9
                  exact h9)
              have dR : (decide ((s : Int) < (m : Int)) && decide ((m : Int) < (t : Int))) = false := by simp; omega
              by_cases hr1 : s < m
              · have x0 : (s : Int) < (m : Int) := by omega
                have y0 : ¬ (m : Int) < (t : Int) := by omega
                by_cases ha1 : a < s
                · have x1 : (a : Int) < (s : Int) := by omega
                  have y1 : ¬ (s : Int) < (mid : Int) := by omega
                  by_cases hb1 : mid < t
                  · have x2 : (mid : Int) < (t : Int) := by omega
                    have y2 : ¬ (t : Int) < (b : Int) := by omega
                    go_wp2_with fail
                    all_goals (go_end0; have hcl := HCL.out E E (SameR.refl _ _ _) HSA2.out (SameR.refl _ _ _) HSB2.out; exact ⟨rfl, d, E, HI1.out, hcl.1, hcl.2, HH1.out⟩)
                  · have x2 : ¬ (mid : Int) < (t : Int) := by omega
                    go_wp2_with fail
                    all_goals (go_end0; have hcl := HCL.out E E (SameR.refl _ _ _) HSA2.out (SameR.refl _ _ _) HSB2.out; exact ⟨rfl, d, E, HI1.out, hcl.1, hcl.2, HH1.out⟩)
                · have x1 : ¬ (a : Int) < (s : Int) := by omega
                  by_cases hb1 : mid < t
                  · have x2 : (mid : Int) < (t : Int) := by omega
                    have y2 : ¬ (t : Int) < (b : Int) := by omega
                    go_wp2_with fail
                    all_goals (go_end0; have hcl := HCL.out E E (SameR.refl _ _ _) HSA2.out (SameR.refl _ _ _) HSB2.out; exact ⟨rfl, d, E, HI1.out, hcl.1, hcl.2, HH1.out⟩)
                  · have x2 : ¬ (mid : Int) < (t : Int) := by omega
                    go_wp2_with fail
                    all_goals (go_end0; have hcl := HCL.out E E (SameR.refl _ _ _) HSA2.out (SameR.refl _ _ _) HSB2.out; exact ⟨rfl, d, E, HI1.out, hcl.1, hcl.2, HH1.out⟩)
              · have x0 : ¬ (s : Int) < (m : Int) := by omega
                by_cases ha1 : a < s
                · have x1 : (a : Int) < (s : Int) := by omega
                  have y1 : ¬ (s : Int) < (mid : Int) := by omega
                  by_cases hb1 : mid < t
                  · have x2 : (mid : Int) < (t : Int) := by omega
                    have y2 : ¬ (t : Int) < (b : Int) := by omega
                    go_wp2_with fail
                    all_goals (go_end0; have hcl := HCL.out E E (SameR.refl _ _ _) HSA2.out (SameR.refl _ _ _) HSB2.out; exact ⟨rfl, d, E, HI1.out, hcl.1, hcl.2, HH1.out⟩)
                  · have x2 : ¬ (mid : Int) < (t : Int) := by omega
                    go_wp2_with fail
                    all_goals (go_end0; have hcl := HCL.out E E (SameR.refl _ _ _) HSA2.out (SameR.refl _ _ _) HSB2.out; exact ⟨rfl, d, E, HI1.out, hcl.1, hcl.2, HH1.out⟩)
                · have x1 : ¬ (a : Int) < (s : Int) := by omega
                  by_cases hb1 : mid < t
                  · have x2 : (mid : Int) < (t : Int) := by omega
                    have y2 : ¬ (t : Int) < (b : Int) := by omega
                    go_wp2_with fail
                    all_goals (go_end0; have hcl := HCL.out E E (SameR.refl _ _ _) HSA2.out (SameR.refl _ _ _) HSB2.out; exact ⟨rfl, d, E, HI1.out, hcl.1, hcl.2, HH1.out⟩)
                  · have x2 : ¬ (mid : Int) < (t : Int) := by omega
                    go_wp2_with fail
                    all_goals (go_end0; have hcl := HCL.out E E (SameR.refl _ _ _) HSA2.out (SameR.refl _ _ _) HSB2.out; exact ⟨rfl, d, E, HI1.out, hcl.1, hcl.2, HH1.out⟩)
end Go.Proofs.YtedabholcldgbaaGreatDoor.So
