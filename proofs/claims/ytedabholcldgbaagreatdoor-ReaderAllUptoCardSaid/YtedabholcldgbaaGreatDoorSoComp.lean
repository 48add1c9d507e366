/- slices.CompactFunc at forms and reader.Equal. -/
import Derived.Test.YtedabholcldgbaaGreatDoorSoPut
namespace Go.Proofs.YtedabholcldgbaaGreatDoor.So
open Go.RowKit Go.Deep Go.Sort Go.Shelf

abbrev EF : Value := .func (.func 38) #[] #[]
/-- The first k of r are e's, each once, ascending. -/
structure Cpt (e : Nat → T) (n k : Nat) (r : Nat → T) : Prop where
  inc : ∀ x y, x < y → y < k → cT (r x) (r y) < 0
  mem : ∀ y, y < k → ∃ x, x < n ∧ r y = e x
  cov : ∀ x, x < n → ∃ y, y < k ∧ cT (e x) (r y) = 0
theorem Hd.equal {w0 w : World} {g n : Nat} {d : Array T} {r : Nat → T} (h : Hd w0 w g d) (hi : Is d n r) {i j : Nat} (h1 : i < n) (h2 : j < n) (f1 : Far w0 g (r i)) (f2 : Far w0 g (r j)) (W : World) (hB : Below w.heap.size w W) :
    Calls Tryz.prog 38 #[.agg (encT d[i]!).toArray, .agg (encT d[j]!).toArray] W fun en w' => en = .returned (.bool (cT (r i) (r j) == 0)) ∧ Below W.heap.size W w' := by
  have h3 := h.next hB
  rw [hi.2 i h1, hi.2 j h2]
  exact equal_T (r i) (r j) W (h3.far f1) (h3.far f2)
theorem cT_zero_lt {a b c : T} (h : cT a b = 0) (h' : cT b c < 0) : cT a c < 0 := by
  rcases Int.lt_or_le (cT a c) 0 with h3 | h3
  · exact h3
  · exfalso
    have h4 : cT c a ≤ 0 := by rw [cT_anti]; omega
    have h5 := cT_trans h4 (show cT a b ≤ 0 by omega)
    rw [cT_anti] at h5
    omega
theorem cT_lt_zero {a b c : T} (h : cT a b < 0) (h' : cT b c = 0) : cT a c < 0 := by
  rcases Int.lt_or_le (cT a c) 0 with h3 | h3
  · exact h3
  · exfalso
    have h4 : cT c a ≤ 0 := by rw [cT_anti]; omega
    have h5 := cT_trans (show cT b c ≤ 0 by omega) h4
    rw [cT_anti] at h5
    omega
theorem cT_zero {a b c : T} (h : cT a b = 0) (h' : cT b c = 0) : cT a c = 0 := by
  have h1 := cT_trans (show cT a b ≤ 0 by omega) (show cT b c ≤ 0 by omega)
  have h2 : cT c b ≤ 0 := by rw [cT_anti]; omega
  have h3 : cT b a ≤ 0 := by rw [cT_anti]; omega
  have h4 := cT_trans h2 h3
  rw [cT_anti] at h4
  omega
theorem cT_lt {a b c : T} (h : cT a b < 0) (h' : cT b c < 0) : cT a c < 0 := by
  rcases Int.lt_or_le (cT a c) 0 with h3 | h3
  · exact h3
  · exfalso
    have h4 : cT c a ≤ 0 := by rw [cT_anti]; omega
    have h5 := cT_trans (show cT b c ≤ 0 by omega) h4
    rw [cT_anti] at h5
    omega
/-- While the second loop goes: j are laid, all up to p are looked at. -/
structure Mid (e : Nat → T) (n j p : Nat) (r : Nat → T) : Prop where
  jp : j ≤ p
  pn : p < n
  j1 : 1 ≤ j
  far : ∀ x, p ≤ x → x < n → r x = e x
  inc : ∀ x y, x < y → y < j → cT (r x) (r y) < 0
  last : cT (r (j - 1)) (e p) = 0
  mem : ∀ y, y < n → ∃ x, x < n ∧ r y = e x
  cov : ∀ x, x ≤ p → ∃ y, y < j ∧ cT (e x) (r y) = 0
theorem Mid.same {e r : Nat → T} {n j p : Nat} (h : Mid e n j p r) (hp : p + 1 < n) (hc : cT (e (p + 1)) (e p) = 0) : Mid e n j (p + 1) r := by
  have hl : cT (r (j - 1)) (e (p + 1)) = 0 := cT_zero h.last (by rw [cT_anti]; omega)
  refine ⟨by have := h.jp; omega, hp, h.j1, fun x h1 h2 => h.far x (by omega) h2, h.inc, hl, h.mem, fun x hx => ?_⟩
  by_cases c : x = p + 1
  · subst c
    exact ⟨j - 1, by have := h.j1; omega, by rw [cT_anti]; omega⟩
  · exact h.cov x (by omega)
theorem Mid.more {e r : Nat → T} {n j p : Nat} (h : Mid e n j p r) (hs : Sorted e 0 n) (hp : p + 1 < n) (hc : cT (e (p + 1)) (e p) ≠ 0) : Mid e n (j + 1) (p + 1) (fun x => if x = j then r (p + 1) else r x) := by
  have hjp := h.jp
  have hj1 := h.j1
  have hrp : r (p + 1) = e (p + 1) := h.far (p + 1) (by omega) hp
  have hlt : cT (e p) (e (p + 1)) < 0 := by
    have h1 := hs p (p + 1) (by omega) (by omega) hp
    have h2 : cT (e p) (e (p + 1)) = -cT (e (p + 1)) (e p) := cT_anti _ _
    omega
  have hll : cT (r (j - 1)) (e (p + 1)) < 0 := cT_zero_lt h.last hlt
  refine ⟨by omega, hp, by omega, fun x h1 h2 => ?_, fun x y h1 h2 => ?_, ?_, fun y hy => ?_, fun x hx => ?_⟩
  · show (if x = j then r (p + 1) else r x) = e x
    rw [if_neg (by omega)]
    exact h.far x (by omega) h2
  · show cT (if x = j then r (p + 1) else r x) (if y = j then r (p + 1) else r y) < 0
    by_cases c : y = j
    · rw [if_pos c, if_neg (by omega), hrp]
      by_cases c2 : x = j - 1
      · rw [c2]; exact hll
      · exact cT_lt (h.inc x (j - 1) (by omega) (by omega)) hll
    · rw [if_neg c, if_neg (by omega)]
      exact h.inc x y h1 (by omega)
  · show cT (if j + 1 - 1 = j then r (p + 1) else r (j + 1 - 1)) (e (p + 1)) = 0
    rw [if_pos (by omega), hrp, cT_self]
  · show ∃ x, x < n ∧ (if y = j then r (p + 1) else r y) = e x
    by_cases c : y = j
    · rw [if_pos c]; exact ⟨p + 1, hp, hrp⟩
    · rw [if_neg c]; exact h.mem y hy
  · by_cases c : x = p + 1
    · refine ⟨j, by omega, ?_⟩
      show cT (e x) (if j = j then r (p + 1) else r j) = 0
      rw [if_pos rfl, hrp, c, cT_self]
    · obtain ⟨y, h1, h2⟩ := h.cov x (by omega)
      refine ⟨y, by omega, ?_⟩
      show cT (e x) (if y = j then r (p + 1) else r y) = 0
      rw [if_neg (by omega)]
      exact h2
set_option linter.unusedSimpArgs false in
set_option maxHeartbeats 8000000 in
set_option maxRecDepth 1000000 in
theorem compact_any (w0 W : World) (g n cap : Nat) (e : Nat → T) (d : Array T) (hd : Is d n e) (h : Hd w0 W g d) (hf : AllF w0 g n e) (hnc : n ≤ cap) (hcm : cap ≤ maxLen) (hn : n ≤ 1000000000000000) (hs : Sorted e 0 n) :
    Calls Tryz.prog 37 #[.slice (some ⟨g, 0, none⟩) n cap, EF] W fun en w' => ∃ k : Nat, en = .returned (.slice (some ⟨g, 0, none⟩) k cap) ∧ k ≤ n ∧ ∃ r, Cpt e n k r ∧ (∀ x, x < k → Far w0 g (r x)) ∧ Fst w0 w' g k r := by
  have HD := Lib.hid hd
  have H := Lib.hid h
  have HF := Lib.hid hf
  have HSO := Lib.hid hs
  clear hd h hf hs
  unfold maxLen at hcm
  have mixed : Tryz.prog.follows .mixedOrders = true := by kernel_rfl
  have aE := Tryz.isAgg29
  obtain ⟨k4, hk4⟩ : ∃ k4 : Nat, k4 = 4 := ⟨_, rfl⟩
  have zE := Tryz.sizeOf29
  rw [← hk4] at zE
  have HK4 := Lib.hid hk4
  clear hk4
  have aI := Tryz.isAgg3
  have zI := Tryz.sizeOf3
  by_cases h2 : n < 2
  · have g2 : (n : Int) < 2 := by omega
    have HR : Hid (Cpt e n n e) := Lib.hid ⟨fun x y h1 h2 => by omega, fun y hy => ⟨y, hy, rfl⟩, fun x hx => ⟨x, hx, cT_self _⟩⟩
    go_enter Tryz.func37, Tryz.ntmps37
    go_wp2_with fail
    go_ret
    exact ⟨n, rfl, Nat.le_refl _, e, HR.out, HF.out, H.out.first HD.out⟩
  · have g2 : ¬ (n : Int) < 2 := by omega
    go_enter Tryz.func37, Tryz.ntmps37
    go_wp2_with fail
    go_loopg [5] n (fun q vk wr => ∃ k : Nat, vk = .int .i64 k ∧ 1 ≤ k ∧ k ≤ n ∧ q = n + 1 - k ∧ (∀ x y, x < y → y < k → cT (e x) (e y) < 0) ∧ Hd w0 wr g d)
    case atStart => exact ⟨1, rfl, by omega, by omega, by omega, fun x y h1 h2 => by omega, H.out⟩
    case round =>
      obtain ⟨k, rfl, hk1, hkn, rfl, hinc, hH⟩ := hrel
      have HIN := Lib.hid hinc
      have HH := Lib.hid hH
      clear hinc hH
      by_cases hlt : k < n
      · have gk : (k : Int) < (n : Int) := by omega
        obtain ⟨p, hp⟩ : ∃ p, p + 1 = k := ⟨k - 1, by omega⟩
        have gp : ((k : Int) - 1) = (p : Int) := by omega
        have hwp : IntKind.i64.wrap (p : Int) = (p : Int) := by rw [IntKind.wrap_i64]; omega
        have hwp2 : IntKind.i64.wrap ((k : Int) - 1) = (p : Int) := by rw [IntKind.wrap_i64]; omega
        have gp1 : (p : Int) < (n : Int) := by omega
        have gp0 : (0 : Int) ≤ (p : Int) := by omega
        have gk0 : (0 : Int) ≤ (k : Int) := by omega
        have hpn : p < n := by omega
        have hcmp := HH.out.equal HD.out hlt hpn (HF.out k hlt) (HF.out p hpn)
        have hmv := fun (W' : World) (hB : Below _ _ W') => (⟨(HH.out.next hB).load (i := k) (by rw [HD.out.1]; omega), (HH.out.next hB).load (i := p) (by rw [HD.out.1]; omega)⟩ : _ ∧ _)
        obtain ⟨cJ, hcJ⟩ : ∃ x, x = encT d[p]! := ⟨_, rfl⟩
        obtain ⟨cP, hcP⟩ : ∃ x, x = encT d[k]! := ⟨_, rfl⟩
        rw [← hcJ, ← hcP] at hcmp
        simp only [← hcJ, ← hcP] at hmv
        simp only [← HK4.out] at hmv
        have LD := Lib.hid hmv
        have HC := Lib.hid hcmp
        have HPK := Lib.hid hp
        clear hcJ hcP hmv hcmp hp
        by_cases hz : cT (e k) (e p) = 0
        · rw [show (cT (e k) (e p) == 0) = true by simpa using hz] at HC
          have HM0 : Hid (Mid e n k k e) := Lib.hid (by
            have hpk := HPK.out
            refine ⟨Nat.le_refl _, hlt, hk1, fun _ _ _ => rfl, HIN.out, ?_, fun y hy => ⟨y, hy, rfl⟩, fun x hx => ?_⟩
            · rw [show k - 1 = p by omega, cT_anti]; omega
            · by_cases c : x = k
              · exact ⟨p, by omega, by rw [c]; exact hz⟩
              · exact ⟨x, by omega, cT_self _⟩)
          clear hz
          have gcap : ¬ cap = k := by omega
          have gcap2 : (k : Int) ≤ (cap : Int) := by omega
          go_wp2_with fail
          go_region_held3 (fun w' => Sem.run Tryz.prog (loadCellsFrom ⟨g, k * k4, none⟩ 0 k4 #[]) w' = .ok cP.toArray w' ∧ Sem.run Tryz.prog (loadCellsFrom ⟨g, p * k4, none⟩ 0 k4 #[]) w' = .ok cJ.toArray w')
            (first
              | exact LD.out _ (Below.refl _ _).drew
              | exact LD.out _ HB2.out)
            (first
              | (go_at_call 38; refine (HC.out _ (Below.refl _ _).drew).mono ?_; rintro en w2 ⟨rfl, hB⟩; have HB2 := Lib.hid (up (Below.refl _ _).drew hB); clear hB))
          go_wp2_with fail
          obtain ⟨m, hm⟩ : ∃ m, n - k = m := ⟨_, rfl⟩
          obtain ⟨bo, hbo⟩ : ∃ bo, k * k4 = bo := ⟨_, rfl⟩
          rw [hm, hbo]
          have HBO := Lib.hid hbo
          have HMm := Lib.hid hm
          have HH1 : Hid (Hd w0 w2 g d) := Lib.hid (HH.out.next HB2.out)
          rename _ ∧ _ => hHeld
          clear hbo hm hHeld LD HC HB2
          go_loopg [5, 7] m (fun q vj vi wi => ∃ (j i : Nat) (dk : Array T) (r : Nat → T), vj = .int .i64 j ∧ vi = .int .i64 i ∧ 1 ≤ i ∧ i ≤ m ∧ q = m + 1 - i ∧ Is dk n r ∧ Mid e n j (k + i - 1) r ∧ Hd w0 wi g dk)
          case atStart => exact ⟨k, 1, d, e, rfl, rfl, Nat.le_refl _, by have := HMm.out; omega, by have := HMm.out; omega, HD.out, by rw [show k + 1 - 1 = k by omega]; exact HM0.out, HH1.out⟩
          case round =>
            obtain ⟨j, i, dk, r, rfl, rfl, hi1, him, rfl, hI, hM, hHH⟩ := hrel
            have HI := Lib.hid hI
            have HM := Lib.hid hM
            have HH2 := Lib.hid hHH
            have hjp : j ≤ k + i - 1 := hM.jp
            have hpn2 : k + i - 1 < n := hM.pn
            clear hI hM hHH
            by_cases hlt2 : i < m
            · have gi : (i : Int) < (m : Int) := by omega
              obtain ⟨x, hx⟩ : ∃ x, x + 1 = i := ⟨i - 1, by omega⟩
              have gx : ((i : Int) - 1) = (x : Int) := by omega
              have hwx : IntKind.i64.wrap (x : Int) = (x : Int) := by rw [IntKind.wrap_i64]; have := HMm.out; omega
              have hwx2 : IntKind.i64.wrap ((i : Int) - 1) = (x : Int) := by rw [IntKind.wrap_i64]; have := HMm.out; omega
              have gx1 : (x : Int) < (m : Int) := by omega
              have gx0 : (0 : Int) ≤ (x : Int) := by omega
              have gi0 : (0 : Int) ≤ (i : Int) := by omega
              have gj0 : (0 : Int) ≤ (j : Int) := by omega
              have gj1 : (j : Int) < (n : Int) := by omega
              have hki : k + i < n := by have := HMm.out; omega
              have hkx : k + x < n := by omega
              have hjn : j < n := by omega
              have hri : r (k + i) = e (k + i) := HM.out.far (k + i) (by omega) hki
              have hrx : r (k + x) = e (k + x) := HM.out.far (k + x) (by omega) hkx
              have hcmp := HH2.out.equal HI.out hki hkx (by rw [hri]; exact HF.out _ hki) (by rw [hrx]; exact HF.out _ hkx)
              have ei : (k + i) * 4 = bo + i * k4 := by rw [← HBO.out, HK4.out]; omega
              have ex : (k + x) * 4 = bo + x * k4 := by rw [← HBO.out, HK4.out]; omega
              have hmv := fun (W' : World) (hB : Below _ _ W') => (⟨(HH2.out.next hB).load (i := k + i) (by rw [HI.out.1]; omega), (HH2.out.next hB).load (i := k + x) (by rw [HI.out.1]; omega)⟩ : _ ∧ _)
              have hst := fun (W' : World) (hB : Below _ _ W') => (HH2.out.next hB).store (i := j) (by rw [HI.out.1]; omega) dk[k + i]!
              have hpu := fun (W' : World) (hB : Below _ _ W') => (HH2.out.next hB).put (i := j) (by rw [HI.out.1]; omega) dk[k + i]!
              have hpi := put_is HI.out hjn dk[k + i]!
              rw [HI.out.2 _ hki] at hpi
              obtain ⟨cI, hcI⟩ : ∃ y, y = encT dk[k + i]! := ⟨_, rfl⟩
              obtain ⟨cX, hcX⟩ : ∃ y, y = encT dk[k + x]! := ⟨_, rfl⟩
              have hsI : cI.length = 4 := by rw [hcI]; rfl
              rw [← hcI, ← hcX] at hcmp
              simp only [← hcI, ← hcX, ei, ex] at hmv
              simp only [← hcI] at hst hpu
              simp only [HI.out.2 _ hki] at hpu
              simp only [← HK4.out] at hmv hst hpu hsI
              rw [hri, hrx] at hcmp
              have LD2 := Lib.hid hmv
              have ST := Lib.hid hst
              have PU := Lib.hid hpu
              have PI := Lib.hid hpi
              have HC2 := Lib.hid hcmp
              have HX := Lib.hid hx
              have EX : k + x + 1 = k + i := by omega
              have EXX := Lib.hid EX
              clear hcI hcX hmv hst hpu hpi hcmp hx ei ex hri hrx EX
              by_cases hz2 : cT (e (k + i)) (e (k + x)) = 0
              · rw [show (cT (e (k + i)) (e (k + x)) == 0) = true by simpa using hz2] at HC2
                have HZ2 := Lib.hid hz2
                clear hz2
                go_wp2_with fail
                go_region_held3 (fun w' => Sem.run Tryz.prog (loadCellsFrom ⟨g, bo + i * k4, none⟩ 0 k4 #[]) w' = .ok cI.toArray w' ∧ Sem.run Tryz.prog (loadCellsFrom ⟨g, bo + x * k4, none⟩ 0 k4 #[]) w' = .ok cX.toArray w')
                  (first
                    | exact LD2.out _ (Below.refl _ _).drew
                    | exact LD2.out _ HB3.out)
                  (first
                    | (go_at_call 38; refine (HC2.out _ (Below.refl _ _).drew).mono ?_; rintro en w3 ⟨rfl, hB⟩; have HB3 := Lib.hid (up (Below.refl _ _).drew hB); clear hB))
                go_wp2_with fail
                go_roundg (m + 1 - (i + 1))
                case measure => omega
                case rel =>
                  refine ⟨j, i + 1, dk, r, rfl, by go_num, by omega, by omega, rfl, HI.out, ?_, HH2.out.next HB3.out⟩
                  have h1 := HM.out
                  have h2 := HZ2.out
                  have h3 := EXX.out
                  rw [show k + i - 1 = k + x by omega] at h1
                  rw [show k + (i + 1) - 1 = k + x + 1 by omega]
                  rw [← h3] at h2
                  exact h1.same (by omega) h2
              · rw [show (cT (e (k + i)) (e (k + x)) == 0) = false by simpa using hz2] at HC2
                have HZ2 := Lib.hid hz2
                clear hz2
                go_wp2_with fail
                go_region_held3 (fun w' => Sem.run Tryz.prog (loadCellsFrom ⟨g, bo + i * k4, none⟩ 0 k4 #[]) w' = .ok cI.toArray w' ∧ Sem.run Tryz.prog (loadCellsFrom ⟨g, bo + x * k4, none⟩ 0 k4 #[]) w' = .ok cX.toArray w')
                  (first
                    | exact LD2.out _ (Below.refl _ _).drew
                    | exact LD2.out _ HB3.out)
                  (first
                    | (go_at_call 38; refine (HC2.out _ (Below.refl _ _).drew).mono ?_; rintro en w3 ⟨rfl, hB⟩; have HB3 := Lib.hid (up (Below.refl _ _).drew hB); clear hB))
                obtain ⟨lI, lX⟩ := LD2.out w3 HB3.out
                have sI := ST.out w3 HB3.out
                go_wp2_with fail
                go_roundg (m + 1 - (i + 1))
                case measure => omega
                case rel =>
                  refine ⟨j + 1, i + 1, _, _, by go_num, by go_num, by omega, by omega, rfl, PI.out, ?_, PU.out w3 HB3.out⟩
                  have h1 := HM.out
                  have h2 := HZ2.out
                  have h3 := EXX.out
                  rw [show k + i - 1 = k + x by omega] at h1
                  rw [show k + (i + 1) - 1 = k + x + 1 by omega]
                  rw [← h3] at h2 ⊢
                  exact h1.more HSO.out (by omega) h2
            · have gi : ¬ (i : Int) < (m : Int) := by omega
              have hjn : j < n := by omega
              have hcj : ¬ cap = j := by omega
              have hjc : (j : Int) ≤ (cap : Int) := by omega
              have hjn2 : (j : Int) ≤ (n : Int) := by omega
              have gj0 : (0 : Int) ≤ (j : Int) := by omega
              have hsp := HH2.out.spare (k := j) HI.out
              obtain ⟨zs, hcl⟩ := run_clear_forms wr g (j * 4) (n - j) (cap - j) (by omega) (fun y hy => (hsp y hy).1) (fun y hy => (hsp y hy).2)
              simp only [← HK4.out] at hcl
              have HCD := Lib.hid (HH2.out.cleared HI.out (Nat.le_of_lt hjn) zs)
              have HJ := Lib.hid hjp
              clear hsp hjp
              go_wp2_with fail
              go_ret
              refine ⟨j, rfl, Nat.le_of_lt hjn, r, ⟨HM.out.inc, fun y hy => HM.out.mem y (by omega), fun y hy => HM.out.cov y (by have := HMm.out; omega)⟩, fun y hy => ?_, ?_⟩
              · obtain ⟨z, hz1, hz2⟩ := HM.out.mem y (by omega)
                rw [hz2]
                exact HF.out z hz1
              · have := HCD.out
                simp only [← HK4.out] at this
                exact this
        · rw [show (cT (e k) (e p) == 0) = false by simpa using hz] at HC
          have HZ := Lib.hid hz
          clear hz
          go_wp2_with fail
          go_region_held3 (fun w' => Sem.run Tryz.prog (loadCellsFrom ⟨g, k * k4, none⟩ 0 k4 #[]) w' = .ok cP.toArray w' ∧ Sem.run Tryz.prog (loadCellsFrom ⟨g, p * k4, none⟩ 0 k4 #[]) w' = .ok cJ.toArray w')
            (first
              | exact LD.out _ (Below.refl _ _).drew
              | exact LD.out _ HB2.out)
            (first
              | (go_at_call 38; refine (HC.out _ (Below.refl _ _).drew).mono ?_; rintro en w2 ⟨rfl, hB⟩; have HB2 := Lib.hid (up (Below.refl _ _).drew hB); clear hB))
          go_wp2_with fail
          go_roundg (n + 1 - (k + 1))
          case measure => omega
          case rel =>
            refine ⟨k + 1, by go_num, by omega, by omega, rfl, fun x y h1 h2 => ?_, HH.out.next HB2.out⟩
            have hpk := HPK.out
            have hz := HZ.out
            have hpk2 : cT (e p) (e k) < 0 := by
              have q1 := HSO.out p k (by omega) (by omega) hlt
              have q2 : cT (e p) (e k) = -cT (e k) (e p) := cT_anti _ _
              omega
            by_cases c : y = k
            · rw [c]
              by_cases c2 : x = p
              · rw [c2]; exact hpk2
              · exact cT_lt (HIN.out x p (by omega) (by omega)) hpk2
            · exact HIN.out x y h1 (by omega)
      · have gk : ¬ (k : Int) < (n : Int) := by omega
        obtain rfl : k = n := by omega
        go_wp2_with fail
        go_ret
        exact ⟨k, rfl, Nat.le_refl _, e, ⟨HIN.out, fun y hy => ⟨y, hy, rfl⟩, fun x hx => ⟨x, hx, cT_self _⟩⟩, HF.out, HH.out.first HD.out⟩
end Go.Proofs.YtedabholcldgbaaGreatDoor.So
