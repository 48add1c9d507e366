/- slices.symMergeCmpFunc at forms: one element ahead of a sorted stretch. -/
import Derived.Test.YtedabholcldgbaaGreatDoorSoIns
namespace Go.Proofs.YtedabholcldgbaaGreatDoor.So
open Go.RowKit Go.Deep Go.Sort Go.Shelf

/-- The element at a has gone up to k. -/
def up1 (e : Nat → T) (a k x : Nat) : T := if a ≤ x ∧ x < k then e (x + 1) else if x = k then e a else e x
theorem up1_start (e : Nat → T) (a : Nat) : up1 e a a = e := by
  funext x
  unfold up1
  rw [if_neg (by omega)]
  split
  · rename_i h; rw [h]
  · rfl
theorem up1_next (e : Nat → T) {a k : Nat} (h : a ≤ k) : sw (up1 e a k) k (k + 1) = up1 e a (k + 1) := by
  funext x
  unfold sw up1
  by_cases c1 : x = k + 1
  · subst c1
    rw [if_pos rfl, if_neg (by omega), if_pos rfl, if_neg (by omega), if_pos rfl]
  · rw [if_neg c1]
    by_cases c2 : x = k
    · subst c2
      rw [if_pos rfl, if_neg (by omega), if_neg (by omega), if_pos (by omega)]
    · rw [if_neg c2]
      by_cases c3 : a ≤ x ∧ x < k
      · rw [if_pos c3, if_pos (by omega)]
      · have c3' : ¬ (a ≤ x ∧ x < k + 1) := by omega
        rw [if_neg c3, if_neg c2, if_neg c3', if_neg c1]
theorem up1_sorted {e : Nat → T} {a b i : Nat} (hs : Sorted e (a + 1) b) (hi : a + 1 ≤ i) (hib : i ≤ b) (h1 : ∀ x, a + 1 ≤ x → x < i → cT (e x) (e a) < 0) (h2 : ∀ x, i ≤ x → x < b → 0 ≤ cT (e x) (e a)) : Sorted (up1 e a (i - 1)) a b := by
  intro x y hx hxy hy
  unfold up1
  by_cases c1 : y < i - 1
  · have cx : a ≤ x ∧ x < i - 1 := by omega
    have cy : a ≤ y ∧ y < i - 1 := by omega
    rw [if_pos cx, if_pos cy]
    exact hs (x + 1) (y + 1) (by omega) (by omega) (by omega)
  · rw [if_neg (show ¬ (a ≤ y ∧ y < i - 1) by omega)]
    by_cases c2 : y = i - 1
    · have cx : a ≤ x ∧ x < i - 1 := by omega
      rw [if_pos c2, if_pos cx]
      have := h1 (x + 1) (by omega) (by omega)
      omega
    · rw [if_neg c2]
      by_cases c3 : x < i - 1
      · have cx : a ≤ x ∧ x < i - 1 := by omega
        rw [if_pos cx]
        exact hs (x + 1) y (by omega) (by omega) hy
      · have cx : ¬ (a ≤ x ∧ x < i - 1) := by omega
        rw [if_neg cx]
        by_cases c4 : x = i - 1
        · rw [if_pos c4]
          have := h2 y (by omega) hy
          rw [cT_anti]; omega
        · rw [if_neg c4]
          exact hs x y (by omega) hxy hy
set_option linter.unusedSimpArgs false in
set_option maxHeartbeats 8000000 in
set_option maxRecDepth 1000000 in
theorem merge1_any (w0 W : World) (g n cap a m b : Nat) (e : Nat → T) (d : Array T) (hd : Is d n e) (h : Hd w0 W g d) (hf : AllF w0 g n e) (ham : m = a + 1) (hmb : m < b) (hb : b ≤ n) (hn : n ≤ 4611686018427387904) (hs : Sorted e m b) :
    Calls Tryz.prog 97 #[.slice (some ⟨g, 0, none⟩) n cap, .int .i64 a, .int .i64 m, .int .i64 b, CF] W fun en w' => en = .returned (.tuple #[]) ∧ ∃ d' e', Is d' n e' ∧ SameR e e' a b ∧ Sorted e' a b ∧ Hd w0 w' g d' := by
  have HD := Lib.hid hd
  have H := Lib.hid h
  have HF := Lib.hid hf
  have HSO := Lib.hid hs
  clear hd h hf hs
  have mixed : Tryz.prog.follows .mixedOrders = true := by kernel_rfl
  have aE := Tryz.isAgg29
  obtain ⟨k4, hk4⟩ : ∃ k4 : Nat, k4 = 4 := ⟨_, rfl⟩
  have zE := Tryz.sizeOf29
  rw [← hk4] at zE
  have HK4 := Lib.hid hk4
  clear hk4
  have aI := Tryz.isAgg3
  have zI := Tryz.sizeOf3
  have g1 : ((m : Int) - (a : Int)) = 1 := by omega
  have ga1 : (a : Int) < (n : Int) := by omega
  have ga0 : (0 : Int) ≤ (a : Int) := by omega
  have HAM := Lib.hid ham
  clear ham
  go_enter Tryz.func97, Tryz.ntmps97
  go_wp2_with fail
  go_loopg [10, 11] (b - m) (fun q vi vj wr => ∃ (i j : Nat), vi = .int .i64 i ∧ vj = .int .i64 j ∧ m ≤ i ∧ i ≤ j ∧ j ≤ b ∧ q = j - i ∧ (∀ x, m ≤ x → x < i → cT (e x) (e a) < 0) ∧ (∀ x, j ≤ x → x < b → ¬ cT (e x) (e a) < 0) ∧ Hd w0 wr g d)
  case atStart => exact ⟨m, b, rfl, rfl, by omega, by omega, by omega, rfl, fun x _ _ => by omega, fun x _ _ => by omega, H.out⟩
  case round =>
    obtain ⟨i, j, rfl, rfl, hi1, hij, hj1, rfl, hlo, hhi, hH⟩ := hrel
    have HLO := Lib.hid hlo
    have HHI := Lib.hid hhi
    have HH := Lib.hid hH
    clear hlo hhi hH
    by_cases hlt : i < j
    · have gi : (i : Int) < (j : Int) := by omega
      obtain ⟨c, hc⟩ : ∃ c, (i + j) / 2 = c := ⟨_, rfl⟩
      have gc : (((i : Int) + (j : Int)) / 2) = (c : Int) := by omega
      have hc1 : i ≤ c := by omega
      have hc2 : c < j := by omega
      have gc1 : (c : Int) < (n : Int) := by omega
      have gc0 : (0 : Int) ≤ (c : Int) := by omega
      have hcn : c < n := by omega
      have han : a < n := by omega
      have hcmp := HH.out.compare HD.out HF.out hcn han
      have hmv := fun (W' : World) (hB : Below _ _ W') => (HH.out.next hB).moves (i := c) (j := a) (by rw [HD.out.1]; omega) (by rw [HD.out.1]; omega)
      obtain ⟨cJ, hcJ⟩ : ∃ c, c = encT d[a]! := ⟨_, rfl⟩
      obtain ⟨cP, hcP⟩ : ∃ x, x = encT d[c]! := ⟨_, rfl⟩
      rw [← hcJ, ← hcP] at hcmp
      simp only [← hcJ, ← hcP] at hmv
      simp only [← HK4.out] at hmv
      have LD := Lib.hid fun (W' : World) (hB : Below _ _ W') => (⟨(hmv W' hB).2.1, (hmv W' hB).1⟩ : Sem.run Tryz.prog (loadCellsFrom ⟨g, c * k4, none⟩ 0 k4 #[]) W' = .ok cP.toArray W' ∧ Sem.run Tryz.prog (loadCellsFrom ⟨g, a * k4, none⟩ 0 k4 #[]) W' = .ok cJ.toArray W')
      have HC := Lib.hid hcmp
      obtain ⟨cc, hcc⟩ : ∃ cc, cT (e c) (e a) = cc := ⟨_, rfl⟩
      rw [hcc] at HC
      have HCC := Lib.hid hcc
      clear hcJ hcP hcc hmv hcmp hc
      by_cases hlv : cc < 0
      · go_wp2_with fail
        go_region_held3 (fun w' => Sem.run Tryz.prog (loadCellsFrom ⟨g, c * k4, none⟩ 0 k4 #[]) w' = .ok cP.toArray w' ∧ Sem.run Tryz.prog (loadCellsFrom ⟨g, a * k4, none⟩ 0 k4 #[]) w' = .ok cJ.toArray w')
          (first
            | exact LD.out _ (Below.refl _ _).drew
            | exact LD.out _ HB2.out)
          (first
            | (go_at_call 36; refine (HC.out _ (Below.refl _ _).drew).mono ?_; rintro en w2 ⟨rfl, hB⟩; have HB2 := Lib.hid (up (Below.refl _ _).drew hB); clear hB))
        go_wp2_with fail
        go_roundg (j - (c + 1))
        case measure => omega
        case rel =>
          refine ⟨c + 1, j, by go_num, rfl, by omega, by omega, hj1, rfl, fun x hx1 hx2 => ?_, HHI.out, HH.out.next HB2.out⟩
          by_cases hx : x = c
          · rw [hx, HCC.out]; exact hlv
          · have h1 := HSO.out x c hx1 (by omega) (by omega)
            have h2 := HCC.out
            rcases Int.lt_or_le (cT (e x) (e a)) 0 with h3 | h3
            · exact h3
            · exfalso
              have h4 : cT (e a) (e x) ≤ 0 := by rw [cT_anti]; omega
              have h5 := cT_trans h4 h1
              rw [cT_anti] at h5
              omega
      · have hlv' : ¬ cc < 0 := hlv
        go_wp2_with fail
        go_region_held3 (fun w' => Sem.run Tryz.prog (loadCellsFrom ⟨g, c * k4, none⟩ 0 k4 #[]) w' = .ok cP.toArray w' ∧ Sem.run Tryz.prog (loadCellsFrom ⟨g, a * k4, none⟩ 0 k4 #[]) w' = .ok cJ.toArray w')
          (first
            | exact LD.out _ (Below.refl _ _).drew
            | exact LD.out _ HB2.out)
          (first
            | (go_at_call 36; refine (HC.out _ (Below.refl _ _).drew).mono ?_; rintro en w2 ⟨rfl, hB⟩; have HB2 := Lib.hid (up (Below.refl _ _).drew hB); clear hB))
        go_wp2_with fail
        go_roundg (c - i)
        case measure => omega
        case rel =>
          refine ⟨i, c, rfl, rfl, hi1, hc1, by omega, rfl, HLO.out, fun x hx1 hx2 => ?_, HH.out.next HB2.out⟩
          have h2 := HCC.out
          by_cases hx : x = c
          · rw [hx, h2]; omega
          · have h1 := HSO.out c x (by omega) (by omega) hx2
            have h6 : cT (e a) (e c) ≤ 0 := by rw [cT_anti]; omega
            have h7 := cT_trans h6 h1
            rw [cT_anti] at h7
            omega
    · have gi : ¬ (i : Int) < (j : Int) := by omega
      obtain rfl : i = j := by omega
      go_wp2_with fail
      have HH2 := HH
      go_loopg [13] (i - 1 - a) (fun q vk wr2 => ∃ (k : Nat) (dk : Array T) (ek : Nat → T), vk = .int .i64 k ∧ a ≤ k ∧ k ≤ i - 1 ∧ q = i - 1 - k ∧ Is dk n ek ∧ SameR e ek a b ∧ Hid (ek = up1 e a k) ∧ Hd w0 wr2 g dk)
      case atStart => exact ⟨a, d, e, rfl, by omega, by omega, rfl, HD.out, SameR.refl _ _ _, Lib.hid (up1_start e a).symm, HH.out⟩
      case round =>
        obtain ⟨k, dk, ek, rfl, hk1, hk2, rfl, hI, hS, hE, hH⟩ := hrel
        have gim : ((i : Int) - 1) = ((i - 1 : Nat) : Int) := by omega
        by_cases hkl : k < i - 1
        · obtain ⟨s, hs⟩ : ∃ s, k + 1 = s := ⟨_, rfl⟩
          have gk : (k : Int) < (i : Int) - 1 := by omega
          have gs : ((k : Int) + 1) = (s : Int) := by omega
          have gs1 : (s : Int) < (n : Int) := by omega
          have gk1 : (k : Int) < (n : Int) := by omega
          have gs0 : (0 : Int) ≤ (s : Int) := by omega
          have gk0 : (0 : Int) ≤ (k : Int) := by omega
          obtain ⟨lj2, lp2, s1, s2⟩ := hH.drew.moves (i := k) (j := s) (by rw [hI.1]; omega) (by rw [hI.1]; omega)
          have HSW := Lib.hid (hH.drew.swap (i := k) (j := s) (by rw [hI.1]; omega) (by rw [hI.1]; omega))
          have HN := Lib.hid (sw_is hI (show k < n by omega) (show s < n by omega))
          have HS := Lib.hid (hS.trans (sw_same ek (i := k) (j := s) (by omega) (by omega) (by omega) (by omega)))
          have HE2 : Hid (sw ek k s = up1 e a s) := Lib.hid (by rw [hE.out, ← hs]; exact up1_next e hk1)
          have hsJ : (encT dk[s]!).length = 4 := rfl
          have hsP : (encT dk[k]!).length = 4 := rfl
          rw [← HK4.out] at lj2 lp2 s1 s2 HSW hsJ hsP
          obtain ⟨cJ, hcJ⟩ : ∃ c, c = encT dk[s]! := ⟨_, rfl⟩
          obtain ⟨cP, hcP⟩ : ∃ c, c = encT dk[k]! := ⟨_, rfl⟩
          rw [← hcP] at s2 lp2 hsP HSW
          rw [← hcJ] at lj2 hsJ s1 s2 HSW
          have HSS := Lib.hid hs
          clear hcJ hcP hI hH hS hE hs gim
          go_wp2_with fail
          go_big_region_o
          all_goals go_wp2
          go_roundg (i - 1 - s)
          case measure => have := HSS.out; omega
          case rel => exact ⟨s, _, _, by have := HSS.out; go_num, by have := HSS.out; omega, by have := HSS.out; omega, rfl, HN.out, HS.out, HE2, HSW.out⟩
        · have gk : ¬ (k : Int) < (i : Int) - 1 := by omega
          obtain rfl : k = i - 1 := by omega
          have HI := Lib.hid hI
          have HS := Lib.hid hS
          have HH3 := Lib.hid hH
          have HAM2 := HAM.out
          have HSR : Hid (Sorted ek a b) := Lib.hid (by
            rw [hE.out]
            refine up1_sorted (by rw [← HAM.out]; exact HSO.out) (by omega) hj1 (fun x h1 h2 => HLO.out x (by omega) h2) HHI.out)
          clear hI hS hH hE HAM2
          go_wp2_with fail
          refine bodyPost_ret (results_none (by rfl) _ _ _) rfl ?_
          exact ⟨rfl, dk, ek, HI.out, HS.out, HSR.out, HH3.out⟩
end Go.Proofs.YtedabholcldgbaaGreatDoor.So
