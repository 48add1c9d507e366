/- slices.symMergeCmpFunc at forms: one element behind a sorted stretch. -/
import Derived.Test.YtedabholcldgbaaGreatDoorSoM1
namespace Go.Proofs.YtedabholcldgbaaGreatDoor.So
open Go.RowKit Go.Deep Go.Sort Go.Shelf

/-- The element at m has gone down to k. -/
def dn1 (e : Nat → T) (m k x : Nat) : T := if k < x ∧ x ≤ m then e (x - 1) else if x = k then e m else e x
theorem dn1_start (e : Nat → T) (m : Nat) : dn1 e m m = e := by
  funext x
  unfold dn1
  rw [if_neg (by omega)]
  split
  · rename_i h; rw [h]
  · rfl
theorem dn1_next (e : Nat → T) {m p : Nat} (h : p + 1 ≤ m) : sw (dn1 e m (p + 1)) (p + 1) p = dn1 e m p := by
  funext x
  unfold sw dn1
  by_cases c1 : x = p
  · subst c1
    rw [if_pos rfl, if_neg (by omega), if_pos rfl, if_neg (by omega), if_pos rfl]
  · rw [if_neg c1]
    by_cases c2 : x = p + 1
    · subst c2
      rw [if_pos rfl, if_neg (by omega), if_neg (by omega), if_pos (by omega)]
      rfl
    · rw [if_neg c2]
      by_cases c3 : p + 1 < x ∧ x ≤ m
      · rw [if_pos c3, if_pos (by omega)]
      · have c3' : ¬ (p < x ∧ x ≤ m) := by omega
        rw [if_neg c3, if_neg c2, if_neg c3', if_neg c1]
theorem dn1_sorted {e : Nat → T} {a m i : Nat} (hs : Sorted e a m) (hi : a ≤ i) (him : i ≤ m) (h1 : ∀ x, a ≤ x → x < i → cT (e x) (e m) ≤ 0) (h2 : ∀ x, i ≤ x → x < m → cT (e m) (e x) < 0) : Sorted (dn1 e m i) a (m + 1) := by
  intro x y hx hxy hy
  unfold dn1
  by_cases c1 : i < y
  · have cy : i < y ∧ y ≤ m := ⟨c1, by omega⟩
    rw [if_pos cy]
    by_cases c2 : i < x
    · have cx : i < x ∧ x ≤ m := ⟨c2, by omega⟩
      rw [if_pos cx]
      exact hs (x - 1) (y - 1) (by omega) (by omega) (by omega)
    · have cx : ¬ (i < x ∧ x ≤ m) := by omega
      rw [if_neg cx]
      by_cases c3 : x = i
      · rw [if_pos c3]
        have := h2 (y - 1) (by omega) (by omega)
        omega
      · rw [if_neg c3]
        exact hs x (y - 1) hx (by omega) (by omega)
  · have cy : ¬ (i < y ∧ y ≤ m) := by omega
    have cx : ¬ (i < x ∧ x ≤ m) := by omega
    rw [if_neg cy, if_neg cx, if_neg (show ¬ x = i by omega)]
    by_cases c3 : y = i
    · rw [if_pos c3]
      exact h1 x hx (by omega)
    · rw [if_neg c3]
      exact hs x y hx hxy (by omega)
set_option linter.unusedSimpArgs false in
set_option maxHeartbeats 8000000 in
set_option maxRecDepth 1000000 in
theorem merge2_any (w0 W : World) (g n cap a m b : Nat) (e : Nat → T) (d : Array T) (hd : Is d n e) (h : Hd w0 W g d) (hf : AllF w0 g n e) (ham : a + 1 < m) (hmb : b = m + 1) (hb : b ≤ n) (hn : n ≤ 4611686018427387904) (hs : Sorted e a m) :
    Calls Tryz.prog 97 #[.slice (some ⟨g, 0, none⟩) n cap, .int .i64 a, .int .i64 m, .int .i64 b, CF] W fun en w' => en = .returned (.tuple #[]) ∧ ∃ d' e', Is d' n e' ∧ SameR e e' a b ∧ Sorted e' a b ∧ Hd w0 w' g d' := by
  have HD := Lib.hid hd
  have H := Lib.hid h
  have HF := Lib.hid hf
  have HSO := Lib.hid hs
  clear hd h hf hs
  have mixed : Tryz.prog.follows .mixedOrders = true := by kernel_rfl
  have aE := Tryz.isAgg29
  obtain ⟨k4, hk4⟩ : ∃ k4 : Nat, k4 = 4 := ⟨_, rfl⟩
  have zE := Tryz.sizeOf29
  rw [← hk4] at zE
  have HK4 := Lib.hid hk4
  clear hk4
  have aI := Tryz.isAgg3
  have zI := Tryz.sizeOf3
  have g1 : (((m : Int) - (a : Int)) == 1) = false := by simp; omega
  have g2 : ((b : Int) - (m : Int)) = 1 := by omega
  have ga1 : (m : Int) < (n : Int) := by omega
  have ga0 : (0 : Int) ≤ (m : Int) := by omega
  have HMB := Lib.hid hmb
  have hmn : m < n := by omega
  clear hmb
  go_enter Tryz.func97, Tryz.ntmps97
  go_wp2_with fail
  go_loopg [14, 15] (m - a) (fun q vi vj wr => ∃ (i j : Nat), vi = .int .i64 i ∧ vj = .int .i64 j ∧ a ≤ i ∧ i ≤ j ∧ j ≤ m ∧ q = j - i ∧ (∀ x, a ≤ x → x < i → cT (e x) (e m) ≤ 0) ∧ (∀ x, j ≤ x → x < m → cT (e m) (e x) < 0) ∧ Hd w0 wr g d)
  case atStart => exact ⟨a, m, rfl, rfl, by omega, by omega, by omega, rfl, fun x _ _ => by omega, fun x _ _ => by omega, H.out⟩
  case round =>
    obtain ⟨i, j, rfl, rfl, hi1, hij, hj1, rfl, hlo, hhi, hH⟩ := hrel
    have HLO := Lib.hid hlo
    have HHI := Lib.hid hhi
    have HH := Lib.hid hH
    clear hlo hhi hH
    by_cases hlt : i < j
    · have gi : (i : Int) < (j : Int) := by omega
      obtain ⟨c, hc⟩ : ∃ c, (i + j) / 2 = c := ⟨_, rfl⟩
      have gc : (((i : Int) + (j : Int)) / 2) = (c : Int) := by omega
      have hc1 : i ≤ c := by omega
      have hc2 : c < j := by omega
      have gc1 : (c : Int) < (n : Int) := by omega
      have gc0 : (0 : Int) ≤ (c : Int) := by omega
      have hcn : c < n := by omega
      have hcmp := HH.out.compare HD.out HF.out hmn hcn
      have hmv := fun (W' : World) (hB : Below _ _ W') => (HH.out.next hB).moves (i := m) (j := c) (by rw [HD.out.1]; omega) (by rw [HD.out.1]; omega)
      obtain ⟨cJ, hcJ⟩ : ∃ x, x = encT d[c]! := ⟨_, rfl⟩
      obtain ⟨cP, hcP⟩ : ∃ x, x = encT d[m]! := ⟨_, rfl⟩
      rw [← hcJ, ← hcP] at hcmp
      simp only [← hcJ, ← hcP] at hmv
      simp only [← HK4.out] at hmv
      have LD := Lib.hid fun (W' : World) (hB : Below _ _ W') => (⟨(hmv W' hB).2.1, (hmv W' hB).1⟩ : Sem.run Tryz.prog (loadCellsFrom ⟨g, m * k4, none⟩ 0 k4 #[]) W' = .ok cP.toArray W' ∧ Sem.run Tryz.prog (loadCellsFrom ⟨g, c * k4, none⟩ 0 k4 #[]) W' = .ok cJ.toArray W')
      have HC := Lib.hid hcmp
      obtain ⟨cc, hcc⟩ : ∃ cc, cT (e m) (e c) = cc := ⟨_, rfl⟩
      rw [hcc] at HC
      have HCC := Lib.hid hcc
      clear hcJ hcP hcc hmv hcmp hc
      by_cases hlv : cc < 0
      · go_wp2_with fail
        go_region_held3 (fun w' => Sem.run Tryz.prog (loadCellsFrom ⟨g, m * k4, none⟩ 0 k4 #[]) w' = .ok cP.toArray w' ∧ Sem.run Tryz.prog (loadCellsFrom ⟨g, c * k4, none⟩ 0 k4 #[]) w' = .ok cJ.toArray w')
          (first
            | exact LD.out _ (Below.refl _ _).drew
            | exact LD.out _ HB2.out)
          (first
            | (go_at_call 36; refine (HC.out _ (Below.refl _ _).drew).mono ?_; rintro en w2 ⟨rfl, hB⟩; have HB2 := Lib.hid (up (Below.refl _ _).drew hB); clear hB))
        go_wp2_with fail
        go_roundg (c - i)
        case measure => omega
        case rel =>
          refine ⟨i, c, rfl, rfl, hi1, hc1, by omega, rfl, HLO.out, fun x hx1 hx2 => ?_, HH.out.next HB2.out⟩
          have h2 := HCC.out
          by_cases hx : x = c
          · rw [hx, h2]; exact hlv
          · have h1 := HSO.out c x (by omega) (by omega) hx2
            rcases Int.lt_or_le (cT (e m) (e x)) 0 with h3 | h3
            · exact h3
            · exfalso
              have h4 : cT (e x) (e m) ≤ 0 := by rw [cT_anti]; omega
              have h5 := cT_trans h1 h4
              rw [cT_anti] at h5
              omega
      · have hlv' : ¬ cc < 0 := hlv
        have dcc : decide (cc < 0) = false := by simp; omega
        go_wp2_with fail
        go_region_held3 (fun w' => Sem.run Tryz.prog (loadCellsFrom ⟨g, m * k4, none⟩ 0 k4 #[]) w' = .ok cP.toArray w' ∧ Sem.run Tryz.prog (loadCellsFrom ⟨g, c * k4, none⟩ 0 k4 #[]) w' = .ok cJ.toArray w')
          (first
            | exact LD.out _ (Below.refl _ _).drew
            | exact LD.out _ HB2.out)
          (first
            | (go_at_call 36; refine (HC.out _ (Below.refl _ _).drew).mono ?_; rintro en w2 ⟨rfl, hB⟩; have HB2 := Lib.hid (up (Below.refl _ _).drew hB); clear hB))
        go_wp2_with fail
        go_roundg (j - (c + 1))
        case measure => omega
        case rel =>
          refine ⟨c + 1, j, by go_num, rfl, by omega, by omega, hj1, rfl, fun x hx1 hx2 => ?_, HHI.out, HH.out.next HB2.out⟩
          have h2 := HCC.out
          have h4 : cT (e c) (e m) ≤ 0 := by rw [cT_anti]; omega
          by_cases hx : x = c
          · rw [hx]; exact h4
          · exact cT_trans (HSO.out x c hx1 (by omega) (by omega)) h4
    · have gi : ¬ (i : Int) < (j : Int) := by omega
      obtain rfl : i = j := by omega
      go_wp2_with fail
      go_loopg [17] (m - i) (fun q vk wr2 => ∃ (k : Nat) (dk : Array T) (ek : Nat → T), vk = .int .i64 k ∧ i ≤ k ∧ k ≤ m ∧ q = k - i ∧ Is dk n ek ∧ SameR e ek a b ∧ Hid (ek = dn1 e m k) ∧ Hd w0 wr2 g dk)
      case atStart => exact ⟨m, d, e, rfl, by omega, by omega, rfl, HD.out, SameR.refl _ _ _, Lib.hid (dn1_start e m).symm, HH.out⟩
      case round =>
        obtain ⟨k, dk, ek, rfl, hk1, hk2, rfl, hI, hS, hE, hH⟩ := hrel
        have hbm := HMB.out
        by_cases hkl : i < k
        · obtain ⟨p, hp⟩ : ∃ p, p + 1 = k := ⟨k - 1, by omega⟩
          have gk : (i : Int) < (k : Int) := by omega
          have gp : ((k : Int) - 1) = (p : Int) := by omega
          have gk1 : (k : Int) < (n : Int) := by omega
          have gp1 : (p : Int) < (n : Int) := by omega
          have gk0 : (0 : Int) ≤ (k : Int) := by omega
          have gp0 : (0 : Int) ≤ (p : Int) := by omega
          obtain ⟨lj2, lp2, s1, s2⟩ := hH.drew.moves (i := k) (j := p) (by rw [hI.1]; omega) (by rw [hI.1]; omega)
          have HSW := Lib.hid (hH.drew.swap (i := k) (j := p) (by rw [hI.1]; omega) (by rw [hI.1]; omega))
          have HN := Lib.hid (sw_is hI (show k < n by omega) (show p < n by omega))
          have HS := Lib.hid (hS.trans (sw_same ek (i := k) (j := p) (by omega) (by omega) (by omega) (by omega)))
          have HE2 : Hid (sw ek k p = dn1 e m p) := Lib.hid (by rw [hE.out, ← hp]; exact dn1_next e (by omega))
          have hsJ : (encT dk[p]!).length = 4 := rfl
          have hsP : (encT dk[k]!).length = 4 := rfl
          rw [← HK4.out] at lj2 lp2 s1 s2 HSW hsJ hsP
          obtain ⟨cJ, hcJ⟩ : ∃ c, c = encT dk[p]! := ⟨_, rfl⟩
          obtain ⟨cP, hcP⟩ : ∃ c, c = encT dk[k]! := ⟨_, rfl⟩
          rw [← hcP] at s2 lp2 hsP HSW
          rw [← hcJ] at lj2 hsJ s1 s2 HSW
          have HPP := Lib.hid hp
          clear hcJ hcP hI hH hS hE hp hbm
          go_wp2_with fail
          go_big_region_o
          all_goals go_wp2
          go_roundg (p - i)
          case measure => have := HPP.out; omega
          case rel => exact ⟨p, _, _, rfl, by have := HPP.out; omega, by have := HPP.out; omega, rfl, HN.out, HS.out, HE2, HSW.out⟩
        · have gk : ¬ (i : Int) < (k : Int) := by omega
          obtain rfl : k = i := by omega
          have HI := Lib.hid hI
          have HS := Lib.hid hS
          have HH3 := Lib.hid hH
          have HSR : Hid (Sorted ek a b) := Lib.hid (by
            rw [hE.out, hbm]
            exact dn1_sorted HSO.out hi1 hj1 HLO.out HHI.out)
          clear hI hS hH hE hbm
          go_wp2_with fail
          refine bodyPost_ret (results_none (by rfl) _ _ _) rfl ?_
          exact ⟨rfl, dk, ek, HI.out, HS.out, HSR.out, HH3.out⟩
end Go.Proofs.YtedabholcldgbaaGreatDoor.So
