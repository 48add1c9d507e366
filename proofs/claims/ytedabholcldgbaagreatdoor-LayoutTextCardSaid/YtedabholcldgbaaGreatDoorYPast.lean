/- The document's own walk over a text: past. -/
import Derived.Test.YtedabholcldgbaaGreatDoorYItem0
namespace Go.Proofs.YtedabholcldgbaaGreatDoor.Y
open Go.RowKit Go.Deep

/-- What a word or a number goes on with. -/
def othB (b : Int) : Bool := !blankB b && (b != 40) && (b != 41) && (b != 34) && (b != 59)
def othF : List UInt8 → Nat
  | [] => 0
  | b :: r => if othB (b.toNat : Int) = true then othF r + 1 else 0
/-- How far one step goes. -/
def stC (b : UInt8) (r : List UInt8) : Nat := if b.toNat = 34 then qtF r + 2 else if b.toNat = 59 then endF r + 1 else if b.toNat = 40 ∨ b.toNat = 41 ∨ blankB (b.toNat : Int) = true then 1 else othF r + 1
def stD (b : UInt8) (d : Int) : Int := if b.toNat = 40 then d + 1 else if b.toNat = 41 then d - 1 else d
/-- How far it is behind the form that begins here, where d lists are open. -/
def pastF : Nat → List UInt8 → Int → Nat
  | 0, _, _ => 0
  | _ + 1, [], _ => 0
  | n + 1, b :: r, d => if stD b d = 0 then stC b r else stC b r + pastF n ((b :: r).drop (stC b r)) (stD b d)
theorem past_end (s : ByteArray) (n k : Nat) (d : Int) (h : s.size ≤ k) : pastF n (s.data.toList.drop k) d = 0 := by
  rw [List.drop_of_length_le (by simpa using h)]
  cases n <;> rw [pastF]
theorem oth_end (s : ByteArray) (k : Nat) (h : s.size ≤ k) : othF (s.data.toList.drop k) = 0 := by
  rw [List.drop_of_length_le (by simpa using h), othF]
theorem qtF_le (m : Nat) : ∀ l : List UInt8, l.length ≤ m → qtF l ≤ l.length + 1 := by
  induction m with
  | zero =>
    intro l h
    have e : l = [] := List.length_eq_zero_iff.1 (by omega)
    subst e
    rw [qtF]; omega
  | succ m ih =>
    intro l h
    cases l with
    | nil => rw [qtF]; omega
    | cons b r =>
      simp only [List.length_cons] at h ⊢
      rw [qtF]
      split
      · omega
      · split
        · cases r with
          | nil => rw [List.drop_nil, qtF]; simp
          | cons c r =>
            simp only [List.length_cons] at h
            have := ih r (by omega)
            simp only [List.drop_succ_cons, List.drop_zero, List.length_cons]; omega
        · have := ih r (by omega); omega
theorem othF_le : ∀ l : List UInt8, othF l ≤ l.length
  | [] => by simp [othF]
  | b :: r => by
    have := othF_le r
    rw [othF]
    split
    · simp only [List.length_cons]; omega
    · omega
theorem stC_le (b : UInt8) (r : List UInt8) : 1 ≤ stC b r ∧ stC b r ≤ r.length + 3 := by
  have h1 := qtF_le r.length r (Nat.le_refl _)
  have h2 := endF_le r
  have h3 := othF_le r
  unfold stC
  split
  · omega
  · split
    · omega
    · split
      · omega
      · omega
set_option linter.unusedSimpArgs false in
set_option maxRecDepth 100000 in
set_option maxHeartbeats 8000000 in
theorem past_any (s : ByteArray) (a : Nat) (ha : a ≤ s.size) (hs : s.size ≤ 1000000000) (w : World) :
    Calls Tryz.prog 88 #[.string s, .int .i64 a] w fun e w' => e = .returned (.int .i64 (a + pastF (s.size + 1) (s.data.toList.drop a) 0 : Nat)) ∧ w = w' := by
  obtain ⟨R, hR⟩ : ∃ R, a + pastF (s.size + 1) (s.data.toList.drop a) 0 = R := ⟨_, rfl⟩
  rw [hR]
  have hs1 : (s.size : Int) ≤ 1000000000 := by omega
  have HR := Lib.hid hR
  have HQ := Lib.hid fun (k : Nat) (hk : k < s.size) => quoted_any s k hk hs w
  have HE := Lib.hid fun (k : Nat) (hk : k ≤ s.size) => ends_any s k hk hs w
  have HBL := Lib.hid fun (b : Int) => rblank_ok b w
  clear hR
  go_enter Tryz.func88, Tryz.ntmps88
  go_wp2_with fail
  go_loopg [1, 5, 6] (s.size + 3 - a) (fun m i d _ wr => ∃ (k n : Nat) (x : Int), k ≤ s.size + 2 ∧ m = s.size + 3 - k ∧ i = .int .i64 k ∧ d = .int .i64 x ∧ R = k + pastF n (s.data.toList.drop k) x ∧ s.size < n + k ∧ -k ≤ x ∧ x ≤ k ∧ w = wr)
  case atStart => exact ⟨a, s.size + 1, 0, by omega, rfl, rfl, rfl, HR.out.symm, by omega, by omega, by omega, rfl⟩
  case round =>
    obtain ⟨k, n, x, hk, rfl, rfl, rfl, hr, hn, hx0, hx1, rfl⟩ := hrel
    by_cases hlt : k < s.size
    · have gi : (k : Int) < (s.size : Int) := by omega
      have gi2 : (0 : Int) ≤ (k : Int) := by omega
      obtain ⟨n', rfl⟩ : ∃ n', n = n' + 1 := by
        cases n with
        | zero => exact absurd hn (by omega)
        | succ n' => exact ⟨n', rfl⟩
      have hcl := stC_le s[k] (s.data.toList.drop (k + 1))
      have hdl : (s.data.toList.drop (k + 1)).length = s.size - (k + 1) := by simp
      rw [hdl] at hcl
      obtain ⟨C, hC⟩ : ∃ C, stC s[k] (s.data.toList.drop (k + 1)) = C := ⟨_, rfl⟩
      obtain ⟨D, hD⟩ : ∃ D, stD s[k] x = D := ⟨_, rfl⟩
      have hr2 : (D = 0 → R = k + C) ∧ (D ≠ 0 → R = (k + C) + pastF n' (s.data.toList.drop (k + C)) D) := by
        rw [drop_byte' s k hlt, pastF, hC, hD, ← drop_byte' s k hlt, List.drop_drop] at hr
        constructor
        · intro h; rw [if_pos h] at hr; exact hr
        · intro h; rw [if_neg h] at hr; first | (rw [hr]; omega) | (rw [show C + k = k + C by omega] at hr; rw [hr]; omega)
      rw [hC] at hcl
      have HR2 := Lib.hid hr2
      have hDb : D ≤ x + 1 ∧ x - 1 ≤ D := by rw [← hD]; unfold stD; split <;> (try split) <;> omega
      clear hr hr2
      by_cases h34 : s[k].toNat = 34
      · have g1 : ((s[k].toNat : Int) == 34) = true := by simp; omega
        have hCC : k + 2 + qtF (s.data.toList.drop (k + 1)) = k + C := by rw [← hC]; unfold stC; rw [if_pos h34]; omega
        have hDD : D = x := by rw [← hD]; unfold stD; rw [if_neg (by omega), if_neg (by omega)]
        subst hDD
        have HQ2 := HQ.out k hlt
        rw [hCC] at HQ2
        have HQ2 := Lib.hid HQ2
        clear h34 hC hD hCC
        by_cases hd0 : D = 0
        · have HF := Lib.hid (HR2.out.1 hd0)
          have g9 : (D == 0) = true := by simpa using hd0
          clear hd0
          go_wp2_with (go_at_call 130; (with_reducible refine HQ2.out.mono ?_); rintro e w' ⟨rfl, rfl⟩)
          go_ret
          exact ⟨ret_int (by have := HF.out; omega), rfl⟩
        · have HF := Lib.hid (HR2.out.2 hd0)
          have g9 : (D == 0) = false := by simpa using hd0
          clear hd0
          go_wp2_with (go_at_call 130; (with_reducible refine HQ2.out.mono ?_); rintro e w' ⟨rfl, rfl⟩)
          go_roundg (s.size + 3 - (k + C))
          case measure => omega
          case rel => exact ⟨k + C, n', D, by omega, rfl, rfl, rfl, HF.out, by omega, by omega, by omega, rfl⟩
      · have g1 : ((s[k].toNat : Int) == 34) = false := by simp; omega
        by_cases h59 : s[k].toNat = 59
        · have g2 : ((s[k].toNat : Int) == 59) = true := by simp; omega
          have hCC : k + endF (s.data.toList.drop k) = k + C := by rw [← hC, drop_byte' s k hlt, endF, if_neg (by omega)]; unfold stC; rw [if_neg h34, if_pos h59]
          have hDD : D = x := by rw [← hD]; unfold stD; rw [if_neg (by omega), if_neg (by omega)]
          have HE2 := HE.out k (by omega)
          rw [hCC] at HE2
          have HE2 := Lib.hid HE2
          clear h34 h59 hC hD hCC
          subst hDD
          by_cases hd0 : D = 0
          · have HF := Lib.hid (HR2.out.1 hd0)
            have g9 : (D == 0) = true := by simp; omega
            clear hd0
            go_wp2_with (go_at_call 86; (with_reducible refine HE2.out.mono ?_); rintro e w' ⟨rfl, rfl⟩)
            go_ret
            exact ⟨ret_int (by have := HF.out; omega), rfl⟩
          · have HF := Lib.hid (HR2.out.2 hd0)
            have g9 : (D == 0) = false := by simp; omega
            clear hd0
            go_wp2_with (go_at_call 86; (with_reducible refine HE2.out.mono ?_); rintro e w' ⟨rfl, rfl⟩)
            go_roundg (s.size + 3 - (k + C))
            case measure => omega
            case rel => exact ⟨k + C, n', D, by omega, rfl, by go_num, by go_num, HF.out, by omega, by omega, by omega, rfl⟩
        · have g2 : ((s[k].toNat : Int) == 59) = false := by simp; omega
          by_cases h40 : s[k].toNat = 40
          · have g3 : ((s[k].toNat : Int) == 40) = true := by simp; omega
            have hCC : C = 1 := by rw [← hC]; unfold stC; rw [if_neg h34, if_neg h59, if_pos (.inl h40)]
            have hDD : D = x + 1 := by rw [← hD]; unfold stD; rw [if_pos h40]
            clear h34 h59 h40 hC hD
            by_cases hd0 : D = 0
            · have HF := Lib.hid (HR2.out.1 hd0)
              have g9 : ((x + 1) == 0) = true := by simp; omega
              clear hd0
              go_wp2_with fail
              go_ret
              exact ⟨ret_int (by have := HF.out; omega), rfl⟩
            · have HF := Lib.hid (HR2.out.2 hd0)
              have g9 : ((x + 1) == 0) = false := by simp; omega
              clear hd0
              go_wp2_with fail
              go_roundg (s.size + 3 - (k + C))
              case measure => omega
              case rel => exact ⟨k + C, n', D, by omega, rfl, by go_num, by go_num, HF.out, by omega, by omega, by omega, rfl⟩
          · have g3 : ((s[k].toNat : Int) == 40) = false := by simp; omega
            by_cases h41 : s[k].toNat = 41
            · have g4 : ((s[k].toNat : Int) == 41) = true := by simp; omega
              have hCC : C = 1 := by rw [← hC]; unfold stC; rw [if_neg h34, if_neg h59, if_pos (.inr (.inl h41))]
              have hDD : D = x - 1 := by rw [← hD]; unfold stD; rw [if_neg h40, if_pos h41]
              clear h34 h59 h40 h41 hC hD
              by_cases hd0 : D = 0
              · have HF := Lib.hid (HR2.out.1 hd0)
                have g9 : ((x - 1) == 0) = true := by simp; omega
                clear hd0
                go_wp2_with fail
                go_ret
                exact ⟨ret_int (by have := HF.out; omega), rfl⟩
              · have HF := Lib.hid (HR2.out.2 hd0)
                have g9 : ((x - 1) == 0) = false := by simp; omega
                clear hd0
                go_wp2_with fail
                go_roundg (s.size + 3 - (k + C))
                case measure => omega
                case rel => exact ⟨k + C, n', D, by omega, rfl, by go_num, by go_num, HF.out, by omega, by omega, by omega, rfl⟩
            · have g4 : ((s[k].toNat : Int) == 41) = false := by simp; omega
              have hDD : D = x := by rw [← hD]; unfold stD; rw [if_neg h40, if_neg h41]
              have HBB := Lib.hid (HBL.out (s[k].toNat : Int))
              cases hb : blankB (s[k].toNat : Int) with
              | true =>
                rw [hb] at HBB
                have hCC : C = 1 := by rw [← hC]; unfold stC; rw [if_neg h34, if_neg h59, if_pos (.inr (.inr hb))]
                clear h34 h59 h40 h41 hC hD hb
                subst hDD
                by_cases hd0 : D = 0
                · have HF := Lib.hid (HR2.out.1 hd0)
                  have g9 : (D == 0) = true := by simp; omega
                  clear hd0
                  go_wp2_with (go_at_call 85; (with_reducible refine HBB.out.mono ?_); rintro e w' ⟨rfl, rfl⟩)
                  go_ret
                  exact ⟨ret_int (by have := HF.out; omega), rfl⟩
                · have HF := Lib.hid (HR2.out.2 hd0)
                  have g9 : (D == 0) = false := by simp; omega
                  clear hd0
                  go_wp2_with (go_at_call 85; (with_reducible refine HBB.out.mono ?_); rintro e w' ⟨rfl, rfl⟩)
                  go_roundg (s.size + 3 - (k + C))
                  case measure => omega
                  case rel => exact ⟨k + C, n', D, by omega, rfl, by go_num, by go_num, HF.out, by omega, by omega, by omega, rfl⟩
              | false =>
                rw [hb] at HBB
                have hCC : k + othF (s.data.toList.drop k) = k + C := by
                  rw [← hC, drop_byte' s k hlt, othF, if_pos (by unfold othB; rw [hb]; simp; omega)]
                  unfold stC
                  rw [if_neg h34, if_neg h59, if_neg (by rw [hb]; simp; omega)]
                have HCC := Lib.hid hCC
                clear h34 h59 h40 h41 hC hD hb hCC
                subst hDD
                go_wp2_with (go_at_call 85; (with_reducible refine HBB.out.mono ?_); rintro e w' ⟨rfl, rfl⟩)
                go_loopg [1] (s.size - k) (fun m i wr => ∃ j : Nat, k ≤ j ∧ j ≤ s.size ∧ m = s.size - j ∧ i = .int .i64 j ∧ j + othF (s.data.toList.drop j) = k + C ∧ w = wr)
                case atStart => exact ⟨k, by omega, by omega, rfl, rfl, HCC.out, rfl⟩
                case round =>
                  obtain ⟨j, hkj, hj, rfl, rfl, hoth, rfl⟩ := hrel
                  by_cases hjs : j < s.size
                  · have gj : (j : Int) < (s.size : Int) := by omega
                    have gj2 : (0 : Int) ≤ (j : Int) := by omega
                    rw [drop_byte' s j hjs, othF] at hoth
                    have HBJ := Lib.hid (HBL.out (s[j].toNat : Int))
                    cases hbj : blankB (s[j].toNat : Int) with
                    | true =>
                      rw [hbj] at HBJ
                      rw [if_neg (by unfold othB; rw [hbj]; simp)] at hoth
                      have hjC : j = k + C := by omega
                      clear hbj hoth
                      subst hjC
                      by_cases hd0 : D = 0
                      · have HF := Lib.hid (HR2.out.1 hd0)
                        have g9 : (D == 0) = true := by simp; omega
                        clear hd0
                        go_wp2_with (go_at_call 85; (with_reducible refine HBJ.out.mono ?_); rintro e w' ⟨rfl, rfl⟩)
                        go_ret
                        exact ⟨ret_int (by have := HF.out; omega), rfl⟩
                      · have HF := Lib.hid (HR2.out.2 hd0)
                        have g9 : (D == 0) = false := by simp; omega
                        clear hd0
                        go_wp2_with (go_at_call 85; (with_reducible refine HBJ.out.mono ?_); rintro e w' ⟨rfl, rfl⟩)
                        go_roundg (s.size + 3 - (k + C))
                        case measure => omega
                        case rel => exact ⟨k + C, n', D, by omega, rfl, rfl, rfl, HF.out, by omega, by omega, by omega, rfl⟩
                    | false =>
                      rw [hbj] at HBJ
                      by_cases a40 : s[j].toNat = 40
                      · have q40 : ((s[j].toNat : Int) != 40) = false := by simp; omega
                        rw [if_neg (by unfold othB; simp; omega)] at hoth
                        have hjC : j = k + C := by omega
                        clear hbj hoth a40
                        subst hjC
                        by_cases hd0 : D = 0
                        · have HF := Lib.hid (HR2.out.1 hd0)
                          have g9 : (D == 0) = true := by simp; omega
                          clear hd0
                          go_wp2_with (go_at_call 85; (with_reducible refine HBJ.out.mono ?_); rintro e w' ⟨rfl, rfl⟩)
                          go_ret
                          exact ⟨ret_int (by have := HF.out; omega), rfl⟩
                        · have HF := Lib.hid (HR2.out.2 hd0)
                          have g9 : (D == 0) = false := by simp; omega
                          clear hd0
                          go_wp2_with (go_at_call 85; (with_reducible refine HBJ.out.mono ?_); rintro e w' ⟨rfl, rfl⟩)
                          go_roundg (s.size + 3 - (k + C))
                          case measure => omega
                          case rel => exact ⟨k + C, n', D, by omega, rfl, rfl, rfl, HF.out, by omega, by omega, by omega, rfl⟩
                      · have q40 : ((s[j].toNat : Int) != 40) = true := by simp; omega
                        by_cases a41 : s[j].toNat = 41
                        · have q41 : ((s[j].toNat : Int) != 41) = false := by simp; omega
                          rw [if_neg (by unfold othB; simp; omega)] at hoth
                          have hjC : j = k + C := by omega
                          clear hbj hoth a40 a41
                          subst hjC
                          by_cases hd0 : D = 0
                          · have HF := Lib.hid (HR2.out.1 hd0)
                            have g9 : (D == 0) = true := by simp; omega
                            clear hd0
                            go_wp2_with (go_at_call 85; (with_reducible refine HBJ.out.mono ?_); rintro e w' ⟨rfl, rfl⟩)
                            go_ret
                            exact ⟨ret_int (by have := HF.out; omega), rfl⟩
                          · have HF := Lib.hid (HR2.out.2 hd0)
                            have g9 : (D == 0) = false := by simp; omega
                            clear hd0
                            go_wp2_with (go_at_call 85; (with_reducible refine HBJ.out.mono ?_); rintro e w' ⟨rfl, rfl⟩)
                            go_roundg (s.size + 3 - (k + C))
                            case measure => omega
                            case rel => exact ⟨k + C, n', D, by omega, rfl, rfl, rfl, HF.out, by omega, by omega, by omega, rfl⟩
                        · have q41 : ((s[j].toNat : Int) != 41) = true := by simp; omega
                          by_cases a34 : s[j].toNat = 34
                          · have q34 : ((s[j].toNat : Int) != 34) = false := by simp; omega
                            rw [if_neg (by unfold othB; simp; omega)] at hoth
                            have hjC : j = k + C := by omega
                            clear hbj hoth a40 a41 a34
                            subst hjC
                            by_cases hd0 : D = 0
                            · have HF := Lib.hid (HR2.out.1 hd0)
                              have g9 : (D == 0) = true := by simp; omega
                              clear hd0
                              go_wp2_with (go_at_call 85; (with_reducible refine HBJ.out.mono ?_); rintro e w' ⟨rfl, rfl⟩)
                              go_ret
                              exact ⟨ret_int (by have := HF.out; omega), rfl⟩
                            · have HF := Lib.hid (HR2.out.2 hd0)
                              have g9 : (D == 0) = false := by simp; omega
                              clear hd0
                              go_wp2_with (go_at_call 85; (with_reducible refine HBJ.out.mono ?_); rintro e w' ⟨rfl, rfl⟩)
                              go_roundg (s.size + 3 - (k + C))
                              case measure => omega
                              case rel => exact ⟨k + C, n', D, by omega, rfl, rfl, rfl, HF.out, by omega, by omega, by omega, rfl⟩
                          · have q34 : ((s[j].toNat : Int) != 34) = true := by simp; omega
                            by_cases a59 : s[j].toNat = 59
                            · have q59 : ((s[j].toNat : Int) != 59) = false := by simp; omega
                              rw [if_neg (by unfold othB; simp; omega)] at hoth
                              have hjC : j = k + C := by omega
                              clear hbj hoth a40 a41 a34 a59
                              subst hjC
                              by_cases hd0 : D = 0
                              · have HF := Lib.hid (HR2.out.1 hd0)
                                have g9 : (D == 0) = true := by simp; omega
                                clear hd0
                                go_wp2_with (go_at_call 85; (with_reducible refine HBJ.out.mono ?_); rintro e w' ⟨rfl, rfl⟩)
                                go_ret
                                exact ⟨ret_int (by have := HF.out; omega), rfl⟩
                              · have HF := Lib.hid (HR2.out.2 hd0)
                                have g9 : (D == 0) = false := by simp; omega
                                clear hd0
                                go_wp2_with (go_at_call 85; (with_reducible refine HBJ.out.mono ?_); rintro e w' ⟨rfl, rfl⟩)
                                go_roundg (s.size + 3 - (k + C))
                                case measure => omega
                                case rel => exact ⟨k + C, n', D, by omega, rfl, rfl, rfl, HF.out, by omega, by omega, by omega, rfl⟩
                            · have q59 : ((s[j].toNat : Int) != 59) = true := by simp; omega
                              rw [if_pos (by unfold othB; rw [hbj]; simp; omega)] at hoth
                              have HO := Lib.hid hoth
                              clear hbj hoth a40 a41 a34 a59
                              go_wp2_with (go_at_call 85; (with_reducible refine HBJ.out.mono ?_); rintro e w' ⟨rfl, rfl⟩)
                              go_roundg (s.size - (j + 1))
                              case measure => omega
                              case rel => exact ⟨j + 1, by omega, by omega, rfl, by go_num, by have := HO.out; omega, rfl⟩
                  · have gj : ¬ (j : Int) < (s.size : Int) := by omega
                    rw [oth_end s j (by omega)] at hoth
                    have hjC : j = k + C := by omega
                    clear hoth
                    subst hjC
                    by_cases hd0 : D = 0
                    · have HF := Lib.hid (HR2.out.1 hd0)
                      have g9 : (D == 0) = true := by simp; omega
                      clear hd0
                      go_wp2_with fail
                      go_ret
                      exact ⟨ret_int (by have := HF.out; omega), rfl⟩
                    · have HF := Lib.hid (HR2.out.2 hd0)
                      have g9 : (D == 0) = false := by simp; omega
                      clear hd0
                      go_wp2_with fail
                      go_roundg (s.size + 3 - (k + C))
                      case measure => omega
                      case rel => exact ⟨k + C, n', D, by omega, rfl, rfl, rfl, HF.out, by omega, by omega, by omega, rfl⟩
    · have gi : ¬ (k : Int) < (s.size : Int) := by omega
      have HR2 := Lib.hid (hr.trans (by rw [past_end s n k x (by omega)] : k + pastF n (s.data.toList.drop k) x = k + 0))
      clear hr
      go_wp2_with fail
      go_ret
      exact ⟨ret_int (by have := HR2.out; omega), rfl⟩
end Go.Proofs.YtedabholcldgbaaGreatDoor.Y
