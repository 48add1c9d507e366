/- The order of forms: what Compare and its callees return. -/
import Derived.Test.YtedabholcldgbaaGreatDoorProg
import Derived.Test.YtedabholcldgbaaGreatDoorBase
import Derived.Test.YtedabholcldgbaaGreatDoorShelf

import Derived.Deep.QuietTactic
import Derived.BigQuiet
import Derived.WalkLawsBesides
import Derived.WalkSpells
import Derived.Handy
import Derived.Deep.Draws
import Derived.Deep.Slices
import Derived.Deep.LoopGhost
namespace Go.Proofs.YtedabholcldgbaaGreatDoor
open Go.RowKit Go.Deep

theorem ret_int {k : IntKind} {a b : Int} (h : a = b) : Ending.returned (.int k a) = .returned (.int k b) := by rw [h]

theorem ret_bool {a b : Bool} (h : a = b) : Ending.returned (.bool a) = .returned (.bool b) := by rw [h]
/-- cmp.Compare of two ints. -/
theorem cmpInt_any (a b : Int) (w : World) :
    Calls Tryz.prog 65 #[.int .i64 a, .int .i64 b] w fun e w' => e = .returned (.int .i64 (cmpI a b)) ∧ w = w' := by
  rcases Int.lt_trichotomy a b with h | h | h
  · have e : cmpI a b = -1 := by unfold cmpI; rw [if_pos h]
    rw [e]
    go_enter Tryz.func65, Tryz.ntmps65
    go_wp2
    go_ret
    exact ⟨rfl, rfl⟩
  · subst h
    have e : cmpI a a = 0 := by unfold cmpI; rw [if_neg (by omega), if_neg (by omega)]
    rw [e]
    go_enter Tryz.func65, Tryz.ntmps65
    go_wp2
    go_ret
    exact ⟨rfl, rfl⟩
  · have e : cmpI a b = 1 := by unfold cmpI; rw [if_neg (by omega), if_pos h]
    rw [e]
    have h' : ¬ a < b := by omega
    go_enter Tryz.func65, Tryz.ntmps65
    go_wp2
    go_ret
    exact ⟨rfl, rfl⟩
def sgn (a b : Bool) : Int := if a = true then -1 else if b = true then 1 else 0
theorem sign_any (a b : Bool) (w : World) :
    Calls Tryz.prog 68 #[.bool a, .bool b] w fun e w' => e = .returned (.int .i64 (sgn a b)) ∧ w = w' := by
  cases a <;> cases b
  all_goals
    go_enter Tryz.func68, Tryz.ntmps68
    go_wp2
    go_ret
    exact ⟨rfl, rfl⟩

def EqUpTo (xs ys : List T) (k : Nat) : Prop := ∀ i (h : i < xs.length) (h' : i < ys.length), i < k → cmpF xs[i].form ys[i].form = 0
theorem EqUpTo.step {xs ys : List T} {k : Nat} (h : EqUpTo xs ys k) (h1 : k < xs.length) (h2 : k < ys.length) (e : cmpF xs[k].form ys[k].form = 0) : EqUpTo xs ys (k + 1) := by
  intro i hi hi' hk
  by_cases hik : i = k
  · subst hik; exact e
  · exact h i hi hi' (by omega)
theorem EqUpTo.drop {xs ys : List T} {k : Nat} (h : EqUpTo xs ys k) (h1 : k ≤ xs.length) (h2 : k ≤ ys.length) :
    cmpL (xs.map T.form) (ys.map T.form) = cmpL ((xs.drop k).map T.form) ((ys.drop k).map T.form) := by
  rw [cmpL_drop k _ _ (fun i hi hi' hk => by
    have := h i (by simpa using hi) (by simpa using hi') hk
    simpa using this) (by simpa using h1) (by simpa using h2)]
  simp [List.map_drop]
theorem EqUpTo.more {xs ys : List T} {k : Nat} (h : EqUpTo xs ys k) (h1 : k < xs.length) (h2 : k = ys.length) : cmpL (xs.map T.form) (ys.map T.form) = 1 := by
  rw [h.drop (by omega) (by omega), List.drop_eq_getElem_cons h1, List.drop_of_length_le (by omega : ys.length ≤ k)]
  rw [List.map_cons, List.map_nil, cmpL]
theorem EqUpTo.less {xs ys : List T} {k : Nat} (h : EqUpTo xs ys k) (h1 : k = xs.length) (h2 : k < ys.length) : cmpL (xs.map T.form) (ys.map T.form) = -1 := by
  rw [h.drop (by omega) (by omega), List.drop_eq_getElem_cons h2, List.drop_of_length_le (by omega : xs.length ≤ k)]
  rw [List.map_cons, List.map_nil, cmpL]
theorem EqUpTo.same {xs ys : List T} {k : Nat} (h : EqUpTo xs ys k) (h1 : k = xs.length) (h2 : k = ys.length) : cmpL (xs.map T.form) (ys.map T.form) = 0 := by
  rw [h.drop (by omega) (by omega), List.drop_of_length_le (by omega : xs.length ≤ k), List.drop_of_length_le (by omega : ys.length ≤ k)]
  simp [cmpL]
theorem EqUpTo.part {xs ys : List T} {k : Nat} (h : EqUpTo xs ys k) (h1 : k < xs.length) (h2 : k < ys.length) (e : cmpF xs[k].form ys[k].form ≠ 0) :
    cmpL (xs.map T.form) (ys.map T.form) = cmpF xs[k].form ys[k].form := by
  rw [h.drop (by omega) (by omega), List.drop_eq_getElem_cons h1, List.drop_eq_getElem_cons h2]
  rw [List.map_cons, List.map_cons, cmpL, if_pos e]

set_option maxHeartbeats 1000000 in
/-- slices.CompareFunc over two lists of forms, handed Compare. -/
theorem cmpFunc_any (xs ys : List T) (a1 a2 : Option Addr) (c1 c2 : Nat) (n1 : xs.length ≤ maxLen) (n2 : ys.length ≤ maxLen)
    (hcall : ∀ t ∈ xs, ∀ u ∈ ys, ∀ w, In w t → In w u → Calls Tryz.prog 36 #[t.val, u.val] w fun e w' => e = .returned (.int .i64 (cmpF t.form u.form)) ∧ Below w.heap.size w w')
    (w : World) (h1 : InL w a1 0 xs) (h2 : InL w a2 0 ys) :
    Calls Tryz.prog 67 #[.slice a1 xs.length c1, .slice a2 ys.length c2, .func (.func 36) #[] #[]] w
      fun e w' => e = .returned (.int .i64 (cmpL (xs.map T.form) (ys.map T.form))) ∧ Below w.heap.size w w' := by
  unfold maxLen at n1 n2
  have hcall' := Lib.hid hcall
  clear hcall
  go_enter Tryz.func67, Tryz.ntmps67
  go_wp2
  go_loopg [13] (xs.length) (fun m i wr => ∃ k : Nat, k ≤ xs.length ∧ k ≤ ys.length ∧ m = xs.length - k ∧ i = .int .i64 k ∧ EqUpTo xs ys k ∧ Below w.heap.size w wr)
  case atStart => exact ⟨0, by omega, by omega, rfl, rfl, fun i _ _ h => absurd h (by omega), Below.refl _ _⟩
  case round =>
    obtain ⟨k, hk1, hk2, rfl, rfl, hE, hB⟩ := hrel
    by_cases hlt : k < xs.length
    · have hw1 := h1.below hB
      obtain ⟨⟨b, o, rfl, hx0, hx1, hx2, hx3⟩, hin1⟩ := hw1.at k hlt
      by_cases hlt2 : k < ys.length
      · have hw2 := h2.below hB
        obtain ⟨⟨b', o', rfl, hy0, hy1, hy2, hy3⟩, hin2⟩ := hw2.at k hlt2
        clear hw1 hw2
        have lb : b < wr.heap.size := World.block_lt_of_cell? _ _ hx0
        have lb' : b' < wr.heap.size := World.block_lt_of_cell? _ _ hy0
        have HC := Lib.hid (hcall'.out xs[k] (List.getElem_mem hlt) ys[k] (List.getElem_mem hlt2))
        have HB := Lib.hid hB
        clear hB
        by_cases hz : cmpF xs[k].form ys[k].form = 0
        · rw [hz] at HC
          have HZ := Lib.hid hz
          clear hz
          go_wp2_with (go_at_call 36; refine (HC.out _ ((hin1.alloc _).alloc _) ((hin2.alloc _).alloc _)).mono ?_; rintro e w2 ⟨rfl, hB2⟩)
          go_roundg (xs.length - (k + 1))
          case measure => omega
          case rel => exact ⟨k + 1, by omega, by omega, rfl, by go_num, hE.step hlt hlt2 HZ.out, upB HB.out (up (bel2 _ _ _) hB2) (Nat.le_refl _)⟩
        · have HP := Lib.hid (hE.part hlt hlt2 hz)
          have hz' : (cmpF xs[k].form ys[k].form != 0) = true := by simpa using hz
          clear hz
          go_wp2_with (go_at_call 36; refine (HC.out _ ((hin1.alloc _).alloc _) ((hin2.alloc _).alloc _)).mono ?_; rintro e w2 ⟨rfl, hB2⟩)
          go_ret
          exact ⟨ret_int HP.out.symm, upB HB.out (up (bel2 _ _ _) hB2) (Nat.le_refl _)⟩
      · have HP := Lib.hid (hE.more hlt (by omega))
        have lb : b < wr.heap.size := World.block_lt_of_cell? _ _ hx0
        have HB := Lib.hid hB
        clear hB
        go_wp2_with fail
        go_ret
        exact ⟨ret_int HP.out.symm, HB.out.alloc HB.out.size _⟩
    · have HB := Lib.hid hB
      clear hB
      by_cases hlt2 : k < ys.length
      · have HP := Lib.hid (hE.less (by omega) hlt2)
        have hl : xs.length < ys.length := by omega
        go_wp2_with fail
        go_ret
        exact ⟨ret_int HP.out.symm, HB.out⟩
      · have HP := Lib.hid (hE.same (by omega) (by omega))
        have hl : ¬ xs.length < ys.length := by omega
        go_wp2_with fail
        go_ret
        exact ⟨ret_int HP.out.symm, HB.out⟩
theorem cmpT_eq (t u : T) : cmpF t.form u.form = if cmpI t.kd u.kd ≠ 0 then cmpI t.kd u.kd else if t.kd = 0 then cmpI t.nn u.nn else if t.kd = 1 ∨ t.kd = 2 then Lib.compareBytes t.tx.data.toList u.tx.data.toList else if t.kd = 3 then cmpL (t.ks.map T.form) (u.ks.map T.form) else 0 := by
  rw [cmpF_eq]; simp only [T.form_kd, T.form_nn, T.form_tx, T.form_ks]

set_option maxHeartbeats 1000000 in
/-- reader.Compare: the order of forms. -/
theorem compare_any (n : Nat) : ∀ t u : T, SizeOf.sizeOf t < n → ∀ w, In w t → In w u →
    Calls Tryz.prog 36 #[t.val, u.val] w fun e w' => e = .returned (.int .i64 (cmpF t.form u.form)) ∧ Below w.heap.size w w' := by
  induction n with
  | zero => intro t u h; omega
  | succ n ih =>
    intro t u hn w h1 h2
    have HE := cmpT_eq t u
    by_cases hc : cmpI t.kd u.kd = 0
    · rw [if_neg (by simpa using hc)] at HE
      have HC : Hid (∀ w, Calls Tryz.prog 65 #[.int .i64 t.kd, .int .i64 u.kd] w fun e w' => e = .returned (.int .i64 0) ∧ w = w') := by
        intro w; have := cmpInt_any t.kd u.kd w; rwa [hc] at this
      clear hc
      by_cases k0 : t.kd = 0
      · rw [if_pos k0] at HE
        rw [HE]
        have b0 : (t.kd == 0) = true := by simpa using k0
        clear HE k0
        go_enter Tryz.func36, Tryz.ntmps36
        go_wp2_with (first
            | (go_at_call 65; with_reducible refine (HC.out _).mono ?_; rintro e w2 ⟨rfl, rfl⟩)
            | (go_at_call 65; refine (cmpInt_any _ _ _).mono ?_; rintro e w2 ⟨rfl, rfl⟩)
            | (go_at_call 66; refine (Tryz.strings_Compare _ _ _).mono ?_; rintro e w2 ⟨rfl, rfl⟩))
        go_ret
        exact ⟨rfl, bel2 _ _ _⟩
      · rw [if_neg k0] at HE
        have b0 : (t.kd == 0) = false := by simpa using k0
        by_cases k1 : t.kd = 1
        · rw [if_pos (.inl k1)] at HE
          rw [HE]
          have b1 : (t.kd == 1) = true := by simpa using k1
          clear HE k1 k0
          go_enter Tryz.func36, Tryz.ntmps36
          go_wp2_with (first
            | (go_at_call 65; with_reducible refine (HC.out _).mono ?_; rintro e w2 ⟨rfl, rfl⟩)
            | (go_at_call 65; refine (cmpInt_any _ _ _).mono ?_; rintro e w2 ⟨rfl, rfl⟩)
            | (go_at_call 66; refine (Tryz.strings_Compare _ _ _).mono ?_; rintro e w2 ⟨rfl, rfl⟩))
          go_ret
          exact ⟨rfl, bel2 _ _ _⟩
        · have b1 : (t.kd == 1) = false := by simpa using k1
          by_cases k2 : t.kd = 2
          · rw [if_pos (.inr k2)] at HE
            rw [HE]
            have b2 : (t.kd == 2) = true := by simpa using k2
            clear HE k1 k0 k2
            go_enter Tryz.func36, Tryz.ntmps36
            go_wp2_with (first
            | (go_at_call 65; with_reducible refine (HC.out _).mono ?_; rintro e w2 ⟨rfl, rfl⟩)
            | (go_at_call 65; refine (cmpInt_any _ _ _).mono ?_; rintro e w2 ⟨rfl, rfl⟩)
            | (go_at_call 66; refine (Tryz.strings_Compare _ _ _).mono ?_; rintro e w2 ⟨rfl, rfl⟩))
            go_ret
            exact ⟨rfl, bel2 _ _ _⟩
          · rw [if_neg (by omega)] at HE
            have b2 : (t.kd == 2) = false := by simpa using k2
            by_cases k3 : t.kd = 3
            · rw [if_pos k3] at HE
              rw [HE]
              have b3 : (t.kd == 3) = true := by simpa using k3
              clear HE k1 k0 k2 k3
              have HF : Hid (∀ w', In w' t → In w' u → Calls Tryz.prog 67 #[.slice t.ad t.ks.length t.cp, .slice u.ad u.ks.length u.cp, .func (.func 36) #[] #[]] w'
                  fun e w'' => e = .returned (.int .i64 (cmpL (t.ks.map T.form) (u.ks.map T.form))) ∧ Below w'.heap.size w' w'') := fun w' g1 g2 =>
                cmpFunc_any t.ks u.ks t.ad u.ad t.cp u.cp (Nat.le_trans h1.ok.le h1.ok.cp) (Nat.le_trans h2.ok.le h2.ok.cp)
                  (fun x hx y _ w'' i1 i2 => ih x y (by have := T.kid_lt hx; omega) w'' i1 i2) w' g1.inL g2.inL
              clear ih
              go_enter Tryz.func36, Tryz.ntmps36
              go_wp2_with (first
                | (go_at_call 67; refine (HF.out _ ((h1.alloc _).alloc _) ((h2.alloc _).alloc _)).mono ?_; rintro e w2 ⟨rfl, hB⟩)
                | (go_at_call 65; with_reducible refine (HC.out _).mono ?_; rintro e w2 ⟨rfl, rfl⟩))
              go_ret
              exact ⟨rfl, up (bel2 _ _ _) hB⟩
            · rw [if_neg k3] at HE
              rw [HE]
              have b3 : (t.kd == 3) = false := by simpa using k3
              clear HE k1 k0 k2 k3
              go_enter Tryz.func36, Tryz.ntmps36
              go_wp2_with (first
            | (go_at_call 65; with_reducible refine (HC.out _).mono ?_; rintro e w2 ⟨rfl, rfl⟩)
            | (go_at_call 65; refine (cmpInt_any _ _ _).mono ?_; rintro e w2 ⟨rfl, rfl⟩)
            | (go_at_call 66; refine (Tryz.strings_Compare _ _ _).mono ?_; rintro e w2 ⟨rfl, rfl⟩))
              go_ret
              exact ⟨rfl, bel2 _ _ _⟩
    · rw [if_pos hc] at HE
      rw [HE]
      have hc' : (cmpI t.kd u.kd != 0) = true := by simpa using hc
      clear hc HE
      go_enter Tryz.func36, Tryz.ntmps36
      go_wp2_with (go_at_call 65; refine (cmpInt_any _ _ _).mono ?_; rintro e w2 ⟨rfl, rfl⟩)
      go_ret
      exact ⟨rfl, bel2 _ _ _⟩

theorem compare_T (t u : T) (w : World) (h1 : In w t) (h2 : In w u) :
    Calls Tryz.prog 36 #[t.val, u.val] w fun e w' => e = .returned (.int .i64 (cmpF t.form u.form)) ∧ Below w.heap.size w w' :=
  compare_any _ t u (Nat.lt_succ_self _) w h1 h2
/-- reader.Equal. -/
theorem equal_T (t u : T) (w : World) (h1 : In w t) (h2 : In w u) :
    Calls Tryz.prog 38 #[t.val, u.val] w fun e w' => e = .returned (.bool (cmpF t.form u.form == 0)) ∧ Below w.heap.size w w' := by
  go_enter Tryz.func38, Tryz.ntmps38
  go_wp2_with (go_at_call 36; refine (compare_T _ _ _ ((h1.alloc _).alloc _) ((h2.alloc _).alloc _)).mono ?_; rintro e w2 ⟨rfl, hB⟩)
  go_ret
  exact ⟨rfl, up (bel2 _ _ _) hB⟩
end Go.Proofs.YtedabholcldgbaaGreatDoor
