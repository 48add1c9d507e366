/- The row of an expression, head by head. (Made by genrow.py.) -/
import Derived.Test.YtmlfiopbdlaaaaaGreatShI
namespace Go.Proofs.YtmlfiopbdlaaaaaGreat
open Go.RowKit Go.Deep
variable {S : Nat → Prop}
theorem row_close3 {n k b B0 : Nat} {w w' : World} {v : Value} {r : RS} (h0 : w.heap.size ≤ b) (h1 : B0 ≤ b) (h2 : b < B0 + k) (hb : Below w.heap.size w w') (hp : RowIs n (andFrom S B0 k) w' v r) (u0 u1 u2 : Value) :
    RowEnd n S w (((w'.setCell ⟨b, 0, none⟩ u0).setCell ⟨b, 1, none⟩ u1).setCell ⟨b, 2, none⟩ u2) r (.returned v) :=
  ⟨_, rfl, hp.shift ((((Shift.start S B0 k w').set (.inr ⟨h1, h2⟩) _).set (.inr ⟨h1, h2⟩) _).set (.inr ⟨h1, h2⟩) _), ((hb.setCell h0 _).setCell h0 _).setCell h0 _⟩
set_option maxHeartbeats 4000000 in
set_option maxRecDepth 100000 in
theorem row_neg (n : Nat) (t : T) (hd : ByteArray) (w : World) (E : Fm → Bool) (hS : ∀ b, S b → b < w.heap.size) (hE : HAsk n E) (hh : ∀ W, Below w.heap.size w W → Calls Tryz.prog 50 #[t.val] W fun e w' => e = .returned (.string hd) ∧ Below W.heap.size W w') (hq : hd.toList = [110, 101, 103]) : Calls Tryz.prog 58 #[t.val] w (fun e w' => RowEnd n S w w' ⟨[exprP E], none, []⟩ e) := by
  have HH := Lib.hid hh
  have HEE := Lib.hid hE
  obtain ⟨S₁, hS₁⟩ : ∃ S₁, S₁ = andFrom S (w.heap.size + 1) 1 := ⟨_, rfl⟩
  have HS1 := Lib.hid (hS₁ ▸ andFrom_lt (k := 1) (fun x h => Nat.lt_succ_of_lt (hS x h)) : ∀ x, S₁ x → x < w.heap.size + 1 + 1)
  have HE := Lib.hid hS₁
  clear hh hE hS₁ hS
  have mixed : Tryz.prog.follows .mixedOrders = true := by kernel_rfl
  go_enter Tryz.func58, Tryz.ntmps58
  go_wp2_with (first
    | (go_at_call 85; refine (anExpr_any (S := S₁) n E HEE.out _).mono ?_; rintro e w1 ⟨vf1, vi1, ve1, rfl, hp1, hB⟩; obtain ⟨K1, c1, K1', c1', rfl, rfl, rfl⟩ := hp1.vals1 rfl; have HP1 := Lib.hid hp1; have HB1 := Lib.hid hB; obtain ⟨q0, q1, q2, q3⟩ := Box4.cells (w := w1) (b := w.heap.size) (t := t) ((hB.block w.heap.size (by simp; omega)).trans ((Below.heap_alloc _ _ _ (by simp)).trans (Box4.new w t))); have lq : w.heap.size < w1.heap.size := Nat.lt_of_lt_of_le (by simp; omega) hB.size; have HZ1 := Lib.hid (Nat.le_trans (by simp) hB.size : w.heap.size + 1 + 1 ≤ w1.heap.size); have hne1 : ¬ (w.heap.size + 1 = w1.heap.size) := (fun e => absurd HZ1.out (by omega)); clear hp1 hB)
    | (go_at_call 50; refine (HH.out _ (up (bel2 _ _ _) (up HB1.out (bel1 _ _)))).mono ?_; rintro e w2 ⟨rfl, hB2⟩; have HY := Lib.hid (fun (W : World) (h : Below w2.heap.size w2 W) => (cells3 ((h.block w1.heap.size (Nat.lt_of_lt_of_le (by simp) hB2.size)).trans ((hB2.block w1.heap.size (by simp)).trans (heap_alloc_new _ _)))).1); obtain ⟨y0, y1, y2⟩ := HY.out w2 (Below.refl _ _); have ly : w1.heap.size < w2.heap.size := Nat.lt_of_lt_of_le (by simp) hB2.size; have HB2 := Lib.hid (up HB1.out (up (bel1 _ _) hB2)); have HZ2 := Lib.hid (Nat.le_trans HZ1.out (Nat.le_of_lt ly)); have HP2 := Lib.hid (HP1.out.below (up (bel1 _ _) hB2)); have HQ := Lib.hid (fun (W : World) (h : Below w2.heap.size w2 W) => Box4.cells (w := W) (b := w.heap.size) (t := t) ((h.block w.heap.size (Nat.lt_trans lq ly)).trans ((hB2.block w.heap.size (by simp; omega)).trans ((Below.heap_alloc _ _ _ lq).trans ((HB1.out.block w.heap.size (by simp; omega)).trans ((Below.heap_alloc _ _ _ (by simp)).trans (Box4.new w t))))))); obtain ⟨p0, p1, p2, p3⟩ := HQ.out w2 (Below.refl _ _); clear hB2)
    | (go_at_call 82; refine (just_any (S := S₁) n _ [exprP E] _ _ (parts1 (heap_alloc_new _ _) (fun e => absurd (HS1.out _ e) (by have := HZ2.out; omega)) (HP2.out.below (bel1 _ _)))).mono ?_; rintro e w3 ⟨v3, rfl, hrl, hB⟩; have hBL := up (bel1 _ _) hB; obtain ⟨fa, fl, fc, ba, bl, bc, m, rfl⟩ := hrl.vals; have HRL := Lib.hid hrl; have HBL := Lib.hid (up HB2.out hBL); obtain ⟨⟨z0, z1, z2⟩, z3, z4, z5⟩ := cells3 ((HBL.out.block (w.heap.size + 1) (by simp)).trans (heap2 _ _ _)); clear hrl; clear hB hBL))
  refine bodyPost_ret (v := .agg #[.slice fa fl fc, .slice ba bl bc, .pointer m]) (by simp [results, Tryz.results58, go_sem, cell_set, z0, z1, z2]) rfl (row_close3 (k := 1) (B0 := w.heap.size + 1) (Nat.le_succ _) (Nat.le_refl _) (Nat.lt_succ_self _) (up (bel2 _ _ _) HBL.out) ?_ _ _ _)
  have hp := HRL.out
  rw [HE.out] at hp
  exact hp
set_option maxHeartbeats 4000000 in
set_option maxRecDepth 100000 in
theorem row_not (n : Nat) (t : T) (hd : ByteArray) (w : World) (E : Fm → Bool) (hS : ∀ b, S b → b < w.heap.size) (hE : HAsk n E) (hh : ∀ W, Below w.heap.size w W → Calls Tryz.prog 50 #[t.val] W fun e w' => e = .returned (.string hd) ∧ Below W.heap.size W w') (hq : hd.toList = [110, 111, 116]) : Calls Tryz.prog 58 #[t.val] w (fun e w' => RowEnd n S w w' ⟨[exprP E], none, []⟩ e) := by
  have HH := Lib.hid hh
  have HEE := Lib.hid hE
  obtain ⟨S₁, hS₁⟩ : ∃ S₁, S₁ = andFrom S (w.heap.size + 1) 1 := ⟨_, rfl⟩
  have HS1 := Lib.hid (hS₁ ▸ andFrom_lt (k := 1) (fun x h => Nat.lt_succ_of_lt (hS x h)) : ∀ x, S₁ x → x < w.heap.size + 1 + 1)
  have HE := Lib.hid hS₁
  clear hh hE hS₁ hS
  have mixed : Tryz.prog.follows .mixedOrders = true := by kernel_rfl
  go_enter Tryz.func58, Tryz.ntmps58
  go_wp2_with (first
    | (go_at_call 85; refine (anExpr_any (S := S₁) n E HEE.out _).mono ?_; rintro e w1 ⟨vf1, vi1, ve1, rfl, hp1, hB⟩; obtain ⟨K1, c1, K1', c1', rfl, rfl, rfl⟩ := hp1.vals1 rfl; have HP1 := Lib.hid hp1; have HB1 := Lib.hid hB; obtain ⟨q0, q1, q2, q3⟩ := Box4.cells (w := w1) (b := w.heap.size) (t := t) ((hB.block w.heap.size (by simp; omega)).trans ((Below.heap_alloc _ _ _ (by simp)).trans (Box4.new w t))); have lq : w.heap.size < w1.heap.size := Nat.lt_of_lt_of_le (by simp; omega) hB.size; have HZ1 := Lib.hid (Nat.le_trans (by simp) hB.size : w.heap.size + 1 + 1 ≤ w1.heap.size); have hne1 : ¬ (w.heap.size + 1 = w1.heap.size) := (fun e => absurd HZ1.out (by omega)); clear hp1 hB)
    | (go_at_call 50; refine (HH.out _ (up (bel2 _ _ _) (up HB1.out (bel1 _ _)))).mono ?_; rintro e w2 ⟨rfl, hB2⟩; have HY := Lib.hid (fun (W : World) (h : Below w2.heap.size w2 W) => (cells3 ((h.block w1.heap.size (Nat.lt_of_lt_of_le (by simp) hB2.size)).trans ((hB2.block w1.heap.size (by simp)).trans (heap_alloc_new _ _)))).1); obtain ⟨y0, y1, y2⟩ := HY.out w2 (Below.refl _ _); have ly : w1.heap.size < w2.heap.size := Nat.lt_of_lt_of_le (by simp) hB2.size; have HB2 := Lib.hid (up HB1.out (up (bel1 _ _) hB2)); have HZ2 := Lib.hid (Nat.le_trans HZ1.out (Nat.le_of_lt ly)); have HP2 := Lib.hid (HP1.out.below (up (bel1 _ _) hB2)); have HQ := Lib.hid (fun (W : World) (h : Below w2.heap.size w2 W) => Box4.cells (w := W) (b := w.heap.size) (t := t) ((h.block w.heap.size (Nat.lt_trans lq ly)).trans ((hB2.block w.heap.size (by simp; omega)).trans ((Below.heap_alloc _ _ _ lq).trans ((HB1.out.block w.heap.size (by simp; omega)).trans ((Below.heap_alloc _ _ _ (by simp)).trans (Box4.new w t))))))); obtain ⟨p0, p1, p2, p3⟩ := HQ.out w2 (Below.refl _ _); clear hB2)
    | (go_at_call 82; refine (just_any (S := S₁) n _ [exprP E] _ _ (parts1 (heap_alloc_new _ _) (fun e => absurd (HS1.out _ e) (by have := HZ2.out; omega)) (HP2.out.below (bel1 _ _)))).mono ?_; rintro e w3 ⟨v3, rfl, hrl, hB⟩; have hBL := up (bel1 _ _) hB; obtain ⟨fa, fl, fc, ba, bl, bc, m, rfl⟩ := hrl.vals; have HRL := Lib.hid hrl; have HBL := Lib.hid (up HB2.out hBL); obtain ⟨⟨z0, z1, z2⟩, z3, z4, z5⟩ := cells3 ((HBL.out.block (w.heap.size + 1) (by simp)).trans (heap2 _ _ _)); clear hrl; clear hB hBL))
  refine bodyPost_ret (v := .agg #[.slice fa fl fc, .slice ba bl bc, .pointer m]) (by simp [results, Tryz.results58, go_sem, cell_set, z0, z1, z2]) rfl (row_close3 (k := 1) (B0 := w.heap.size + 1) (Nat.le_succ _) (Nat.le_refl _) (Nat.lt_succ_self _) (up (bel2 _ _ _) HBL.out) ?_ _ _ _)
  have hp := HRL.out
  rw [HE.out] at hp
  exact hp
set_option maxHeartbeats 4000000 in
set_option maxRecDepth 100000 in
theorem row_bnum (n : Nat) (t : T) (hd : ByteArray) (w : World) (E : Fm → Bool) (hS : ∀ b, S b → b < w.heap.size) (hE : HAsk n E) (hh : ∀ W, Below w.heap.size w W → Calls Tryz.prog 50 #[t.val] W fun e w' => e = .returned (.string hd) ∧ Below W.heap.size W w') (hq : hd.toList = [98, 110, 117, 109]) : Calls Tryz.prog 58 #[t.val] w (fun e w' => RowEnd n S w w' ⟨[exprP E], none, []⟩ e) := by
  have HH := Lib.hid hh
  have HEE := Lib.hid hE
  obtain ⟨S₁, hS₁⟩ : ∃ S₁, S₁ = andFrom S (w.heap.size + 1) 1 := ⟨_, rfl⟩
  have HS1 := Lib.hid (hS₁ ▸ andFrom_lt (k := 1) (fun x h => Nat.lt_succ_of_lt (hS x h)) : ∀ x, S₁ x → x < w.heap.size + 1 + 1)
  have HE := Lib.hid hS₁
  clear hh hE hS₁ hS
  have mixed : Tryz.prog.follows .mixedOrders = true := by kernel_rfl
  go_enter Tryz.func58, Tryz.ntmps58
  go_wp2_with (first
    | (go_at_call 85; refine (anExpr_any (S := S₁) n E HEE.out _).mono ?_; rintro e w1 ⟨vf1, vi1, ve1, rfl, hp1, hB⟩; obtain ⟨K1, c1, K1', c1', rfl, rfl, rfl⟩ := hp1.vals1 rfl; have HP1 := Lib.hid hp1; have HB1 := Lib.hid hB; obtain ⟨q0, q1, q2, q3⟩ := Box4.cells (w := w1) (b := w.heap.size) (t := t) ((hB.block w.heap.size (by simp; omega)).trans ((Below.heap_alloc _ _ _ (by simp)).trans (Box4.new w t))); have lq : w.heap.size < w1.heap.size := Nat.lt_of_lt_of_le (by simp; omega) hB.size; have HZ1 := Lib.hid (Nat.le_trans (by simp) hB.size : w.heap.size + 1 + 1 ≤ w1.heap.size); have hne1 : ¬ (w.heap.size + 1 = w1.heap.size) := (fun e => absurd HZ1.out (by omega)); clear hp1 hB)
    | (go_at_call 50; refine (HH.out _ (up (bel2 _ _ _) (up HB1.out (bel1 _ _)))).mono ?_; rintro e w2 ⟨rfl, hB2⟩; have HY := Lib.hid (fun (W : World) (h : Below w2.heap.size w2 W) => (cells3 ((h.block w1.heap.size (Nat.lt_of_lt_of_le (by simp) hB2.size)).trans ((hB2.block w1.heap.size (by simp)).trans (heap_alloc_new _ _)))).1); obtain ⟨y0, y1, y2⟩ := HY.out w2 (Below.refl _ _); have ly : w1.heap.size < w2.heap.size := Nat.lt_of_lt_of_le (by simp) hB2.size; have HB2 := Lib.hid (up HB1.out (up (bel1 _ _) hB2)); have HZ2 := Lib.hid (Nat.le_trans HZ1.out (Nat.le_of_lt ly)); have HP2 := Lib.hid (HP1.out.below (up (bel1 _ _) hB2)); have HQ := Lib.hid (fun (W : World) (h : Below w2.heap.size w2 W) => Box4.cells (w := W) (b := w.heap.size) (t := t) ((h.block w.heap.size (Nat.lt_trans lq ly)).trans ((hB2.block w.heap.size (by simp; omega)).trans ((Below.heap_alloc _ _ _ lq).trans ((HB1.out.block w.heap.size (by simp; omega)).trans ((Below.heap_alloc _ _ _ (by simp)).trans (Box4.new w t))))))); obtain ⟨p0, p1, p2, p3⟩ := HQ.out w2 (Below.refl _ _); clear hB2)
    | (go_at_call 82; refine (just_any (S := S₁) n _ [exprP E] _ _ (parts1 (heap_alloc_new _ _) (fun e => absurd (HS1.out _ e) (by have := HZ2.out; omega)) (HP2.out.below (bel1 _ _)))).mono ?_; rintro e w3 ⟨v3, rfl, hrl, hB⟩; have hBL := up (bel1 _ _) hB; obtain ⟨fa, fl, fc, ba, bl, bc, m, rfl⟩ := hrl.vals; have HRL := Lib.hid hrl; have HBL := Lib.hid (up HB2.out hBL); obtain ⟨⟨z0, z1, z2⟩, z3, z4, z5⟩ := cells3 ((HBL.out.block (w.heap.size + 1) (by simp)).trans (heap2 _ _ _)); clear hrl; clear hB hBL))
  refine bodyPost_ret (v := .agg #[.slice fa fl fc, .slice ba bl bc, .pointer m]) (by simp [results, Tryz.results58, go_sem, cell_set, z0, z1, z2]) rfl (row_close3 (k := 1) (B0 := w.heap.size + 1) (Nat.le_succ _) (Nat.le_refl _) (Nat.lt_succ_self _) (up (bel2 _ _ _) HBL.out) ?_ _ _ _)
  have hp := HRL.out
  rw [HE.out] at hp
  exact hp
set_option maxHeartbeats 4000000 in
set_option maxRecDepth 100000 in
theorem row_len (n : Nat) (t : T) (hd : ByteArray) (w : World) (E : Fm → Bool) (hS : ∀ b, S b → b < w.heap.size) (hE : HAsk n E) (hh : ∀ W, Below w.heap.size w W → Calls Tryz.prog 50 #[t.val] W fun e w' => e = .returned (.string hd) ∧ Below W.heap.size W w') (hq : hd.toList = [108, 101, 110]) : Calls Tryz.prog 58 #[t.val] w (fun e w' => RowEnd n S w w' ⟨[exprP E], none, []⟩ e) := by
  have HH := Lib.hid hh
  have HEE := Lib.hid hE
  obtain ⟨S₁, hS₁⟩ : ∃ S₁, S₁ = andFrom S (w.heap.size + 1) 1 := ⟨_, rfl⟩
  have HS1 := Lib.hid (hS₁ ▸ andFrom_lt (k := 1) (fun x h => Nat.lt_succ_of_lt (hS x h)) : ∀ x, S₁ x → x < w.heap.size + 1 + 1)
  have HE := Lib.hid hS₁
  clear hh hE hS₁ hS
  have mixed : Tryz.prog.follows .mixedOrders = true := by kernel_rfl
  go_enter Tryz.func58, Tryz.ntmps58
  go_wp2_with (first
    | (go_at_call 85; refine (anExpr_any (S := S₁) n E HEE.out _).mono ?_; rintro e w1 ⟨vf1, vi1, ve1, rfl, hp1, hB⟩; obtain ⟨K1, c1, K1', c1', rfl, rfl, rfl⟩ := hp1.vals1 rfl; have HP1 := Lib.hid hp1; have HB1 := Lib.hid hB; obtain ⟨q0, q1, q2, q3⟩ := Box4.cells (w := w1) (b := w.heap.size) (t := t) ((hB.block w.heap.size (by simp; omega)).trans ((Below.heap_alloc _ _ _ (by simp)).trans (Box4.new w t))); have lq : w.heap.size < w1.heap.size := Nat.lt_of_lt_of_le (by simp; omega) hB.size; have HZ1 := Lib.hid (Nat.le_trans (by simp) hB.size : w.heap.size + 1 + 1 ≤ w1.heap.size); have hne1 : ¬ (w.heap.size + 1 = w1.heap.size) := (fun e => absurd HZ1.out (by omega)); clear hp1 hB)
    | (go_at_call 50; refine (HH.out _ (up (bel2 _ _ _) (up HB1.out (bel1 _ _)))).mono ?_; rintro e w2 ⟨rfl, hB2⟩; have HY := Lib.hid (fun (W : World) (h : Below w2.heap.size w2 W) => (cells3 ((h.block w1.heap.size (Nat.lt_of_lt_of_le (by simp) hB2.size)).trans ((hB2.block w1.heap.size (by simp)).trans (heap_alloc_new _ _)))).1); obtain ⟨y0, y1, y2⟩ := HY.out w2 (Below.refl _ _); have ly : w1.heap.size < w2.heap.size := Nat.lt_of_lt_of_le (by simp) hB2.size; have HB2 := Lib.hid (up HB1.out (up (bel1 _ _) hB2)); have HZ2 := Lib.hid (Nat.le_trans HZ1.out (Nat.le_of_lt ly)); have HP2 := Lib.hid (HP1.out.below (up (bel1 _ _) hB2)); have HQ := Lib.hid (fun (W : World) (h : Below w2.heap.size w2 W) => Box4.cells (w := W) (b := w.heap.size) (t := t) ((h.block w.heap.size (Nat.lt_trans lq ly)).trans ((hB2.block w.heap.size (by simp; omega)).trans ((Below.heap_alloc _ _ _ lq).trans ((HB1.out.block w.heap.size (by simp; omega)).trans ((Below.heap_alloc _ _ _ (by simp)).trans (Box4.new w t))))))); obtain ⟨p0, p1, p2, p3⟩ := HQ.out w2 (Below.refl _ _); clear hB2)
    | (go_at_call 82; refine (just_any (S := S₁) n _ [exprP E] _ _ (parts1 (heap_alloc_new _ _) (fun e => absurd (HS1.out _ e) (by have := HZ2.out; omega)) (HP2.out.below (bel1 _ _)))).mono ?_; rintro e w3 ⟨v3, rfl, hrl, hB⟩; have hBL := up (bel1 _ _) hB; obtain ⟨fa, fl, fc, ba, bl, bc, m, rfl⟩ := hrl.vals; have HRL := Lib.hid hrl; have HBL := Lib.hid (up HB2.out hBL); obtain ⟨⟨z0, z1, z2⟩, z3, z4, z5⟩ := cells3 ((HBL.out.block (w.heap.size + 1) (by simp)).trans (heap2 _ _ _)); clear hrl; clear hB hBL))
  refine bodyPost_ret (v := .agg #[.slice fa fl fc, .slice ba bl bc, .pointer m]) (by simp [results, Tryz.results58, go_sem, cell_set, z0, z1, z2]) rfl (row_close3 (k := 1) (B0 := w.heap.size + 1) (Nat.le_succ _) (Nat.le_refl _) (Nat.lt_succ_self _) (up (bel2 _ _ _) HBL.out) ?_ _ _ _)
  have hp := HRL.out
  rw [HE.out] at hp
  exact hp
set_option maxHeartbeats 4000000 in
set_option maxRecDepth 100000 in
theorem row_card (n : Nat) (t : T) (hd : ByteArray) (w : World) (E : Fm → Bool) (hS : ∀ b, S b → b < w.heap.size) (hE : HAsk n E) (hh : ∀ W, Below w.heap.size w W → Calls Tryz.prog 50 #[t.val] W fun e w' => e = .returned (.string hd) ∧ Below W.heap.size W w') (hq : hd.toList = [99, 97, 114, 100]) : Calls Tryz.prog 58 #[t.val] w (fun e w' => RowEnd n S w w' ⟨[exprP E], none, []⟩ e) := by
  have HH := Lib.hid hh
  have HEE := Lib.hid hE
  obtain ⟨S₁, hS₁⟩ : ∃ S₁, S₁ = andFrom S (w.heap.size + 1) 1 := ⟨_, rfl⟩
  have HS1 := Lib.hid (hS₁ ▸ andFrom_lt (k := 1) (fun x h => Nat.lt_succ_of_lt (hS x h)) : ∀ x, S₁ x → x < w.heap.size + 1 + 1)
  have HE := Lib.hid hS₁
  clear hh hE hS₁ hS
  have mixed : Tryz.prog.follows .mixedOrders = true := by kernel_rfl
  go_enter Tryz.func58, Tryz.ntmps58
  go_wp2_with (first
    | (go_at_call 85; refine (anExpr_any (S := S₁) n E HEE.out _).mono ?_; rintro e w1 ⟨vf1, vi1, ve1, rfl, hp1, hB⟩; obtain ⟨K1, c1, K1', c1', rfl, rfl, rfl⟩ := hp1.vals1 rfl; have HP1 := Lib.hid hp1; have HB1 := Lib.hid hB; obtain ⟨q0, q1, q2, q3⟩ := Box4.cells (w := w1) (b := w.heap.size) (t := t) ((hB.block w.heap.size (by simp; omega)).trans ((Below.heap_alloc _ _ _ (by simp)).trans (Box4.new w t))); have lq : w.heap.size < w1.heap.size := Nat.lt_of_lt_of_le (by simp; omega) hB.size; have HZ1 := Lib.hid (Nat.le_trans (by simp) hB.size : w.heap.size + 1 + 1 ≤ w1.heap.size); have hne1 : ¬ (w.heap.size + 1 = w1.heap.size) := (fun e => absurd HZ1.out (by omega)); clear hp1 hB)
    | (go_at_call 50; refine (HH.out _ (up (bel2 _ _ _) (up HB1.out (bel1 _ _)))).mono ?_; rintro e w2 ⟨rfl, hB2⟩; have HY := Lib.hid (fun (W : World) (h : Below w2.heap.size w2 W) => (cells3 ((h.block w1.heap.size (Nat.lt_of_lt_of_le (by simp) hB2.size)).trans ((hB2.block w1.heap.size (by simp)).trans (heap_alloc_new _ _)))).1); obtain ⟨y0, y1, y2⟩ := HY.out w2 (Below.refl _ _); have ly : w1.heap.size < w2.heap.size := Nat.lt_of_lt_of_le (by simp) hB2.size; have HB2 := Lib.hid (up HB1.out (up (bel1 _ _) hB2)); have HZ2 := Lib.hid (Nat.le_trans HZ1.out (Nat.le_of_lt ly)); have HP2 := Lib.hid (HP1.out.below (up (bel1 _ _) hB2)); have HQ := Lib.hid (fun (W : World) (h : Below w2.heap.size w2 W) => Box4.cells (w := W) (b := w.heap.size) (t := t) ((h.block w.heap.size (Nat.lt_trans lq ly)).trans ((hB2.block w.heap.size (by simp; omega)).trans ((Below.heap_alloc _ _ _ lq).trans ((HB1.out.block w.heap.size (by simp; omega)).trans ((Below.heap_alloc _ _ _ (by simp)).trans (Box4.new w t))))))); obtain ⟨p0, p1, p2, p3⟩ := HQ.out w2 (Below.refl _ _); clear hB2)
    | (go_at_call 82; refine (just_any (S := S₁) n _ [exprP E] _ _ (parts1 (heap_alloc_new _ _) (fun e => absurd (HS1.out _ e) (by have := HZ2.out; omega)) (HP2.out.below (bel1 _ _)))).mono ?_; rintro e w3 ⟨v3, rfl, hrl, hB⟩; have hBL := up (bel1 _ _) hB; obtain ⟨fa, fl, fc, ba, bl, bc, m, rfl⟩ := hrl.vals; have HRL := Lib.hid hrl; have HBL := Lib.hid (up HB2.out hBL); obtain ⟨⟨z0, z1, z2⟩, z3, z4, z5⟩ := cells3 ((HBL.out.block (w.heap.size + 1) (by simp)).trans (heap2 _ _ _)); clear hrl; clear hB hBL))
  refine bodyPost_ret (v := .agg #[.slice fa fl fc, .slice ba bl bc, .pointer m]) (by simp [results, Tryz.results58, go_sem, cell_set, z0, z1, z2]) rfl (row_close3 (k := 1) (B0 := w.heap.size + 1) (Nat.le_succ _) (Nat.le_refl _) (Nat.lt_succ_self _) (up (bel2 _ _ _) HBL.out) ?_ _ _ _)
  have hp := HRL.out
  rw [HE.out] at hp
  exact hp
set_option maxHeartbeats 4000000 in
set_option maxRecDepth 100000 in
theorem row_keys (n : Nat) (t : T) (hd : ByteArray) (w : World) (E : Fm → Bool) (hS : ∀ b, S b → b < w.heap.size) (hE : HAsk n E) (hh : ∀ W, Below w.heap.size w W → Calls Tryz.prog 50 #[t.val] W fun e w' => e = .returned (.string hd) ∧ Below W.heap.size W w') (hq : hd.toList = [107, 101, 121, 115]) : Calls Tryz.prog 58 #[t.val] w (fun e w' => RowEnd n S w w' ⟨[exprP E], none, []⟩ e) := by
  have HH := Lib.hid hh
  have HEE := Lib.hid hE
  obtain ⟨S₁, hS₁⟩ : ∃ S₁, S₁ = andFrom S (w.heap.size + 1) 1 := ⟨_, rfl⟩
  have HS1 := Lib.hid (hS₁ ▸ andFrom_lt (k := 1) (fun x h => Nat.lt_succ_of_lt (hS x h)) : ∀ x, S₁ x → x < w.heap.size + 1 + 1)
  have HE := Lib.hid hS₁
  clear hh hE hS₁ hS
  have mixed : Tryz.prog.follows .mixedOrders = true := by kernel_rfl
  go_enter Tryz.func58, Tryz.ntmps58
  go_wp2_with (first
    | (go_at_call 85; refine (anExpr_any (S := S₁) n E HEE.out _).mono ?_; rintro e w1 ⟨vf1, vi1, ve1, rfl, hp1, hB⟩; obtain ⟨K1, c1, K1', c1', rfl, rfl, rfl⟩ := hp1.vals1 rfl; have HP1 := Lib.hid hp1; have HB1 := Lib.hid hB; obtain ⟨q0, q1, q2, q3⟩ := Box4.cells (w := w1) (b := w.heap.size) (t := t) ((hB.block w.heap.size (by simp; omega)).trans ((Below.heap_alloc _ _ _ (by simp)).trans (Box4.new w t))); have lq : w.heap.size < w1.heap.size := Nat.lt_of_lt_of_le (by simp; omega) hB.size; have HZ1 := Lib.hid (Nat.le_trans (by simp) hB.size : w.heap.size + 1 + 1 ≤ w1.heap.size); have hne1 : ¬ (w.heap.size + 1 = w1.heap.size) := (fun e => absurd HZ1.out (by omega)); clear hp1 hB)
    | (go_at_call 50; refine (HH.out _ (up (bel2 _ _ _) (up HB1.out (bel1 _ _)))).mono ?_; rintro e w2 ⟨rfl, hB2⟩; have HY := Lib.hid (fun (W : World) (h : Below w2.heap.size w2 W) => (cells3 ((h.block w1.heap.size (Nat.lt_of_lt_of_le (by simp) hB2.size)).trans ((hB2.block w1.heap.size (by simp)).trans (heap_alloc_new _ _)))).1); obtain ⟨y0, y1, y2⟩ := HY.out w2 (Below.refl _ _); have ly : w1.heap.size < w2.heap.size := Nat.lt_of_lt_of_le (by simp) hB2.size; have HB2 := Lib.hid (up HB1.out (up (bel1 _ _) hB2)); have HZ2 := Lib.hid (Nat.le_trans HZ1.out (Nat.le_of_lt ly)); have HP2 := Lib.hid (HP1.out.below (up (bel1 _ _) hB2)); have HQ := Lib.hid (fun (W : World) (h : Below w2.heap.size w2 W) => Box4.cells (w := W) (b := w.heap.size) (t := t) ((h.block w.heap.size (Nat.lt_trans lq ly)).trans ((hB2.block w.heap.size (by simp; omega)).trans ((Below.heap_alloc _ _ _ lq).trans ((HB1.out.block w.heap.size (by simp; omega)).trans ((Below.heap_alloc _ _ _ (by simp)).trans (Box4.new w t))))))); obtain ⟨p0, p1, p2, p3⟩ := HQ.out w2 (Below.refl _ _); clear hB2)
    | (go_at_call 82; refine (just_any (S := S₁) n _ [exprP E] _ _ (parts1 (heap_alloc_new _ _) (fun e => absurd (HS1.out _ e) (by have := HZ2.out; omega)) (HP2.out.below (bel1 _ _)))).mono ?_; rintro e w3 ⟨v3, rfl, hrl, hB⟩; have hBL := up (bel1 _ _) hB; obtain ⟨fa, fl, fc, ba, bl, bc, m, rfl⟩ := hrl.vals; have HRL := Lib.hid hrl; have HBL := Lib.hid (up HB2.out hBL); obtain ⟨⟨z0, z1, z2⟩, z3, z4, z5⟩ := cells3 ((HBL.out.block (w.heap.size + 1) (by simp)).trans (heap2 _ _ _)); clear hrl; clear hB hBL))
  refine bodyPost_ret (v := .agg #[.slice fa fl fc, .slice ba bl bc, .pointer m]) (by simp [results, Tryz.results58, go_sem, cell_set, z0, z1, z2]) rfl (row_close3 (k := 1) (B0 := w.heap.size + 1) (Nat.le_succ _) (Nat.le_refl _) (Nat.lt_succ_self _) (up (bel2 _ _ _) HBL.out) ?_ _ _ _)
  have hp := HRL.out
  rw [HE.out] at hp
  exact hp
set_option maxHeartbeats 4000000 in
set_option maxRecDepth 100000 in
theorem row_fresh (n : Nat) (t : T) (hd : ByteArray) (w : World) (E : Fm → Bool) (hS : ∀ b, S b → b < w.heap.size) (hE : HAsk n E) (hh : ∀ W, Below w.heap.size w W → Calls Tryz.prog 50 #[t.val] W fun e w' => e = .returned (.string hd) ∧ Below W.heap.size W w') (hq : hd.toList = [102, 114, 101, 115, 104]) : Calls Tryz.prog 58 #[t.val] w (fun e w' => RowEnd n S w w' ⟨[exprP E], none, []⟩ e) := by
  have HH := Lib.hid hh
  have HEE := Lib.hid hE
  obtain ⟨S₁, hS₁⟩ : ∃ S₁, S₁ = andFrom S (w.heap.size + 1) 1 := ⟨_, rfl⟩
  have HS1 := Lib.hid (hS₁ ▸ andFrom_lt (k := 1) (fun x h => Nat.lt_succ_of_lt (hS x h)) : ∀ x, S₁ x → x < w.heap.size + 1 + 1)
  have HE := Lib.hid hS₁
  clear hh hE hS₁ hS
  have mixed : Tryz.prog.follows .mixedOrders = true := by kernel_rfl
  go_enter Tryz.func58, Tryz.ntmps58
  go_wp2_with (first
    | (go_at_call 85; refine (anExpr_any (S := S₁) n E HEE.out _).mono ?_; rintro e w1 ⟨vf1, vi1, ve1, rfl, hp1, hB⟩; obtain ⟨K1, c1, K1', c1', rfl, rfl, rfl⟩ := hp1.vals1 rfl; have HP1 := Lib.hid hp1; have HB1 := Lib.hid hB; obtain ⟨q0, q1, q2, q3⟩ := Box4.cells (w := w1) (b := w.heap.size) (t := t) ((hB.block w.heap.size (by simp; omega)).trans ((Below.heap_alloc _ _ _ (by simp)).trans (Box4.new w t))); have lq : w.heap.size < w1.heap.size := Nat.lt_of_lt_of_le (by simp; omega) hB.size; have HZ1 := Lib.hid (Nat.le_trans (by simp) hB.size : w.heap.size + 1 + 1 ≤ w1.heap.size); have hne1 : ¬ (w.heap.size + 1 = w1.heap.size) := (fun e => absurd HZ1.out (by omega)); clear hp1 hB)
    | (go_at_call 50; refine (HH.out _ (up (bel2 _ _ _) (up HB1.out (bel1 _ _)))).mono ?_; rintro e w2 ⟨rfl, hB2⟩; have HY := Lib.hid (fun (W : World) (h : Below w2.heap.size w2 W) => (cells3 ((h.block w1.heap.size (Nat.lt_of_lt_of_le (by simp) hB2.size)).trans ((hB2.block w1.heap.size (by simp)).trans (heap_alloc_new _ _)))).1); obtain ⟨y0, y1, y2⟩ := HY.out w2 (Below.refl _ _); have ly : w1.heap.size < w2.heap.size := Nat.lt_of_lt_of_le (by simp) hB2.size; have HB2 := Lib.hid (up HB1.out (up (bel1 _ _) hB2)); have HZ2 := Lib.hid (Nat.le_trans HZ1.out (Nat.le_of_lt ly)); have HP2 := Lib.hid (HP1.out.below (up (bel1 _ _) hB2)); have HQ := Lib.hid (fun (W : World) (h : Below w2.heap.size w2 W) => Box4.cells (w := W) (b := w.heap.size) (t := t) ((h.block w.heap.size (Nat.lt_trans lq ly)).trans ((hB2.block w.heap.size (by simp; omega)).trans ((Below.heap_alloc _ _ _ lq).trans ((HB1.out.block w.heap.size (by simp; omega)).trans ((Below.heap_alloc _ _ _ (by simp)).trans (Box4.new w t))))))); obtain ⟨p0, p1, p2, p3⟩ := HQ.out w2 (Below.refl _ _); clear hB2)
    | (go_at_call 82; refine (just_any (S := S₁) n _ [exprP E] _ _ (parts1 (heap_alloc_new _ _) (fun e => absurd (HS1.out _ e) (by have := HZ2.out; omega)) (HP2.out.below (bel1 _ _)))).mono ?_; rintro e w3 ⟨v3, rfl, hrl, hB⟩; have hBL := up (bel1 _ _) hB; obtain ⟨fa, fl, fc, ba, bl, bc, m, rfl⟩ := hrl.vals; have HRL := Lib.hid hrl; have HBL := Lib.hid (up HB2.out hBL); obtain ⟨⟨z0, z1, z2⟩, z3, z4, z5⟩ := cells3 ((HBL.out.block (w.heap.size + 1) (by simp)).trans (heap2 _ _ _)); clear hrl; clear hB hBL))
  refine bodyPost_ret (v := .agg #[.slice fa fl fc, .slice ba bl bc, .pointer m]) (by simp [results, Tryz.results58, go_sem, cell_set, z0, z1, z2]) rfl (row_close3 (k := 1) (B0 := w.heap.size + 1) (Nat.le_succ _) (Nat.le_refl _) (Nat.lt_succ_self _) (up (bel2 _ _ _) HBL.out) ?_ _ _ _)
  have hp := HRL.out
  rw [HE.out] at hp
  exact hp
set_option maxHeartbeats 4000000 in
set_option maxRecDepth 100000 in
theorem row_if (n : Nat) (t : T) (hd : ByteArray) (w : World) (E : Fm → Bool) (hS : ∀ b, S b → b < w.heap.size) (hE : HAsk n E) (hh : ∀ W, Below w.heap.size w W → Calls Tryz.prog 50 #[t.val] W fun e w' => e = .returned (.string hd) ∧ Below W.heap.size W w') (hq : hd.toList = [105, 102]) : Calls Tryz.prog 58 #[t.val] w (fun e w' => RowEnd n S w w' ⟨[exprP E, exprP E, exprP E], none, []⟩ e) := by
  have HH := Lib.hid hh
  have HEE := Lib.hid hE
  obtain ⟨S₁, hS₁⟩ : ∃ S₁, S₁ = andFrom S (w.heap.size + 1) 1 := ⟨_, rfl⟩
  have HS1 := Lib.hid (hS₁ ▸ andFrom_lt (k := 1) (fun x h => Nat.lt_succ_of_lt (hS x h)) : ∀ x, S₁ x → x < w.heap.size + 1 + 1)
  have HE := Lib.hid hS₁
  clear hh hE hS₁ hS
  have mixed : Tryz.prog.follows .mixedOrders = true := by kernel_rfl
  go_enter Tryz.func58, Tryz.ntmps58
  go_wp2_with (first
    | (go_at_call 85; refine (anExpr_any (S := S₁) n E HEE.out _).mono ?_; rintro e w1 ⟨vf1, vi1, ve1, rfl, hp1, hB⟩; obtain ⟨K1, c1, K1', c1', rfl, rfl, rfl⟩ := hp1.vals1 rfl; have HP1 := Lib.hid hp1; have HB1 := Lib.hid hB; obtain ⟨q0, q1, q2, q3⟩ := Box4.cells (w := w1) (b := w.heap.size) (t := t) ((hB.block w.heap.size (by simp; omega)).trans ((Below.heap_alloc _ _ _ (by simp)).trans (Box4.new w t))); have lq : w.heap.size < w1.heap.size := Nat.lt_of_lt_of_le (by simp; omega) hB.size; have HZ1 := Lib.hid (Nat.le_trans (by simp) hB.size : w.heap.size + 1 + 1 ≤ w1.heap.size); have hne1 : ¬ (w.heap.size + 1 = w1.heap.size) := (fun e => absurd HZ1.out (by omega)); clear hp1 hB)
    | (go_at_call 50; refine (HH.out _ (up (bel2 _ _ _) (up HB1.out (bel1 _ _)))).mono ?_; rintro e w2 ⟨rfl, hB2⟩; have HY := Lib.hid (fun (W : World) (h : Below w2.heap.size w2 W) => (cells3 ((h.block w1.heap.size (Nat.lt_of_lt_of_le (by simp) hB2.size)).trans ((hB2.block w1.heap.size (by simp)).trans (heap_alloc_new _ _)))).1); obtain ⟨y0, y1, y2⟩ := HY.out w2 (Below.refl _ _); have ly : w1.heap.size < w2.heap.size := Nat.lt_of_lt_of_le (by simp) hB2.size; have HB2 := Lib.hid (up HB1.out (up (bel1 _ _) hB2)); have HZ2 := Lib.hid (Nat.le_trans HZ1.out (Nat.le_of_lt ly)); have HP2 := Lib.hid (HP1.out.below (up (bel1 _ _) hB2)); have HQ := Lib.hid (fun (W : World) (h : Below w2.heap.size w2 W) => Box4.cells (w := W) (b := w.heap.size) (t := t) ((h.block w.heap.size (Nat.lt_trans lq ly)).trans ((hB2.block w.heap.size (by simp; omega)).trans ((Below.heap_alloc _ _ _ lq).trans ((HB1.out.block w.heap.size (by simp; omega)).trans ((Below.heap_alloc _ _ _ (by simp)).trans (Box4.new w t))))))); obtain ⟨p0, p1, p2, p3⟩ := HQ.out w2 (Below.refl _ _); clear hB2)
    | (go_at_call 82; refine (just_any (S := S₁) n _ [exprP E, exprP E, exprP E] _ _ (parts3 (heap_alloc_new _ _) (fun e => absurd (HS1.out _ e) (by have := HZ2.out; omega)) (HP2.out.below (bel1 _ _)) (HP2.out.below (bel1 _ _)) (HP2.out.below (bel1 _ _)))).mono ?_; rintro e w3 ⟨v3, rfl, hrl, hB⟩; have hBL := up (bel1 _ _) hB; obtain ⟨fa, fl, fc, ba, bl, bc, m, rfl⟩ := hrl.vals; have HRL := Lib.hid hrl; have HBL := Lib.hid (up HB2.out hBL); obtain ⟨⟨z0, z1, z2⟩, z3, z4, z5⟩ := cells3 ((HBL.out.block (w.heap.size + 1) (by simp)).trans (heap2 _ _ _)); clear hrl; clear hB hBL))
  refine bodyPost_ret (v := .agg #[.slice fa fl fc, .slice ba bl bc, .pointer m]) (by simp [results, Tryz.results58, go_sem, cell_set, z0, z1, z2]) rfl (row_close3 (k := 1) (B0 := w.heap.size + 1) (Nat.le_succ _) (Nat.le_refl _) (Nat.lt_succ_self _) (up (bel2 _ _ _) HBL.out) ?_ _ _ _)
  have hp := HRL.out
  rw [HE.out] at hp
  exact hp
set_option maxHeartbeats 4000000 in
set_option maxRecDepth 100000 in
theorem row_cut (n : Nat) (t : T) (hd : ByteArray) (w : World) (E : Fm → Bool) (hS : ∀ b, S b → b < w.heap.size) (hE : HAsk n E) (hh : ∀ W, Below w.heap.size w W → Calls Tryz.prog 50 #[t.val] W fun e w' => e = .returned (.string hd) ∧ Below W.heap.size W w') (hq : hd.toList = [99, 117, 116]) : Calls Tryz.prog 58 #[t.val] w (fun e w' => RowEnd n S w w' ⟨[exprP E, exprP E, exprP E], none, []⟩ e) := by
  have HH := Lib.hid hh
  have HEE := Lib.hid hE
  obtain ⟨S₁, hS₁⟩ : ∃ S₁, S₁ = andFrom S (w.heap.size + 1) 1 := ⟨_, rfl⟩
  have HS1 := Lib.hid (hS₁ ▸ andFrom_lt (k := 1) (fun x h => Nat.lt_succ_of_lt (hS x h)) : ∀ x, S₁ x → x < w.heap.size + 1 + 1)
  have HE := Lib.hid hS₁
  clear hh hE hS₁ hS
  have mixed : Tryz.prog.follows .mixedOrders = true := by kernel_rfl
  go_enter Tryz.func58, Tryz.ntmps58
  go_wp2_with (first
    | (go_at_call 85; refine (anExpr_any (S := S₁) n E HEE.out _).mono ?_; rintro e w1 ⟨vf1, vi1, ve1, rfl, hp1, hB⟩; obtain ⟨K1, c1, K1', c1', rfl, rfl, rfl⟩ := hp1.vals1 rfl; have HP1 := Lib.hid hp1; have HB1 := Lib.hid hB; obtain ⟨q0, q1, q2, q3⟩ := Box4.cells (w := w1) (b := w.heap.size) (t := t) ((hB.block w.heap.size (by simp; omega)).trans ((Below.heap_alloc _ _ _ (by simp)).trans (Box4.new w t))); have lq : w.heap.size < w1.heap.size := Nat.lt_of_lt_of_le (by simp; omega) hB.size; have HZ1 := Lib.hid (Nat.le_trans (by simp) hB.size : w.heap.size + 1 + 1 ≤ w1.heap.size); have hne1 : ¬ (w.heap.size + 1 = w1.heap.size) := (fun e => absurd HZ1.out (by omega)); clear hp1 hB)
    | (go_at_call 50; refine (HH.out _ (up (bel2 _ _ _) (up HB1.out (bel1 _ _)))).mono ?_; rintro e w2 ⟨rfl, hB2⟩; have HY := Lib.hid (fun (W : World) (h : Below w2.heap.size w2 W) => (cells3 ((h.block w1.heap.size (Nat.lt_of_lt_of_le (by simp) hB2.size)).trans ((hB2.block w1.heap.size (by simp)).trans (heap_alloc_new _ _)))).1); obtain ⟨y0, y1, y2⟩ := HY.out w2 (Below.refl _ _); have ly : w1.heap.size < w2.heap.size := Nat.lt_of_lt_of_le (by simp) hB2.size; have HB2 := Lib.hid (up HB1.out (up (bel1 _ _) hB2)); have HZ2 := Lib.hid (Nat.le_trans HZ1.out (Nat.le_of_lt ly)); have HP2 := Lib.hid (HP1.out.below (up (bel1 _ _) hB2)); have HQ := Lib.hid (fun (W : World) (h : Below w2.heap.size w2 W) => Box4.cells (w := W) (b := w.heap.size) (t := t) ((h.block w.heap.size (Nat.lt_trans lq ly)).trans ((hB2.block w.heap.size (by simp; omega)).trans ((Below.heap_alloc _ _ _ lq).trans ((HB1.out.block w.heap.size (by simp; omega)).trans ((Below.heap_alloc _ _ _ (by simp)).trans (Box4.new w t))))))); obtain ⟨p0, p1, p2, p3⟩ := HQ.out w2 (Below.refl _ _); clear hB2)
    | (go_at_call 82; refine (just_any (S := S₁) n _ [exprP E, exprP E, exprP E] _ _ (parts3 (heap_alloc_new _ _) (fun e => absurd (HS1.out _ e) (by have := HZ2.out; omega)) (HP2.out.below (bel1 _ _)) (HP2.out.below (bel1 _ _)) (HP2.out.below (bel1 _ _)))).mono ?_; rintro e w3 ⟨v3, rfl, hrl, hB⟩; have hBL := up (bel1 _ _) hB; obtain ⟨fa, fl, fc, ba, bl, bc, m, rfl⟩ := hrl.vals; have HRL := Lib.hid hrl; have HBL := Lib.hid (up HB2.out hBL); obtain ⟨⟨z0, z1, z2⟩, z3, z4, z5⟩ := cells3 ((HBL.out.block (w.heap.size + 1) (by simp)).trans (heap2 _ _ _)); clear hrl; clear hB hBL))
  refine bodyPost_ret (v := .agg #[.slice fa fl fc, .slice ba bl bc, .pointer m]) (by simp [results, Tryz.results58, go_sem, cell_set, z0, z1, z2]) rfl (row_close3 (k := 1) (B0 := w.heap.size + 1) (Nat.le_succ _) (Nat.le_refl _) (Nat.lt_succ_self _) (up (bel2 _ _ _) HBL.out) ?_ _ _ _)
  have hp := HRL.out
  rw [HE.out] at hp
  exact hp
set_option maxHeartbeats 4000000 in
set_option maxRecDepth 100000 in
theorem row_put (n : Nat) (t : T) (hd : ByteArray) (w : World) (E : Fm → Bool) (hS : ∀ b, S b → b < w.heap.size) (hE : HAsk n E) (hh : ∀ W, Below w.heap.size w W → Calls Tryz.prog 50 #[t.val] W fun e w' => e = .returned (.string hd) ∧ Below W.heap.size W w') (hq : hd.toList = [112, 117, 116]) : Calls Tryz.prog 58 #[t.val] w (fun e w' => RowEnd n S w w' ⟨[exprP E, exprP E, exprP E], none, []⟩ e) := by
  have HH := Lib.hid hh
  have HEE := Lib.hid hE
  obtain ⟨S₁, hS₁⟩ : ∃ S₁, S₁ = andFrom S (w.heap.size + 1) 1 := ⟨_, rfl⟩
  have HS1 := Lib.hid (hS₁ ▸ andFrom_lt (k := 1) (fun x h => Nat.lt_succ_of_lt (hS x h)) : ∀ x, S₁ x → x < w.heap.size + 1 + 1)
  have HE := Lib.hid hS₁
  clear hh hE hS₁ hS
  have mixed : Tryz.prog.follows .mixedOrders = true := by kernel_rfl
  go_enter Tryz.func58, Tryz.ntmps58
  go_wp2_with (first
    | (go_at_call 85; refine (anExpr_any (S := S₁) n E HEE.out _).mono ?_; rintro e w1 ⟨vf1, vi1, ve1, rfl, hp1, hB⟩; obtain ⟨K1, c1, K1', c1', rfl, rfl, rfl⟩ := hp1.vals1 rfl; have HP1 := Lib.hid hp1; have HB1 := Lib.hid hB; obtain ⟨q0, q1, q2, q3⟩ := Box4.cells (w := w1) (b := w.heap.size) (t := t) ((hB.block w.heap.size (by simp; omega)).trans ((Below.heap_alloc _ _ _ (by simp)).trans (Box4.new w t))); have lq : w.heap.size < w1.heap.size := Nat.lt_of_lt_of_le (by simp; omega) hB.size; have HZ1 := Lib.hid (Nat.le_trans (by simp) hB.size : w.heap.size + 1 + 1 ≤ w1.heap.size); have hne1 : ¬ (w.heap.size + 1 = w1.heap.size) := (fun e => absurd HZ1.out (by omega)); clear hp1 hB)
    | (go_at_call 50; refine (HH.out _ (up (bel2 _ _ _) (up HB1.out (bel1 _ _)))).mono ?_; rintro e w2 ⟨rfl, hB2⟩; have HY := Lib.hid (fun (W : World) (h : Below w2.heap.size w2 W) => (cells3 ((h.block w1.heap.size (Nat.lt_of_lt_of_le (by simp) hB2.size)).trans ((hB2.block w1.heap.size (by simp)).trans (heap_alloc_new _ _)))).1); obtain ⟨y0, y1, y2⟩ := HY.out w2 (Below.refl _ _); have ly : w1.heap.size < w2.heap.size := Nat.lt_of_lt_of_le (by simp) hB2.size; have HB2 := Lib.hid (up HB1.out (up (bel1 _ _) hB2)); have HZ2 := Lib.hid (Nat.le_trans HZ1.out (Nat.le_of_lt ly)); have HP2 := Lib.hid (HP1.out.below (up (bel1 _ _) hB2)); have HQ := Lib.hid (fun (W : World) (h : Below w2.heap.size w2 W) => Box4.cells (w := W) (b := w.heap.size) (t := t) ((h.block w.heap.size (Nat.lt_trans lq ly)).trans ((hB2.block w.heap.size (by simp; omega)).trans ((Below.heap_alloc _ _ _ lq).trans ((HB1.out.block w.heap.size (by simp; omega)).trans ((Below.heap_alloc _ _ _ (by simp)).trans (Box4.new w t))))))); obtain ⟨p0, p1, p2, p3⟩ := HQ.out w2 (Below.refl _ _); clear hB2)
    | (go_at_call 82; refine (just_any (S := S₁) n _ [exprP E, exprP E, exprP E] _ _ (parts3 (heap_alloc_new _ _) (fun e => absurd (HS1.out _ e) (by have := HZ2.out; omega)) (HP2.out.below (bel1 _ _)) (HP2.out.below (bel1 _ _)) (HP2.out.below (bel1 _ _)))).mono ?_; rintro e w3 ⟨v3, rfl, hrl, hB⟩; have hBL := up (bel1 _ _) hB; obtain ⟨fa, fl, fc, ba, bl, bc, m, rfl⟩ := hrl.vals; have HRL := Lib.hid hrl; have HBL := Lib.hid (up HB2.out hBL); obtain ⟨⟨z0, z1, z2⟩, z3, z4, z5⟩ := cells3 ((HBL.out.block (w.heap.size + 1) (by simp)).trans (heap2 _ _ _)); clear hrl; clear hB hBL))
  refine bodyPost_ret (v := .agg #[.slice fa fl fc, .slice ba bl bc, .pointer m]) (by simp [results, Tryz.results58, go_sem, cell_set, z0, z1, z2]) rfl (row_close3 (k := 1) (B0 := w.heap.size + 1) (Nat.le_succ _) (Nat.le_refl _) (Nat.lt_succ_self _) (up (bel2 _ _ _) HBL.out) ?_ _ _ _)
  have hp := HRL.out
  rw [HE.out] at hp
  exact hp
end Go.Proofs.YtmlfiopbdlaaaaaGreat
