/- The row of an expression, head by head. (Made by genrow.py.) -/
import Derived.Test.YtmlfiopbdlaaaaaGreatShR1
namespace Go.Proofs.YtmlfiopbdlaaaaaGreat
open Go.RowKit Go.Deep
variable {S : Nat → Prop}
theorem heap_new_drewP (w : World) (o : Obj) : (w.alloc o).drew.heap[w.heap.size]? = some o := heap_alloc_new w o
set_option maxHeartbeats 4000000 in
set_option maxRecDepth 100000 in
theorem bind_let (n : Nat) (t : T) (hd : ByteArray) (w : World) (E : Fm → Bool) (hS : ∀ b, S b → b < w.heap.size) (hE : HAsk n E) (hh : ∀ W, Below w.heap.size w W → Calls Tryz.prog 50 #[t.val] W fun e w' => e = .returned (.string hd) ∧ Below W.heap.size W w') (hq : hd.toList = [108, 101, 116]) : Calls Tryz.prog 99 #[t.val] w (fun e w' => RowEnd n S w w' ⟨[bindP [exprP E], exprP E], none, []⟩ e) := by
  have HH := Lib.hid hh
  have HEE := Lib.hid hE
  obtain ⟨S₁, hS₁⟩ : ∃ S₁, S₁ = andFrom S (w.heap.size + 1) 1 := ⟨_, rfl⟩
  have HS1 := Lib.hid (hS₁ ▸ andFrom_lt (k := 1) (fun x h => Nat.lt_succ_of_lt (hS x h)) : ∀ x, S₁ x → x < w.heap.size + 1 + 1)
  have HE := Lib.hid hS₁
  clear hh hE hS₁ hS
  have mixed : Tryz.prog.follows .mixedOrders = true := by kernel_rfl
  go_enter Tryz.func99, Tryz.ntmps99
  go_wp2_with (first
    | (go_at_call 85; refine (anExpr_any (S := S₁) n E HEE.out _).mono ?_; rintro e w1 ⟨vf1, vi1, ve1, rfl, hp1, hB⟩; obtain ⟨K1, c1, K1', c1', rfl, rfl, rfl⟩ := hp1.vals1 rfl; have HP1 := Lib.hid hp1; have HB1 := Lib.hid hB; obtain ⟨q0, q1, q2, q3⟩ := Box4.cells (w := w1) (b := w.heap.size) (t := t) ((hB.block w.heap.size (by simp; omega)).trans ((Below.heap_alloc _ _ _ (by simp)).trans (Box4.new w t))); have lq : w.heap.size < w1.heap.size := Nat.lt_of_lt_of_le (by simp; omega) hB.size; have HZ1 := Lib.hid (Nat.le_trans (by simp) hB.size : w.heap.size + 1 + 1 ≤ w1.heap.size); have hne1 : ¬ (w.heap.size + 1 = w1.heap.size) := (fun e => absurd HZ1.out (by omega)); clear hp1 hB)
    | (go_at_call 50; refine (HH.out _ (up (bel2 _ _ _) (up HB1.out (bel1 _ _)))).mono ?_; rintro e w2 ⟨rfl, hB2⟩; have HY := Lib.hid (fun (W : World) (h : Below w2.heap.size w2 W) => (cells3 ((h.block w1.heap.size (Nat.lt_of_lt_of_le (by simp) hB2.size)).trans ((hB2.block w1.heap.size (by simp)).trans (heap_alloc_new _ _)))).1); obtain ⟨y0, y1, y2⟩ := HY.out w2 (Below.refl _ _); have ly : w1.heap.size < w2.heap.size := Nat.lt_of_lt_of_le (by simp) hB2.size; have HB2 := Lib.hid (up HB1.out (up (bel1 _ _) hB2)); have HZ2 := Lib.hid (Nat.le_trans HZ1.out (Nat.le_of_lt ly)); have HP2 := Lib.hid (HP1.out.below (up (bel1 _ _) hB2)); have HQ := Lib.hid (fun (W : World) (h : Below w2.heap.size w2 W) => Box4.cells (w := W) (b := w.heap.size) (t := t) ((h.block w.heap.size (Nat.lt_trans lq ly)).trans ((hB2.block w.heap.size (by simp; omega)).trans ((Below.heap_alloc _ _ _ lq).trans ((HB1.out.block w.heap.size (by simp; omega)).trans ((Below.heap_alloc _ _ _ (by simp)).trans (Box4.new w t))))))); obtain ⟨p0, p1, p2, p3⟩ := HQ.out w2 (Below.refl _ _); clear hB2))
  go_region_held3 (fun W => W.cell? ⟨w1.heap.size, 0, none⟩ = some (.func (.func K1) #[] c1) ∧ W.cell? ⟨w1.heap.size, 1, none⟩ = some (.func (.func K1') #[] c1') ∧ W.cell? ⟨w1.heap.size, 2, none⟩ = some (.bool (exprP E).isE)) (go_keep)
    (first
      | (go_at_call 158; refine (binding_any (S := S₁) n _ [exprP E] _ _ (fun b e => by have := HS1.out b e; have := HZ2.out; simp; omega) (by simp) ((parts1 (heap_new_drewP _ _) (fun e => absurd (HS1.out _ e) (by have := HZ2.out; first | (simp; omega) | omega)) (HP2.out.below (bel1 _ _).drew)).re (andFrom_re (Nat.le_refl _)))).mono ?_; rintro e w3 ⟨vf3, vi3, ve3, rfl, hx, hB⟩; obtain ⟨K3, c3, K3', c3', rfl, rfl, rfl⟩ := hx.vals1 rfl; have HR3 := Lib.hid hx; have hb := up (bel1 _ _).drew hB; have HC3 := Lib.hid (hb); have HZ3 := Lib.hid (Nat.le_trans HZ2.out hb.size); have He3 := Lib.hid (HP2.out.below hb); obtain ⟨y30, y31, y32⟩ := HY.out w3 HC3.out; clear hb hx hB)
      | (go_at_call 82; refine (just_any (S := S₁) n _ [bindP [exprP E], exprP E] _ _ (parts2 (heap_alloc_new _ _) (fun e => absurd (HS1.out _ e) (by have := HZ3.out; first | (simp; omega) | omega)) (HR3.out.below (bel1 _ _)) (He3.out.below (bel1 _ _)))).mono ?_; rintro e w4 ⟨v4, rfl, hx, hB⟩; have hb := up (bel1 _ _) hB; obtain ⟨fa, fl, fc, ba, bl, bc, m, rfl⟩ := hx.vals; have HRL := Lib.hid hx; have HCL := Lib.hid (up HC3.out hb); have HBL := Lib.hid (up HB2.out HCL.out); obtain ⟨y40, y41, y42⟩ := HY.out w4 HCL.out; obtain ⟨⟨z0, z1, z2⟩, z3, z4, z5⟩ := cells3 ((HBL.out.block (w.heap.size + 1) (by simp)).trans (heap2 _ _ _)); clear hb hx hB)
      | fail)
  go_wp2_with fail
  refine bodyPost_ret (v := .agg #[.slice fa fl fc, .slice ba bl bc, .pointer m]) (by simp [results, Tryz.results99, go_sem, cell_set, z0, z1, z2]) rfl (row_close3 (k := 1) (B0 := w.heap.size + 1) (Nat.le_succ _) (Nat.le_refl _) (Nat.lt_succ_self _) (up (bel2 _ _ _) HBL.out) ?_ _ _ _)
  have hp := HRL.out
  rw [HE.out] at hp
  exact hp
set_option maxHeartbeats 4000000 in
set_option maxRecDepth 100000 in
theorem bind_every (n : Nat) (t : T) (hd : ByteArray) (w : World) (E : Fm → Bool) (hS : ∀ b, S b → b < w.heap.size) (hE : HAsk n E) (hh : ∀ W, Below w.heap.size w W → Calls Tryz.prog 50 #[t.val] W fun e w' => e = .returned (.string hd) ∧ Below W.heap.size W w') (hq : hd.toList = [101, 118, 101, 114, 121]) : Calls Tryz.prog 99 #[t.val] w (fun e w' => RowEnd n S w w' ⟨[bindP [exprP E], exprP E], none, []⟩ e) := by
  have HH := Lib.hid hh
  have HEE := Lib.hid hE
  obtain ⟨S₁, hS₁⟩ : ∃ S₁, S₁ = andFrom S (w.heap.size + 1) 1 := ⟨_, rfl⟩
  have HS1 := Lib.hid (hS₁ ▸ andFrom_lt (k := 1) (fun x h => Nat.lt_succ_of_lt (hS x h)) : ∀ x, S₁ x → x < w.heap.size + 1 + 1)
  have HE := Lib.hid hS₁
  clear hh hE hS₁ hS
  have mixed : Tryz.prog.follows .mixedOrders = true := by kernel_rfl
  go_enter Tryz.func99, Tryz.ntmps99
  go_wp2_with (first
    | (go_at_call 85; refine (anExpr_any (S := S₁) n E HEE.out _).mono ?_; rintro e w1 ⟨vf1, vi1, ve1, rfl, hp1, hB⟩; obtain ⟨K1, c1, K1', c1', rfl, rfl, rfl⟩ := hp1.vals1 rfl; have HP1 := Lib.hid hp1; have HB1 := Lib.hid hB; obtain ⟨q0, q1, q2, q3⟩ := Box4.cells (w := w1) (b := w.heap.size) (t := t) ((hB.block w.heap.size (by simp; omega)).trans ((Below.heap_alloc _ _ _ (by simp)).trans (Box4.new w t))); have lq : w.heap.size < w1.heap.size := Nat.lt_of_lt_of_le (by simp; omega) hB.size; have HZ1 := Lib.hid (Nat.le_trans (by simp) hB.size : w.heap.size + 1 + 1 ≤ w1.heap.size); have hne1 : ¬ (w.heap.size + 1 = w1.heap.size) := (fun e => absurd HZ1.out (by omega)); clear hp1 hB)
    | (go_at_call 50; refine (HH.out _ (up (bel2 _ _ _) (up HB1.out (bel1 _ _)))).mono ?_; rintro e w2 ⟨rfl, hB2⟩; have HY := Lib.hid (fun (W : World) (h : Below w2.heap.size w2 W) => (cells3 ((h.block w1.heap.size (Nat.lt_of_lt_of_le (by simp) hB2.size)).trans ((hB2.block w1.heap.size (by simp)).trans (heap_alloc_new _ _)))).1); obtain ⟨y0, y1, y2⟩ := HY.out w2 (Below.refl _ _); have ly : w1.heap.size < w2.heap.size := Nat.lt_of_lt_of_le (by simp) hB2.size; have HB2 := Lib.hid (up HB1.out (up (bel1 _ _) hB2)); have HZ2 := Lib.hid (Nat.le_trans HZ1.out (Nat.le_of_lt ly)); have HP2 := Lib.hid (HP1.out.below (up (bel1 _ _) hB2)); have HQ := Lib.hid (fun (W : World) (h : Below w2.heap.size w2 W) => Box4.cells (w := W) (b := w.heap.size) (t := t) ((h.block w.heap.size (Nat.lt_trans lq ly)).trans ((hB2.block w.heap.size (by simp; omega)).trans ((Below.heap_alloc _ _ _ lq).trans ((HB1.out.block w.heap.size (by simp; omega)).trans ((Below.heap_alloc _ _ _ (by simp)).trans (Box4.new w t))))))); obtain ⟨p0, p1, p2, p3⟩ := HQ.out w2 (Below.refl _ _); clear hB2))
  go_region_held3 (fun W => W.cell? ⟨w1.heap.size, 0, none⟩ = some (.func (.func K1) #[] c1) ∧ W.cell? ⟨w1.heap.size, 1, none⟩ = some (.func (.func K1') #[] c1') ∧ W.cell? ⟨w1.heap.size, 2, none⟩ = some (.bool (exprP E).isE)) (go_keep)
    (first
      | (go_at_call 158; refine (binding_any (S := S₁) n _ [exprP E] _ _ (fun b e => by have := HS1.out b e; have := HZ2.out; simp; omega) (by simp) ((parts1 (heap_new_drewP _ _) (fun e => absurd (HS1.out _ e) (by have := HZ2.out; first | (simp; omega) | omega)) (HP2.out.below (bel1 _ _).drew)).re (andFrom_re (Nat.le_refl _)))).mono ?_; rintro e w3 ⟨vf3, vi3, ve3, rfl, hx, hB⟩; obtain ⟨K3, c3, K3', c3', rfl, rfl, rfl⟩ := hx.vals1 rfl; have HR3 := Lib.hid hx; have hb := up (bel1 _ _).drew hB; have HC3 := Lib.hid (hb); have HZ3 := Lib.hid (Nat.le_trans HZ2.out hb.size); have He3 := Lib.hid (HP2.out.below hb); obtain ⟨y30, y31, y32⟩ := HY.out w3 HC3.out; clear hb hx hB)
      | (go_at_call 82; refine (just_any (S := S₁) n _ [bindP [exprP E], exprP E] _ _ (parts2 (heap_alloc_new _ _) (fun e => absurd (HS1.out _ e) (by have := HZ3.out; first | (simp; omega) | omega)) (HR3.out.below (bel1 _ _)) (He3.out.below (bel1 _ _)))).mono ?_; rintro e w4 ⟨v4, rfl, hx, hB⟩; have hb := up (bel1 _ _) hB; obtain ⟨fa, fl, fc, ba, bl, bc, m, rfl⟩ := hx.vals; have HRL := Lib.hid hx; have HCL := Lib.hid (up HC3.out hb); have HBL := Lib.hid (up HB2.out HCL.out); obtain ⟨y40, y41, y42⟩ := HY.out w4 HCL.out; obtain ⟨⟨z0, z1, z2⟩, z3, z4, z5⟩ := cells3 ((HBL.out.block (w.heap.size + 1) (by simp)).trans (heap2 _ _ _)); clear hb hx hB)
      | fail)
  go_wp2_with fail
  refine bodyPost_ret (v := .agg #[.slice fa fl fc, .slice ba bl bc, .pointer m]) (by simp [results, Tryz.results99, go_sem, cell_set, z0, z1, z2]) rfl (row_close3 (k := 1) (B0 := w.heap.size + 1) (Nat.le_succ _) (Nat.le_refl _) (Nat.lt_succ_self _) (up (bel2 _ _ _) HBL.out) ?_ _ _ _)
  have hp := HRL.out
  rw [HE.out] at hp
  exact hp
set_option maxHeartbeats 4000000 in
set_option maxRecDepth 100000 in
theorem bind_any (n : Nat) (t : T) (hd : ByteArray) (w : World) (E : Fm → Bool) (hS : ∀ b, S b → b < w.heap.size) (hE : HAsk n E) (hh : ∀ W, Below w.heap.size w W → Calls Tryz.prog 50 #[t.val] W fun e w' => e = .returned (.string hd) ∧ Below W.heap.size W w') (hq : hd.toList = [97, 110, 121]) : Calls Tryz.prog 99 #[t.val] w (fun e w' => RowEnd n S w w' ⟨[bindP [exprP E], exprP E], none, []⟩ e) := by
  have HH := Lib.hid hh
  have HEE := Lib.hid hE
  obtain ⟨S₁, hS₁⟩ : ∃ S₁, S₁ = andFrom S (w.heap.size + 1) 1 := ⟨_, rfl⟩
  have HS1 := Lib.hid (hS₁ ▸ andFrom_lt (k := 1) (fun x h => Nat.lt_succ_of_lt (hS x h)) : ∀ x, S₁ x → x < w.heap.size + 1 + 1)
  have HE := Lib.hid hS₁
  clear hh hE hS₁ hS
  have mixed : Tryz.prog.follows .mixedOrders = true := by kernel_rfl
  go_enter Tryz.func99, Tryz.ntmps99
  go_wp2_with (first
    | (go_at_call 85; refine (anExpr_any (S := S₁) n E HEE.out _).mono ?_; rintro e w1 ⟨vf1, vi1, ve1, rfl, hp1, hB⟩; obtain ⟨K1, c1, K1', c1', rfl, rfl, rfl⟩ := hp1.vals1 rfl; have HP1 := Lib.hid hp1; have HB1 := Lib.hid hB; obtain ⟨q0, q1, q2, q3⟩ := Box4.cells (w := w1) (b := w.heap.size) (t := t) ((hB.block w.heap.size (by simp; omega)).trans ((Below.heap_alloc _ _ _ (by simp)).trans (Box4.new w t))); have lq : w.heap.size < w1.heap.size := Nat.lt_of_lt_of_le (by simp; omega) hB.size; have HZ1 := Lib.hid (Nat.le_trans (by simp) hB.size : w.heap.size + 1 + 1 ≤ w1.heap.size); have hne1 : ¬ (w.heap.size + 1 = w1.heap.size) := (fun e => absurd HZ1.out (by omega)); clear hp1 hB)
    | (go_at_call 50; refine (HH.out _ (up (bel2 _ _ _) (up HB1.out (bel1 _ _)))).mono ?_; rintro e w2 ⟨rfl, hB2⟩; have HY := Lib.hid (fun (W : World) (h : Below w2.heap.size w2 W) => (cells3 ((h.block w1.heap.size (Nat.lt_of_lt_of_le (by simp) hB2.size)).trans ((hB2.block w1.heap.size (by simp)).trans (heap_alloc_new _ _)))).1); obtain ⟨y0, y1, y2⟩ := HY.out w2 (Below.refl _ _); have ly : w1.heap.size < w2.heap.size := Nat.lt_of_lt_of_le (by simp) hB2.size; have HB2 := Lib.hid (up HB1.out (up (bel1 _ _) hB2)); have HZ2 := Lib.hid (Nat.le_trans HZ1.out (Nat.le_of_lt ly)); have HP2 := Lib.hid (HP1.out.below (up (bel1 _ _) hB2)); have HQ := Lib.hid (fun (W : World) (h : Below w2.heap.size w2 W) => Box4.cells (w := W) (b := w.heap.size) (t := t) ((h.block w.heap.size (Nat.lt_trans lq ly)).trans ((hB2.block w.heap.size (by simp; omega)).trans ((Below.heap_alloc _ _ _ lq).trans ((HB1.out.block w.heap.size (by simp; omega)).trans ((Below.heap_alloc _ _ _ (by simp)).trans (Box4.new w t))))))); obtain ⟨p0, p1, p2, p3⟩ := HQ.out w2 (Below.refl _ _); clear hB2))
  go_region_held3 (fun W => W.cell? ⟨w1.heap.size, 0, none⟩ = some (.func (.func K1) #[] c1) ∧ W.cell? ⟨w1.heap.size, 1, none⟩ = some (.func (.func K1') #[] c1') ∧ W.cell? ⟨w1.heap.size, 2, none⟩ = some (.bool (exprP E).isE)) (go_keep)
    (first
      | (go_at_call 158; refine (binding_any (S := S₁) n _ [exprP E] _ _ (fun b e => by have := HS1.out b e; have := HZ2.out; simp; omega) (by simp) ((parts1 (heap_new_drewP _ _) (fun e => absurd (HS1.out _ e) (by have := HZ2.out; first | (simp; omega) | omega)) (HP2.out.below (bel1 _ _).drew)).re (andFrom_re (Nat.le_refl _)))).mono ?_; rintro e w3 ⟨vf3, vi3, ve3, rfl, hx, hB⟩; obtain ⟨K3, c3, K3', c3', rfl, rfl, rfl⟩ := hx.vals1 rfl; have HR3 := Lib.hid hx; have hb := up (bel1 _ _).drew hB; have HC3 := Lib.hid (hb); have HZ3 := Lib.hid (Nat.le_trans HZ2.out hb.size); have He3 := Lib.hid (HP2.out.below hb); obtain ⟨y30, y31, y32⟩ := HY.out w3 HC3.out; clear hb hx hB)
      | (go_at_call 82; refine (just_any (S := S₁) n _ [bindP [exprP E], exprP E] _ _ (parts2 (heap_alloc_new _ _) (fun e => absurd (HS1.out _ e) (by have := HZ3.out; first | (simp; omega) | omega)) (HR3.out.below (bel1 _ _)) (He3.out.below (bel1 _ _)))).mono ?_; rintro e w4 ⟨v4, rfl, hx, hB⟩; have hb := up (bel1 _ _) hB; obtain ⟨fa, fl, fc, ba, bl, bc, m, rfl⟩ := hx.vals; have HRL := Lib.hid hx; have HCL := Lib.hid (up HC3.out hb); have HBL := Lib.hid (up HB2.out HCL.out); obtain ⟨y40, y41, y42⟩ := HY.out w4 HCL.out; obtain ⟨⟨z0, z1, z2⟩, z3, z4, z5⟩ := cells3 ((HBL.out.block (w.heap.size + 1) (by simp)).trans (heap2 _ _ _)); clear hb hx hB)
      | fail)
  go_wp2_with fail
  refine bodyPost_ret (v := .agg #[.slice fa fl fc, .slice ba bl bc, .pointer m]) (by simp [results, Tryz.results99, go_sem, cell_set, z0, z1, z2]) rfl (row_close3 (k := 1) (B0 := w.heap.size + 1) (Nat.le_succ _) (Nat.le_refl _) (Nat.lt_succ_self _) (up (bel2 _ _ _) HBL.out) ?_ _ _ _)
  have hp := HRL.out
  rw [HE.out] at hp
  exact hp
set_option maxHeartbeats 4000000 in
set_option maxRecDepth 100000 in
theorem bind_all (n : Nat) (t : T) (hd : ByteArray) (w : World) (E : Fm → Bool) (hS : ∀ b, S b → b < w.heap.size) (hE : HAsk n E) (hh : ∀ W, Below w.heap.size w W → Calls Tryz.prog 50 #[t.val] W fun e w' => e = .returned (.string hd) ∧ Below W.heap.size W w') (hq : hd.toList = [97, 108, 108]) : Calls Tryz.prog 99 #[t.val] w (fun e w' => RowEnd n S w w' ⟨[bindP [exprP E, exprP E], exprP E], none, []⟩ e) := by
  have HH := Lib.hid hh
  have HEE := Lib.hid hE
  obtain ⟨S₁, hS₁⟩ : ∃ S₁, S₁ = andFrom S (w.heap.size + 1) 1 := ⟨_, rfl⟩
  have HS1 := Lib.hid (hS₁ ▸ andFrom_lt (k := 1) (fun x h => Nat.lt_succ_of_lt (hS x h)) : ∀ x, S₁ x → x < w.heap.size + 1 + 1)
  have HE := Lib.hid hS₁
  clear hh hE hS₁ hS
  have mixed : Tryz.prog.follows .mixedOrders = true := by kernel_rfl
  go_enter Tryz.func99, Tryz.ntmps99
  go_wp2_with (first
    | (go_at_call 85; refine (anExpr_any (S := S₁) n E HEE.out _).mono ?_; rintro e w1 ⟨vf1, vi1, ve1, rfl, hp1, hB⟩; obtain ⟨K1, c1, K1', c1', rfl, rfl, rfl⟩ := hp1.vals1 rfl; have HP1 := Lib.hid hp1; have HB1 := Lib.hid hB; obtain ⟨q0, q1, q2, q3⟩ := Box4.cells (w := w1) (b := w.heap.size) (t := t) ((hB.block w.heap.size (by simp; omega)).trans ((Below.heap_alloc _ _ _ (by simp)).trans (Box4.new w t))); have lq : w.heap.size < w1.heap.size := Nat.lt_of_lt_of_le (by simp; omega) hB.size; have HZ1 := Lib.hid (Nat.le_trans (by simp) hB.size : w.heap.size + 1 + 1 ≤ w1.heap.size); have hne1 : ¬ (w.heap.size + 1 = w1.heap.size) := (fun e => absurd HZ1.out (by omega)); clear hp1 hB)
    | (go_at_call 50; refine (HH.out _ (up (bel2 _ _ _) (up HB1.out (bel1 _ _)))).mono ?_; rintro e w2 ⟨rfl, hB2⟩; have HY := Lib.hid (fun (W : World) (h : Below w2.heap.size w2 W) => (cells3 ((h.block w1.heap.size (Nat.lt_of_lt_of_le (by simp) hB2.size)).trans ((hB2.block w1.heap.size (by simp)).trans (heap_alloc_new _ _)))).1); obtain ⟨y0, y1, y2⟩ := HY.out w2 (Below.refl _ _); have ly : w1.heap.size < w2.heap.size := Nat.lt_of_lt_of_le (by simp) hB2.size; have HB2 := Lib.hid (up HB1.out (up (bel1 _ _) hB2)); have HZ2 := Lib.hid (Nat.le_trans HZ1.out (Nat.le_of_lt ly)); have HP2 := Lib.hid (HP1.out.below (up (bel1 _ _) hB2)); have HQ := Lib.hid (fun (W : World) (h : Below w2.heap.size w2 W) => Box4.cells (w := W) (b := w.heap.size) (t := t) ((h.block w.heap.size (Nat.lt_trans lq ly)).trans ((hB2.block w.heap.size (by simp; omega)).trans ((Below.heap_alloc _ _ _ lq).trans ((HB1.out.block w.heap.size (by simp; omega)).trans ((Below.heap_alloc _ _ _ (by simp)).trans (Box4.new w t))))))); obtain ⟨p0, p1, p2, p3⟩ := HQ.out w2 (Below.refl _ _); clear hB2))
  go_region_held3 (fun W => W.cell? ⟨w1.heap.size, 0, none⟩ = some (.func (.func K1) #[] c1) ∧ W.cell? ⟨w1.heap.size, 1, none⟩ = some (.func (.func K1') #[] c1') ∧ W.cell? ⟨w1.heap.size, 2, none⟩ = some (.bool (exprP E).isE)) (go_keep)
    (first
      | (go_at_call 158; refine (binding_any (S := S₁) n _ [exprP E, exprP E] _ _ (fun b e => by have := HS1.out b e; have := HZ2.out; simp; omega) (by simp) ((parts2 (heap_new_drewP _ _) (fun e => absurd (HS1.out _ e) (by have := HZ2.out; first | (simp; omega) | omega)) (HP2.out.below (bel1 _ _).drew) (HP2.out.below (bel1 _ _).drew)).re (andFrom_re (Nat.le_refl _)))).mono ?_; rintro e w3 ⟨vf3, vi3, ve3, rfl, hx, hB⟩; obtain ⟨K3, c3, K3', c3', rfl, rfl, rfl⟩ := hx.vals1 rfl; have HR3 := Lib.hid hx; have hb := up (bel1 _ _).drew hB; have HC3 := Lib.hid (hb); have HZ3 := Lib.hid (Nat.le_trans HZ2.out hb.size); have He3 := Lib.hid (HP2.out.below hb); obtain ⟨y30, y31, y32⟩ := HY.out w3 HC3.out; clear hb hx hB)
      | (go_at_call 82; refine (just_any (S := S₁) n _ [bindP [exprP E, exprP E], exprP E] _ _ (parts2 (heap_alloc_new _ _) (fun e => absurd (HS1.out _ e) (by have := HZ3.out; first | (simp; omega) | omega)) (HR3.out.below (bel1 _ _)) (He3.out.below (bel1 _ _)))).mono ?_; rintro e w4 ⟨v4, rfl, hx, hB⟩; have hb := up (bel1 _ _) hB; obtain ⟨fa, fl, fc, ba, bl, bc, m, rfl⟩ := hx.vals; have HRL := Lib.hid hx; have HCL := Lib.hid (up HC3.out hb); have HBL := Lib.hid (up HB2.out HCL.out); obtain ⟨y40, y41, y42⟩ := HY.out w4 HCL.out; obtain ⟨⟨z0, z1, z2⟩, z3, z4, z5⟩ := cells3 ((HBL.out.block (w.heap.size + 1) (by simp)).trans (heap2 _ _ _)); clear hb hx hB)
      | fail)
  go_wp2_with fail
  refine bodyPost_ret (v := .agg #[.slice fa fl fc, .slice ba bl bc, .pointer m]) (by simp [results, Tryz.results99, go_sem, cell_set, z0, z1, z2]) rfl (row_close3 (k := 1) (B0 := w.heap.size + 1) (Nat.le_succ _) (Nat.le_refl _) (Nat.lt_succ_self _) (up (bel2 _ _ _) HBL.out) ?_ _ _ _)
  have hp := HRL.out
  rw [HE.out] at hp
  exact hp
set_option maxHeartbeats 4000000 in
set_option maxRecDepth 100000 in
theorem bind_some (n : Nat) (t : T) (hd : ByteArray) (w : World) (E : Fm → Bool) (hS : ∀ b, S b → b < w.heap.size) (hE : HAsk n E) (hh : ∀ W, Below w.heap.size w W → Calls Tryz.prog 50 #[t.val] W fun e w' => e = .returned (.string hd) ∧ Below W.heap.size W w') (hq : hd.toList = [115, 111, 109, 101]) : Calls Tryz.prog 99 #[t.val] w (fun e w' => RowEnd n S w w' ⟨[bindP [exprP E, exprP E], exprP E], none, []⟩ e) := by
  have HH := Lib.hid hh
  have HEE := Lib.hid hE
  obtain ⟨S₁, hS₁⟩ : ∃ S₁, S₁ = andFrom S (w.heap.size + 1) 1 := ⟨_, rfl⟩
  have HS1 := Lib.hid (hS₁ ▸ andFrom_lt (k := 1) (fun x h => Nat.lt_succ_of_lt (hS x h)) : ∀ x, S₁ x → x < w.heap.size + 1 + 1)
  have HE := Lib.hid hS₁
  clear hh hE hS₁ hS
  have mixed : Tryz.prog.follows .mixedOrders = true := by kernel_rfl
  go_enter Tryz.func99, Tryz.ntmps99
  go_wp2_with (first
    | (go_at_call 85; refine (anExpr_any (S := S₁) n E HEE.out _).mono ?_; rintro e w1 ⟨vf1, vi1, ve1, rfl, hp1, hB⟩; obtain ⟨K1, c1, K1', c1', rfl, rfl, rfl⟩ := hp1.vals1 rfl; have HP1 := Lib.hid hp1; have HB1 := Lib.hid hB; obtain ⟨q0, q1, q2, q3⟩ := Box4.cells (w := w1) (b := w.heap.size) (t := t) ((hB.block w.heap.size (by simp; omega)).trans ((Below.heap_alloc _ _ _ (by simp)).trans (Box4.new w t))); have lq : w.heap.size < w1.heap.size := Nat.lt_of_lt_of_le (by simp; omega) hB.size; have HZ1 := Lib.hid (Nat.le_trans (by simp) hB.size : w.heap.size + 1 + 1 ≤ w1.heap.size); have hne1 : ¬ (w.heap.size + 1 = w1.heap.size) := (fun e => absurd HZ1.out (by omega)); clear hp1 hB)
    | (go_at_call 50; refine (HH.out _ (up (bel2 _ _ _) (up HB1.out (bel1 _ _)))).mono ?_; rintro e w2 ⟨rfl, hB2⟩; have HY := Lib.hid (fun (W : World) (h : Below w2.heap.size w2 W) => (cells3 ((h.block w1.heap.size (Nat.lt_of_lt_of_le (by simp) hB2.size)).trans ((hB2.block w1.heap.size (by simp)).trans (heap_alloc_new _ _)))).1); obtain ⟨y0, y1, y2⟩ := HY.out w2 (Below.refl _ _); have ly : w1.heap.size < w2.heap.size := Nat.lt_of_lt_of_le (by simp) hB2.size; have HB2 := Lib.hid (up HB1.out (up (bel1 _ _) hB2)); have HZ2 := Lib.hid (Nat.le_trans HZ1.out (Nat.le_of_lt ly)); have HP2 := Lib.hid (HP1.out.below (up (bel1 _ _) hB2)); have HQ := Lib.hid (fun (W : World) (h : Below w2.heap.size w2 W) => Box4.cells (w := W) (b := w.heap.size) (t := t) ((h.block w.heap.size (Nat.lt_trans lq ly)).trans ((hB2.block w.heap.size (by simp; omega)).trans ((Below.heap_alloc _ _ _ lq).trans ((HB1.out.block w.heap.size (by simp; omega)).trans ((Below.heap_alloc _ _ _ (by simp)).trans (Box4.new w t))))))); obtain ⟨p0, p1, p2, p3⟩ := HQ.out w2 (Below.refl _ _); clear hB2))
  go_region_held3 (fun W => W.cell? ⟨w1.heap.size, 0, none⟩ = some (.func (.func K1) #[] c1) ∧ W.cell? ⟨w1.heap.size, 1, none⟩ = some (.func (.func K1') #[] c1') ∧ W.cell? ⟨w1.heap.size, 2, none⟩ = some (.bool (exprP E).isE)) (go_keep)
    (first
      | (go_at_call 158; refine (binding_any (S := S₁) n _ [exprP E, exprP E] _ _ (fun b e => by have := HS1.out b e; have := HZ2.out; simp; omega) (by simp) ((parts2 (heap_new_drewP _ _) (fun e => absurd (HS1.out _ e) (by have := HZ2.out; first | (simp; omega) | omega)) (HP2.out.below (bel1 _ _).drew) (HP2.out.below (bel1 _ _).drew)).re (andFrom_re (Nat.le_refl _)))).mono ?_; rintro e w3 ⟨vf3, vi3, ve3, rfl, hx, hB⟩; obtain ⟨K3, c3, K3', c3', rfl, rfl, rfl⟩ := hx.vals1 rfl; have HR3 := Lib.hid hx; have hb := up (bel1 _ _).drew hB; have HC3 := Lib.hid (hb); have HZ3 := Lib.hid (Nat.le_trans HZ2.out hb.size); have He3 := Lib.hid (HP2.out.below hb); obtain ⟨y30, y31, y32⟩ := HY.out w3 HC3.out; clear hb hx hB)
      | (go_at_call 82; refine (just_any (S := S₁) n _ [bindP [exprP E, exprP E], exprP E] _ _ (parts2 (heap_alloc_new _ _) (fun e => absurd (HS1.out _ e) (by have := HZ3.out; first | (simp; omega) | omega)) (HR3.out.below (bel1 _ _)) (He3.out.below (bel1 _ _)))).mono ?_; rintro e w4 ⟨v4, rfl, hx, hB⟩; have hb := up (bel1 _ _) hB; obtain ⟨fa, fl, fc, ba, bl, bc, m, rfl⟩ := hx.vals; have HRL := Lib.hid hx; have HCL := Lib.hid (up HC3.out hb); have HBL := Lib.hid (up HB2.out HCL.out); obtain ⟨y40, y41, y42⟩ := HY.out w4 HCL.out; obtain ⟨⟨z0, z1, z2⟩, z3, z4, z5⟩ := cells3 ((HBL.out.block (w.heap.size + 1) (by simp)).trans (heap2 _ _ _)); clear hb hx hB)
      | fail)
  go_wp2_with fail
  refine bodyPost_ret (v := .agg #[.slice fa fl fc, .slice ba bl bc, .pointer m]) (by simp [results, Tryz.results99, go_sem, cell_set, z0, z1, z2]) rfl (row_close3 (k := 1) (B0 := w.heap.size + 1) (Nat.le_succ _) (Nat.le_refl _) (Nat.lt_succ_self _) (up (bel2 _ _ _) HBL.out) ?_ _ _ _)
  have hp := HRL.out
  rw [HE.out] at hp
  exact hp
set_option maxHeartbeats 4000000 in
set_option maxRecDepth 100000 in
theorem bind_pick (n : Nat) (t : T) (hd : ByteArray) (w : World) (E : Fm → Bool) (hS : ∀ b, S b → b < w.heap.size) (hE : HAsk n E) (hh : ∀ W, Below w.heap.size w W → Calls Tryz.prog 50 #[t.val] W fun e w' => e = .returned (.string hd) ∧ Below W.heap.size W w') (hq : hd.toList = [112, 105, 99, 107]) : Calls Tryz.prog 99 #[t.val] w (fun e w' => RowEnd n S w w' ⟨[bindP [exprP E, exprP E], exprP E, exprP E], none, []⟩ e) := by
  have HH := Lib.hid hh
  have HEE := Lib.hid hE
  obtain ⟨S₁, hS₁⟩ : ∃ S₁, S₁ = andFrom S (w.heap.size + 1) 1 := ⟨_, rfl⟩
  have HS1 := Lib.hid (hS₁ ▸ andFrom_lt (k := 1) (fun x h => Nat.lt_succ_of_lt (hS x h)) : ∀ x, S₁ x → x < w.heap.size + 1 + 1)
  have HE := Lib.hid hS₁
  clear hh hE hS₁ hS
  have mixed : Tryz.prog.follows .mixedOrders = true := by kernel_rfl
  go_enter Tryz.func99, Tryz.ntmps99
  go_wp2_with (first
    | (go_at_call 85; refine (anExpr_any (S := S₁) n E HEE.out _).mono ?_; rintro e w1 ⟨vf1, vi1, ve1, rfl, hp1, hB⟩; obtain ⟨K1, c1, K1', c1', rfl, rfl, rfl⟩ := hp1.vals1 rfl; have HP1 := Lib.hid hp1; have HB1 := Lib.hid hB; obtain ⟨q0, q1, q2, q3⟩ := Box4.cells (w := w1) (b := w.heap.size) (t := t) ((hB.block w.heap.size (by simp; omega)).trans ((Below.heap_alloc _ _ _ (by simp)).trans (Box4.new w t))); have lq : w.heap.size < w1.heap.size := Nat.lt_of_lt_of_le (by simp; omega) hB.size; have HZ1 := Lib.hid (Nat.le_trans (by simp) hB.size : w.heap.size + 1 + 1 ≤ w1.heap.size); have hne1 : ¬ (w.heap.size + 1 = w1.heap.size) := (fun e => absurd HZ1.out (by omega)); clear hp1 hB)
    | (go_at_call 50; refine (HH.out _ (up (bel2 _ _ _) (up HB1.out (bel1 _ _)))).mono ?_; rintro e w2 ⟨rfl, hB2⟩; have HY := Lib.hid (fun (W : World) (h : Below w2.heap.size w2 W) => (cells3 ((h.block w1.heap.size (Nat.lt_of_lt_of_le (by simp) hB2.size)).trans ((hB2.block w1.heap.size (by simp)).trans (heap_alloc_new _ _)))).1); obtain ⟨y0, y1, y2⟩ := HY.out w2 (Below.refl _ _); have ly : w1.heap.size < w2.heap.size := Nat.lt_of_lt_of_le (by simp) hB2.size; have HB2 := Lib.hid (up HB1.out (up (bel1 _ _) hB2)); have HZ2 := Lib.hid (Nat.le_trans HZ1.out (Nat.le_of_lt ly)); have HP2 := Lib.hid (HP1.out.below (up (bel1 _ _) hB2)); have HQ := Lib.hid (fun (W : World) (h : Below w2.heap.size w2 W) => Box4.cells (w := W) (b := w.heap.size) (t := t) ((h.block w.heap.size (Nat.lt_trans lq ly)).trans ((hB2.block w.heap.size (by simp; omega)).trans ((Below.heap_alloc _ _ _ lq).trans ((HB1.out.block w.heap.size (by simp; omega)).trans ((Below.heap_alloc _ _ _ (by simp)).trans (Box4.new w t))))))); obtain ⟨p0, p1, p2, p3⟩ := HQ.out w2 (Below.refl _ _); clear hB2))
  go_region_held3 (fun W => W.cell? ⟨w1.heap.size, 0, none⟩ = some (.func (.func K1) #[] c1) ∧ W.cell? ⟨w1.heap.size, 1, none⟩ = some (.func (.func K1') #[] c1') ∧ W.cell? ⟨w1.heap.size, 2, none⟩ = some (.bool (exprP E).isE)) (go_keep)
    (first
      | (go_at_call 158; refine (binding_any (S := S₁) n _ [exprP E, exprP E] _ _ (fun b e => by have := HS1.out b e; have := HZ2.out; simp; omega) (by simp) ((parts2 (heap_new_drewP _ _) (fun e => absurd (HS1.out _ e) (by have := HZ2.out; first | (simp; omega) | omega)) (HP2.out.below (bel1 _ _).drew) (HP2.out.below (bel1 _ _).drew)).re (andFrom_re (Nat.le_refl _)))).mono ?_; rintro e w3 ⟨vf3, vi3, ve3, rfl, hx, hB⟩; obtain ⟨K3, c3, K3', c3', rfl, rfl, rfl⟩ := hx.vals1 rfl; have HR3 := Lib.hid hx; have hb := up (bel1 _ _).drew hB; have HC3 := Lib.hid (hb); have HZ3 := Lib.hid (Nat.le_trans HZ2.out hb.size); have He3 := Lib.hid (HP2.out.below hb); obtain ⟨y30, y31, y32⟩ := HY.out w3 HC3.out; clear hb hx hB)
      | (go_at_call 82; refine (just_any (S := S₁) n _ [bindP [exprP E, exprP E], exprP E, exprP E] _ _ (parts3 (heap_alloc_new _ _) (fun e => absurd (HS1.out _ e) (by have := HZ3.out; first | (simp; omega) | omega)) (HR3.out.below (bel1 _ _)) (He3.out.below (bel1 _ _)) (He3.out.below (bel1 _ _)))).mono ?_; rintro e w4 ⟨v4, rfl, hx, hB⟩; have hb := up (bel1 _ _) hB; obtain ⟨fa, fl, fc, ba, bl, bc, m, rfl⟩ := hx.vals; have HRL := Lib.hid hx; have HCL := Lib.hid (up HC3.out hb); have HBL := Lib.hid (up HB2.out HCL.out); obtain ⟨y40, y41, y42⟩ := HY.out w4 HCL.out; obtain ⟨⟨z0, z1, z2⟩, z3, z4, z5⟩ := cells3 ((HBL.out.block (w.heap.size + 1) (by simp)).trans (heap2 _ _ _)); clear hb hx hB)
      | fail)
  go_wp2_with fail
  refine bodyPost_ret (v := .agg #[.slice fa fl fc, .slice ba bl bc, .pointer m]) (by simp [results, Tryz.results99, go_sem, cell_set, z0, z1, z2]) rfl (row_close3 (k := 1) (B0 := w.heap.size + 1) (Nat.le_succ _) (Nat.le_refl _) (Nat.lt_succ_self _) (up (bel2 _ _ _) HBL.out) ?_ _ _ _)
  have hp := HRL.out
  rw [HE.out] at hp
  exact hp
set_option maxHeartbeats 4000000 in
set_option maxRecDepth 100000 in
theorem bind_fn (n : Nat) (t : T) (hd : ByteArray) (w : World) (E : Fm → Bool) (hS : ∀ b, S b → b < w.heap.size) (hE : HAsk n E) (hh : ∀ W, Below w.heap.size w W → Calls Tryz.prog 50 #[t.val] W fun e w' => e = .returned (.string hd) ∧ Below W.heap.size W w') (hq : hd.toList = [102, 110]) : Calls Tryz.prog 99 #[t.val] w (fun e w' => RowEnd n S w w' ⟨[paramsP, exprP E], none, []⟩ e) := by
  have HH := Lib.hid hh
  have HEE := Lib.hid hE
  obtain ⟨S₁, hS₁⟩ : ∃ S₁, S₁ = andFrom S (w.heap.size + 1) 1 := ⟨_, rfl⟩
  have HS1 := Lib.hid (hS₁ ▸ andFrom_lt (k := 1) (fun x h => Nat.lt_succ_of_lt (hS x h)) : ∀ x, S₁ x → x < w.heap.size + 1 + 1)
  have HE := Lib.hid hS₁
  clear hh hE hS₁ hS
  have mixed : Tryz.prog.follows .mixedOrders = true := by kernel_rfl
  go_enter Tryz.func99, Tryz.ntmps99
  go_wp2_with (first
    | (go_at_call 85; refine (anExpr_any (S := S₁) n E HEE.out _).mono ?_; rintro e w1 ⟨vf1, vi1, ve1, rfl, hp1, hB⟩; obtain ⟨K1, c1, K1', c1', rfl, rfl, rfl⟩ := hp1.vals1 rfl; have HP1 := Lib.hid hp1; have HB1 := Lib.hid hB; obtain ⟨q0, q1, q2, q3⟩ := Box4.cells (w := w1) (b := w.heap.size) (t := t) ((hB.block w.heap.size (by simp; omega)).trans ((Below.heap_alloc _ _ _ (by simp)).trans (Box4.new w t))); have lq : w.heap.size < w1.heap.size := Nat.lt_of_lt_of_le (by simp; omega) hB.size; have HZ1 := Lib.hid (Nat.le_trans (by simp) hB.size : w.heap.size + 1 + 1 ≤ w1.heap.size); have hne1 : ¬ (w.heap.size + 1 = w1.heap.size) := (fun e => absurd HZ1.out (by omega)); clear hp1 hB)
    | (go_at_call 50; refine (HH.out _ (up (bel2 _ _ _) (up HB1.out (bel1 _ _)))).mono ?_; rintro e w2 ⟨rfl, hB2⟩; have HY := Lib.hid (fun (W : World) (h : Below w2.heap.size w2 W) => (cells3 ((h.block w1.heap.size (Nat.lt_of_lt_of_le (by simp) hB2.size)).trans ((hB2.block w1.heap.size (by simp)).trans (heap_alloc_new _ _)))).1); obtain ⟨y0, y1, y2⟩ := HY.out w2 (Below.refl _ _); have ly : w1.heap.size < w2.heap.size := Nat.lt_of_lt_of_le (by simp) hB2.size; have HB2 := Lib.hid (up HB1.out (up (bel1 _ _) hB2)); have HZ2 := Lib.hid (Nat.le_trans HZ1.out (Nat.le_of_lt ly)); have HP2 := Lib.hid (HP1.out.below (up (bel1 _ _) hB2)); have HQ := Lib.hid (fun (W : World) (h : Below w2.heap.size w2 W) => Box4.cells (w := W) (b := w.heap.size) (t := t) ((h.block w.heap.size (Nat.lt_trans lq ly)).trans ((hB2.block w.heap.size (by simp; omega)).trans ((Below.heap_alloc _ _ _ lq).trans ((HB1.out.block w.heap.size (by simp; omega)).trans ((Below.heap_alloc _ _ _ (by simp)).trans (Box4.new w t))))))); obtain ⟨p0, p1, p2, p3⟩ := HQ.out w2 (Below.refl _ _); clear hB2))
  go_region_held3 (fun W => W.cell? ⟨w1.heap.size, 0, none⟩ = some (.func (.func K1) #[] c1) ∧ W.cell? ⟨w1.heap.size, 1, none⟩ = some (.func (.func K1') #[] c1') ∧ W.cell? ⟨w1.heap.size, 2, none⟩ = some (.bool (exprP E).isE)) (go_keep)
    (first
      | (go_at_call 88; refine (params_any (S := S₁) n _ (fun b e => by have := HS1.out b e; have := HZ2.out; first | omega | (simp; omega))).mono ?_; rintro e w3 ⟨vf3, vi3, ve3, rfl, hx, hB⟩; obtain ⟨K3, c3, K3', c3', rfl, rfl, rfl⟩ := hx.vals1 rfl; have HR3 := Lib.hid hx; have hb := up (Below.refl _ _).drew hB; have HC3 := Lib.hid (hb); have HZ3 := Lib.hid (Nat.le_trans HZ2.out hb.size); have He3 := Lib.hid (HP2.out.below hb); obtain ⟨y30, y31, y32⟩ := HY.out w3 HC3.out; clear hb hx hB)
      | (go_at_call 82; refine (just_any (S := S₁) n _ [paramsP, exprP E] _ _ (parts2 (heap_alloc_new _ _) (fun e => absurd (HS1.out _ e) (by have := HZ3.out; first | (simp; omega) | omega)) (HR3.out.below (bel1 _ _)) (He3.out.below (bel1 _ _)))).mono ?_; rintro e w4 ⟨v4, rfl, hx, hB⟩; have hb := up (bel1 _ _) hB; obtain ⟨fa, fl, fc, ba, bl, bc, m, rfl⟩ := hx.vals; have HRL := Lib.hid hx; have HCL := Lib.hid (up HC3.out hb); have HBL := Lib.hid (up HB2.out HCL.out); obtain ⟨y40, y41, y42⟩ := HY.out w4 HCL.out; obtain ⟨⟨z0, z1, z2⟩, z3, z4, z5⟩ := cells3 ((HBL.out.block (w.heap.size + 1) (by simp)).trans (heap2 _ _ _)); clear hb hx hB)
      | fail)
  go_wp2_with fail
  refine bodyPost_ret (v := .agg #[.slice fa fl fc, .slice ba bl bc, .pointer m]) (by simp [results, Tryz.results99, go_sem, cell_set, z0, z1, z2]) rfl (row_close3 (k := 1) (B0 := w.heap.size + 1) (Nat.le_succ _) (Nat.le_refl _) (Nat.lt_succ_self _) (up (bel2 _ _ _) HBL.out) ?_ _ _ _)
  have hp := HRL.out
  rw [HE.out] at hp
  exact hp
end Go.Proofs.YtmlfiopbdlaaaaaGreat
