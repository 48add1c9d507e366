/- Several texts, one behind the other. -/
import Derived.Test.YtmlfiopbdlaaaaaGreatShC
import Derived.Test.YtmlfiopbdlaaaaaGreatShB1
namespace Go.Proofs.YtmlfiopbdlaaaaaGreat
open Go.RowKit Go.Deep
variable {S : Nat → Prop}
set_option maxHeartbeats 4000000 in
set_option maxRecDepth 100000 in
theorem row_call (n : Nat) (t : T) (hd : ByteArray) (w : World) (E : Fm → Bool) (hS : ∀ b, S b → b < w.heap.size) (hE : HAsk n E) (hh : ∀ W, Below w.heap.size w W → Calls Tryz.prog 50 #[t.val] W fun e w' => e = .returned (.string hd) ∧ Below W.heap.size W w') (hin : In w t) (hq : hd.toList = [99, 97, 108, 108]) : Calls Tryz.prog 58 #[t.val] w (fun e w' => RowEnd n S w w' (callR E t.form) e) := by
  have HH := Lib.hid hh
  have HEE := Lib.hid hE
  obtain ⟨S₁, hS₁⟩ : ∃ S₁, S₁ = andFrom S (w.heap.size + 1) 1 := ⟨_, rfl⟩
  have HS1 := Lib.hid (hS₁ ▸ andFrom_lt (k := 1) (fun x h => Nat.lt_succ_of_lt (hS x h)) : ∀ x, S₁ x → x < w.heap.size + 1 + 1)
  have HE := Lib.hid hS₁
  have HIN := Lib.hid fun (W : World) (h : Below w.heap.size w W) => hin.below h
  clear hh hE hS₁ hS hin
  have mixed : Tryz.prog.follows .mixedOrders = true := by kernel_rfl
  go_enter Tryz.func58, Tryz.ntmps58
  go_wp2_with (first
    | (go_at_call 85; refine (anExpr_any (S := S₁) n E HEE.out _).mono ?_; rintro e w1 ⟨vf1, vi1, ve1, rfl, hp1, hB⟩; obtain ⟨K1, c1, K1', c1', rfl, rfl, rfl⟩ := hp1.vals1 rfl; have HP1 := Lib.hid hp1; have HB1 := Lib.hid hB; obtain ⟨q0, q1, q2, q3⟩ := Box4.cells (w := w1) (b := w.heap.size) (t := t) ((hB.block w.heap.size (by simp; omega)).trans ((Below.heap_alloc _ _ _ (by simp)).trans (Box4.new w t))); have lq : w.heap.size < w1.heap.size := Nat.lt_of_lt_of_le (by simp; omega) hB.size; have HZ1 := Lib.hid (Nat.le_trans (by simp) hB.size : w.heap.size + 1 + 1 ≤ w1.heap.size); have hne1 : ¬ (w.heap.size + 1 = w1.heap.size) := (fun e => absurd HZ1.out (by omega)); clear hp1 hB)
    | (go_at_call 50; refine (HH.out _ (up (bel2 _ _ _) (up HB1.out (bel1 _ _)))).mono ?_; rintro e w2 ⟨rfl, hB2⟩; have HY := Lib.hid (fun (W : World) (h : Below w2.heap.size w2 W) => (cells3 ((h.block w1.heap.size (Nat.lt_of_lt_of_le (by simp) hB2.size)).trans ((hB2.block w1.heap.size (by simp)).trans (heap_alloc_new _ _)))).1); obtain ⟨y0, y1, y2⟩ := HY.out w2 (Below.refl _ _); have ly : w1.heap.size < w2.heap.size := Nat.lt_of_lt_of_le (by simp) hB2.size; have HB2 := Lib.hid (up HB1.out (up (bel1 _ _) hB2)); have HZ2 := Lib.hid (Nat.le_trans HZ1.out (Nat.le_of_lt ly)); have HP2 := Lib.hid (HP1.out.below (up (bel1 _ _) hB2)); have HQ := Lib.hid (fun (W : World) (h : Below w2.heap.size w2 W) => Box4.cells (w := W) (b := w.heap.size) (t := t) ((h.block w.heap.size (Nat.lt_trans lq ly)).trans ((hB2.block w.heap.size (by simp; omega)).trans ((Below.heap_alloc _ _ _ lq).trans ((HB1.out.block w.heap.size (by simp; omega)).trans ((Below.heap_alloc _ _ _ (by simp)).trans (Box4.new w t))))))); obtain ⟨p0, p1, p2, p3⟩ := HQ.out w2 (Below.refl _ _); clear hB2)
    | (go_at_call 98; refine (callRow_any (S := S₁) n t _ E (fun b e => by have := HS1.out b e; have := HZ2.out; omega) HEE.out (HIN.out _ (up (bel2 _ _ _) HB2.out))).mono ?_; rintro e w3 ⟨v3, rfl, hx, hB⟩; have hb := hB; obtain ⟨fa, fl, fc, ba, bl, bc, m, rfl⟩ := hx.vals; have HRL := Lib.hid hx; have HBL := Lib.hid (up HB2.out hb); obtain ⟨⟨z0, z1, z2⟩, z3, z4, z5⟩ := cells3 ((HBL.out.block (w.heap.size + 1) (by simp)).trans (heap2 _ _ _)); clear hb hx hB))
  refine bodyPost_ret (v := .agg #[.slice fa fl fc, .slice ba bl bc, .pointer m]) (by simp [results, Tryz.results58, go_sem, cell_set, z0, z1, z2]) rfl (row_close3 (k := 1) (B0 := w.heap.size + 1) (Nat.le_succ _) (Nat.le_refl _) (Nat.lt_succ_self _) (up (bel2 _ _ _) HBL.out) ?_ _ _ _)
  have hp := HRL.out
  rw [HE.out] at hp
  exact hp
set_option maxHeartbeats 4000000 in
set_option maxRecDepth 100000 in
theorem row_make (n : Nat) (t : T) (hd : ByteArray) (w : World) (E : Fm → Bool) (hS : ∀ b, S b → b < w.heap.size) (hE : HAsk n E) (hh : ∀ W, Below w.heap.size w W → Calls Tryz.prog 50 #[t.val] W fun e w' => e = .returned (.string hd) ∧ Below W.heap.size W w') (hin : In w t) (hq : hd.toList = [109, 97, 107, 101]) : Calls Tryz.prog 58 #[t.val] w (fun e w' => RowEnd n S w w' (callR E t.form) e) := by
  have HH := Lib.hid hh
  have HEE := Lib.hid hE
  obtain ⟨S₁, hS₁⟩ : ∃ S₁, S₁ = andFrom S (w.heap.size + 1) 1 := ⟨_, rfl⟩
  have HS1 := Lib.hid (hS₁ ▸ andFrom_lt (k := 1) (fun x h => Nat.lt_succ_of_lt (hS x h)) : ∀ x, S₁ x → x < w.heap.size + 1 + 1)
  have HE := Lib.hid hS₁
  have HIN := Lib.hid fun (W : World) (h : Below w.heap.size w W) => hin.below h
  clear hh hE hS₁ hS hin
  have mixed : Tryz.prog.follows .mixedOrders = true := by kernel_rfl
  go_enter Tryz.func58, Tryz.ntmps58
  go_wp2_with (first
    | (go_at_call 85; refine (anExpr_any (S := S₁) n E HEE.out _).mono ?_; rintro e w1 ⟨vf1, vi1, ve1, rfl, hp1, hB⟩; obtain ⟨K1, c1, K1', c1', rfl, rfl, rfl⟩ := hp1.vals1 rfl; have HP1 := Lib.hid hp1; have HB1 := Lib.hid hB; obtain ⟨q0, q1, q2, q3⟩ := Box4.cells (w := w1) (b := w.heap.size) (t := t) ((hB.block w.heap.size (by simp; omega)).trans ((Below.heap_alloc _ _ _ (by simp)).trans (Box4.new w t))); have lq : w.heap.size < w1.heap.size := Nat.lt_of_lt_of_le (by simp; omega) hB.size; have HZ1 := Lib.hid (Nat.le_trans (by simp) hB.size : w.heap.size + 1 + 1 ≤ w1.heap.size); have hne1 : ¬ (w.heap.size + 1 = w1.heap.size) := (fun e => absurd HZ1.out (by omega)); clear hp1 hB)
    | (go_at_call 50; refine (HH.out _ (up (bel2 _ _ _) (up HB1.out (bel1 _ _)))).mono ?_; rintro e w2 ⟨rfl, hB2⟩; have HY := Lib.hid (fun (W : World) (h : Below w2.heap.size w2 W) => (cells3 ((h.block w1.heap.size (Nat.lt_of_lt_of_le (by simp) hB2.size)).trans ((hB2.block w1.heap.size (by simp)).trans (heap_alloc_new _ _)))).1); obtain ⟨y0, y1, y2⟩ := HY.out w2 (Below.refl _ _); have ly : w1.heap.size < w2.heap.size := Nat.lt_of_lt_of_le (by simp) hB2.size; have HB2 := Lib.hid (up HB1.out (up (bel1 _ _) hB2)); have HZ2 := Lib.hid (Nat.le_trans HZ1.out (Nat.le_of_lt ly)); have HP2 := Lib.hid (HP1.out.below (up (bel1 _ _) hB2)); have HQ := Lib.hid (fun (W : World) (h : Below w2.heap.size w2 W) => Box4.cells (w := W) (b := w.heap.size) (t := t) ((h.block w.heap.size (Nat.lt_trans lq ly)).trans ((hB2.block w.heap.size (by simp; omega)).trans ((Below.heap_alloc _ _ _ lq).trans ((HB1.out.block w.heap.size (by simp; omega)).trans ((Below.heap_alloc _ _ _ (by simp)).trans (Box4.new w t))))))); obtain ⟨p0, p1, p2, p3⟩ := HQ.out w2 (Below.refl _ _); clear hB2)
    | (go_at_call 98; refine (callRow_any (S := S₁) n t _ E (fun b e => by have := HS1.out b e; have := HZ2.out; omega) HEE.out (HIN.out _ (up (bel2 _ _ _) HB2.out))).mono ?_; rintro e w3 ⟨v3, rfl, hx, hB⟩; have hb := hB; obtain ⟨fa, fl, fc, ba, bl, bc, m, rfl⟩ := hx.vals; have HRL := Lib.hid hx; have HBL := Lib.hid (up HB2.out hb); obtain ⟨⟨z0, z1, z2⟩, z3, z4, z5⟩ := cells3 ((HBL.out.block (w.heap.size + 1) (by simp)).trans (heap2 _ _ _)); clear hb hx hB))
  refine bodyPost_ret (v := .agg #[.slice fa fl fc, .slice ba bl bc, .pointer m]) (by simp [results, Tryz.results58, go_sem, cell_set, z0, z1, z2]) rfl (row_close3 (k := 1) (B0 := w.heap.size + 1) (Nat.le_succ _) (Nat.le_refl _) (Nat.lt_succ_self _) (up (bel2 _ _ _) HBL.out) ?_ _ _ _)
  have hp := HRL.out
  rw [HE.out] at hp
  exact hp
set_option maxHeartbeats 4000000 in
set_option maxRecDepth 100000 in
theorem row_old2 (n : Nat) (t : T) (hd : ByteArray) (w : World) (E : Fm → Bool) (hS : ∀ b, S b → b < w.heap.size) (hE : HAsk n E) (hh : ∀ W, Below w.heap.size w W → Calls Tryz.prog 50 #[t.val] W fun e w' => e = .returned (.string hd) ∧ Below W.heap.size W w') (hin : In w t) (hlen : 2 < t.ks.length) (hq : hd.toList = [111, 108, 100]) : Calls Tryz.prog 58 #[t.val] w (fun e w' => RowEnd n S w w' ⟨[nameP, exprP E], none, []⟩ e) := by
  have HH := Lib.hid hh
  have HEE := Lib.hid hE
  obtain ⟨S₁, hS₁⟩ : ∃ S₁, S₁ = andFrom S (w.heap.size + 1) 1 := ⟨_, rfl⟩
  have HS1 := Lib.hid (hS₁ ▸ andFrom_lt (k := 1) (fun x h => Nat.lt_succ_of_lt (hS x h)) : ∀ x, S₁ x → x < w.heap.size + 1 + 1)
  have HE := Lib.hid hS₁
  have HIN := Lib.hid fun (W : World) (h : Below w.heap.size w W) => hin.below h
  have g1 : (2 : Int) < (t.ks.length : Int) := by omega
  clear hh hE hS₁ hS hin
  have mixed : Tryz.prog.follows .mixedOrders = true := by kernel_rfl
  go_enter Tryz.func58, Tryz.ntmps58
  go_wp2_with (first
    | (go_at_call 85; refine (anExpr_any (S := S₁) n E HEE.out _).mono ?_; rintro e w1 ⟨vf1, vi1, ve1, rfl, hp1, hB⟩; obtain ⟨K1, c1, K1', c1', rfl, rfl, rfl⟩ := hp1.vals1 rfl; have HP1 := Lib.hid hp1; have HB1 := Lib.hid hB; obtain ⟨q0, q1, q2, q3⟩ := Box4.cells (w := w1) (b := w.heap.size) (t := t) ((hB.block w.heap.size (by simp; omega)).trans ((Below.heap_alloc _ _ _ (by simp)).trans (Box4.new w t))); have lq : w.heap.size < w1.heap.size := Nat.lt_of_lt_of_le (by simp; omega) hB.size; have HZ1 := Lib.hid (Nat.le_trans (by simp) hB.size : w.heap.size + 1 + 1 ≤ w1.heap.size); have hne1 : ¬ (w.heap.size + 1 = w1.heap.size) := (fun e => absurd HZ1.out (by omega)); clear hp1 hB)
    | (go_at_call 50; refine (HH.out _ (up (bel2 _ _ _) (up HB1.out (bel1 _ _)))).mono ?_; rintro e w2 ⟨rfl, hB2⟩; have HY := Lib.hid (fun (W : World) (h : Below w2.heap.size w2 W) => (cells3 ((h.block w1.heap.size (Nat.lt_of_lt_of_le (by simp) hB2.size)).trans ((hB2.block w1.heap.size (by simp)).trans (heap_alloc_new _ _)))).1); obtain ⟨y0, y1, y2⟩ := HY.out w2 (Below.refl _ _); have ly : w1.heap.size < w2.heap.size := Nat.lt_of_lt_of_le (by simp) hB2.size; have HB2 := Lib.hid (up HB1.out (up (bel1 _ _) hB2)); have HZ2 := Lib.hid (Nat.le_trans HZ1.out (Nat.le_of_lt ly)); have HP2 := Lib.hid (HP1.out.below (up (bel1 _ _) hB2)); have HQ := Lib.hid (fun (W : World) (h : Below w2.heap.size w2 W) => Box4.cells (w := W) (b := w.heap.size) (t := t) ((h.block w.heap.size (Nat.lt_trans lq ly)).trans ((hB2.block w.heap.size (by simp; omega)).trans ((Below.heap_alloc _ _ _ lq).trans ((HB1.out.block w.heap.size (by simp; omega)).trans ((Below.heap_alloc _ _ _ (by simp)).trans (Box4.new w t))))))); obtain ⟨p0, p1, p2, p3⟩ := HQ.out w2 (Below.refl _ _); clear hB2))
  go_region_held3 (fun W => W.cell? ⟨w1.heap.size, 0, none⟩ = some (.func (.func K1) #[] c1) ∧ W.cell? ⟨w1.heap.size, 1, none⟩ = some (.func (.func K1') #[] c1') ∧ W.cell? ⟨w1.heap.size, 2, none⟩ = some (.bool (exprP E).isE)) (go_keep)
    (first
      | (go_at_call 83; refine (aName_any (S := S₁) n _).mono ?_; rintro e w3 ⟨vf3, vi3, ve3, rfl, hx, hB⟩; obtain ⟨K3, c3, rfl, rfl, rfl⟩ := hx.vals0 rfl; have HR3 := Lib.hid hx; have hb := up (Below.refl _ _).drew hB; have HC3 := Lib.hid (hb); have HZ3 := Lib.hid (Nat.le_trans HZ2.out hb.size); have He3 := Lib.hid (HP2.out.below hb); obtain ⟨y30, y31, y32⟩ := HY.out w3 HC3.out; clear hb hx hB)
      | (go_at_call 82; refine (just_any (S := S₁) n _ [nameP, exprP E] _ _ (parts2 (heap_alloc_new _ _) (fun e => absurd (HS1.out _ e) (by have := HZ3.out; first | (simp; omega) | omega)) (HR3.out.below (bel1 _ _)) (He3.out.below (bel1 _ _)))).mono ?_; rintro e w4 ⟨v4, rfl, hx, hB⟩; have hb := up (bel1 _ _) hB; obtain ⟨fa, fl, fc, ba, bl, bc, m, rfl⟩ := hx.vals; have HRL := Lib.hid hx; have HCL := Lib.hid (up HC3.out hb); have HBL := Lib.hid (up HB2.out HCL.out); obtain ⟨y40, y41, y42⟩ := HY.out w4 HCL.out; obtain ⟨⟨z0, z1, z2⟩, z3, z4, z5⟩ := cells3 ((HBL.out.block (w.heap.size + 1) (by simp)).trans (heap2 _ _ _)); clear hb hx hB)
      | fail)
  go_wp2_with fail
  refine bodyPost_ret (v := .agg #[.slice fa fl fc, .slice ba bl bc, .pointer m]) (by simp [results, Tryz.results58, go_sem, cell_set, z0, z1, z2]) rfl (row_close3 (k := 1) (B0 := w.heap.size + 1) (Nat.le_succ _) (Nat.le_refl _) (Nat.lt_succ_self _) (up (bel2 _ _ _) HBL.out) ?_ _ _ _)
  have hp := HRL.out
  rw [HE.out] at hp
  exact hp
set_option maxHeartbeats 4000000 in
set_option maxRecDepth 100000 in
theorem row_old1 (n : Nat) (t : T) (hd : ByteArray) (w : World) (E : Fm → Bool) (hS : ∀ b, S b → b < w.heap.size) (hE : HAsk n E) (hh : ∀ W, Below w.heap.size w W → Calls Tryz.prog 50 #[t.val] W fun e w' => e = .returned (.string hd) ∧ Below W.heap.size W w') (hin : In w t) (hlen : ¬ 2 < t.ks.length) (hq : hd.toList = [111, 108, 100]) : Calls Tryz.prog 58 #[t.val] w (fun e w' => RowEnd n S w w' ⟨[exprP E], none, []⟩ e) := by
  have HH := Lib.hid hh
  have HEE := Lib.hid hE
  obtain ⟨S₁, hS₁⟩ : ∃ S₁, S₁ = andFrom S (w.heap.size + 1) 1 := ⟨_, rfl⟩
  have HS1 := Lib.hid (hS₁ ▸ andFrom_lt (k := 1) (fun x h => Nat.lt_succ_of_lt (hS x h)) : ∀ x, S₁ x → x < w.heap.size + 1 + 1)
  have HE := Lib.hid hS₁
  have HIN := Lib.hid fun (W : World) (h : Below w.heap.size w W) => hin.below h
  have g1 : decide ((2 : Int) < (t.ks.length : Int)) = false := by simp; omega
  have g2 : decide (2 < t.ks.length) = false := by simpa using hlen
  clear hh hE hS₁ hS hin
  have mixed : Tryz.prog.follows .mixedOrders = true := by kernel_rfl
  go_enter Tryz.func58, Tryz.ntmps58
  go_wp2_with (first
    | (go_at_call 85; refine (anExpr_any (S := S₁) n E HEE.out _).mono ?_; rintro e w1 ⟨vf1, vi1, ve1, rfl, hp1, hB⟩; obtain ⟨K1, c1, K1', c1', rfl, rfl, rfl⟩ := hp1.vals1 rfl; have HP1 := Lib.hid hp1; have HB1 := Lib.hid hB; obtain ⟨q0, q1, q2, q3⟩ := Box4.cells (w := w1) (b := w.heap.size) (t := t) ((hB.block w.heap.size (by simp; omega)).trans ((Below.heap_alloc _ _ _ (by simp)).trans (Box4.new w t))); have lq : w.heap.size < w1.heap.size := Nat.lt_of_lt_of_le (by simp; omega) hB.size; have HZ1 := Lib.hid (Nat.le_trans (by simp) hB.size : w.heap.size + 1 + 1 ≤ w1.heap.size); have hne1 : ¬ (w.heap.size + 1 = w1.heap.size) := (fun e => absurd HZ1.out (by omega)); clear hp1 hB)
    | (go_at_call 50; refine (HH.out _ (up (bel2 _ _ _) (up HB1.out (bel1 _ _)))).mono ?_; rintro e w2 ⟨rfl, hB2⟩; have HY := Lib.hid (fun (W : World) (h : Below w2.heap.size w2 W) => (cells3 ((h.block w1.heap.size (Nat.lt_of_lt_of_le (by simp) hB2.size)).trans ((hB2.block w1.heap.size (by simp)).trans (heap_alloc_new _ _)))).1); obtain ⟨y0, y1, y2⟩ := HY.out w2 (Below.refl _ _); have ly : w1.heap.size < w2.heap.size := Nat.lt_of_lt_of_le (by simp) hB2.size; have HB2 := Lib.hid (up HB1.out (up (bel1 _ _) hB2)); have HZ2 := Lib.hid (Nat.le_trans HZ1.out (Nat.le_of_lt ly)); have HP2 := Lib.hid (HP1.out.below (up (bel1 _ _) hB2)); have HQ := Lib.hid (fun (W : World) (h : Below w2.heap.size w2 W) => Box4.cells (w := W) (b := w.heap.size) (t := t) ((h.block w.heap.size (Nat.lt_trans lq ly)).trans ((hB2.block w.heap.size (by simp; omega)).trans ((Below.heap_alloc _ _ _ lq).trans ((HB1.out.block w.heap.size (by simp; omega)).trans ((Below.heap_alloc _ _ _ (by simp)).trans (Box4.new w t))))))); obtain ⟨p0, p1, p2, p3⟩ := HQ.out w2 (Below.refl _ _); clear hB2)
    | (go_at_call 82; refine (just_any (S := S₁) n _ [exprP E] _ _ (parts1 (heap_alloc_new _ _) (fun e => absurd (HS1.out _ e) (by have := HZ2.out; omega)) (HP2.out.below (bel1 _ _)))).mono ?_; rintro e w3 ⟨v3, rfl, hrl, hB⟩; have hBL := up (bel1 _ _) hB; obtain ⟨fa, fl, fc, ba, bl, bc, m, rfl⟩ := hrl.vals; have HRL := Lib.hid hrl; have HBL := Lib.hid (up HB2.out hBL); obtain ⟨⟨z0, z1, z2⟩, z3, z4, z5⟩ := cells3 ((HBL.out.block (w.heap.size + 1) (by simp)).trans (heap2 _ _ _)); clear hrl; clear hB hBL))
  refine bodyPost_ret (v := .agg #[.slice fa fl fc, .slice ba bl bc, .pointer m]) (by simp [results, Tryz.results58, go_sem, cell_set, z0, z1, z2]) rfl (row_close3 (k := 1) (B0 := w.heap.size + 1) (Nat.le_succ _) (Nat.le_refl _) (Nat.lt_succ_self _) (up (bel2 _ _ _) HBL.out) ?_ _ _ _)
  have hp := HRL.out
  rw [HE.out] at hp
  exact hp
end Go.Proofs.YtmlfiopbdlaaaaaGreat

namespace Go.Proofs.YtmlfiopbdlaaaaaGreat
open Go.RowKit Go.Deep
variable {S : Nat → Prop}
set_option maxHeartbeats 4000000 in
set_option maxRecDepth 100000 in
theorem bind_none (n : Nat) (t : T) (hd : ByteArray) (w : World) (E : Fm → Bool) (hS : ∀ b, S b → b < w.heap.size) (hE : HAsk n E) (hh : ∀ W, Below w.heap.size w W → Calls Tryz.prog 50 #[t.val] W fun e w' => e = .returned (.string hd) ∧ Below W.heap.size W w') (g0 : (hd.toList == [108, 101, 116]) = false) (g1 : (hd.toList == [101, 118, 101, 114, 121]) = false) (g2 : (hd.toList == [97, 110, 121]) = false) (g3 : (hd.toList == [97, 108, 108]) = false) (g4 : (hd.toList == [115, 111, 109, 101]) = false) (g5 : (hd.toList == [112, 105, 99, 107]) = false) (g6 : (hd.toList == [109, 97, 116, 99, 104]) = false) (g7 : (hd.toList == [102, 110]) = false) (g8 : (hd.toList == [102, 111, 114, 97, 108, 108]) = false) (g9 : (hd.toList == [101, 120, 105, 115, 116, 115]) = false) : Calls Tryz.prog 99 #[t.val] w (fun e w' => AnsB false e ∧ Below w.heap.size w w') := by
  have HH := Lib.hid hh
  have HEE := Lib.hid hE
  obtain ⟨S₁, hS₁⟩ : ∃ S₁, S₁ = andFrom S (w.heap.size + 1) 1 := ⟨_, rfl⟩
  have HS1 := Lib.hid (hS₁ ▸ andFrom_lt (k := 1) (fun x h => Nat.lt_succ_of_lt (hS x h)) : ∀ x, S₁ x → x < w.heap.size + 1 + 1)
  have HE := Lib.hid hS₁
  clear hh hE hS₁ hS
  have mixed : Tryz.prog.follows .mixedOrders = true := by kernel_rfl
  go_enter Tryz.func99, Tryz.ntmps99
  go_wp2_with (first
    | (go_at_call 85; refine (anExpr_any (S := S₁) n E HEE.out _).mono ?_; rintro e w1 ⟨vf1, vi1, ve1, rfl, hp1, hB⟩; obtain ⟨K1, c1, K1', c1', rfl, rfl, rfl⟩ := hp1.vals1 rfl; have HP1 := Lib.hid hp1; have HB1 := Lib.hid hB; obtain ⟨q0, q1, q2, q3⟩ := Box4.cells (w := w1) (b := w.heap.size) (t := t) ((hB.block w.heap.size (by simp; omega)).trans ((Below.heap_alloc _ _ _ (by simp)).trans (Box4.new w t))); have lq : w.heap.size < w1.heap.size := Nat.lt_of_lt_of_le (by simp; omega) hB.size; have HZ1 := Lib.hid (Nat.le_trans (by simp) hB.size : w.heap.size + 1 + 1 ≤ w1.heap.size); have hne1 : ¬ (w.heap.size + 1 = w1.heap.size) := (fun e => absurd HZ1.out (by omega)); clear hp1 hB)
    | (go_at_call 50; refine (HH.out _ (up (bel2 _ _ _) (up HB1.out (bel1 _ _)))).mono ?_; rintro e w2 ⟨rfl, hB2⟩; have HY := Lib.hid (fun (W : World) (h : Below w2.heap.size w2 W) => (cells3 ((h.block w1.heap.size (Nat.lt_of_lt_of_le (by simp) hB2.size)).trans ((hB2.block w1.heap.size (by simp)).trans (heap_alloc_new _ _)))).1); obtain ⟨y0, y1, y2⟩ := HY.out w2 (Below.refl _ _); have ly : w1.heap.size < w2.heap.size := Nat.lt_of_lt_of_le (by simp) hB2.size; have HB2 := Lib.hid (up HB1.out (up (bel1 _ _) hB2)); have HZ2 := Lib.hid (Nat.le_trans HZ1.out (Nat.le_of_lt ly)); have HP2 := Lib.hid (HP1.out.below (up (bel1 _ _) hB2)); have HQ := Lib.hid (fun (W : World) (h : Below w2.heap.size w2 W) => Box4.cells (w := W) (b := w.heap.size) (t := t) ((h.block w.heap.size (Nat.lt_trans lq ly)).trans ((hB2.block w.heap.size (by simp; omega)).trans ((Below.heap_alloc _ _ _ lq).trans ((HB1.out.block w.heap.size (by simp; omega)).trans ((Below.heap_alloc _ _ _ (by simp)).trans (Box4.new w t))))))); obtain ⟨p0, p1, p2, p3⟩ := HQ.out w2 (Below.refl _ _); clear hB2))
  exact ⟨rfl, AnsB.ofNo (by decide), up (bel2 _ _ _) HB2.out⟩
def RowOr (n : Nat) (S : Nat → Prop) (w w' : World) (r : Option RS) (e : Ending) : Prop := match r with
  | some R => RowEnd n S w w' R e
  | none => AnsB false e ∧ Below w.heap.size w w'
set_option maxHeartbeats 4000000 in
set_option maxRecDepth 100000 in
theorem row_bind1 (n : Nat) (t : T) (hd : ByteArray) (w : World) (E : Fm → Bool) (hS : ∀ b, S b → b < w.heap.size) (hE : HAsk n E) (hh : ∀ W, Below w.heap.size w W → Calls Tryz.prog 50 #[t.val] W fun e w' => e = .returned (.string hd) ∧ Below W.heap.size W w') (R : RS) (hb : ∀ S W, Below w.heap.size w W → (∀ b, S b → b < W.heap.size) → Calls Tryz.prog 99 #[t.val] W (fun e w' => RowOr n S W w' (some R) e)) (g0 : (hd.toList == [110, 101, 103]) = false) (g1 : (hd.toList == [110, 111, 116]) = false) (g2 : (hd.toList == [98, 110, 117, 109]) = false) (g3 : (hd.toList == [108, 101, 110]) = false) (g4 : (hd.toList == [99, 97, 114, 100]) = false) (g5 : (hd.toList == [107, 101, 121, 115]) = false) (g6 : (hd.toList == [102, 114, 101, 115, 104]) = false) (g7 : (hd.toList == [43]) = false) (g8 : (hd.toList == [45]) = false) (g9 : (hd.toList == [42]) = false) (g10 : (hd.toList == [100, 105, 118]) = false) (g11 : (hd.toList == [109, 111, 100]) = false) (g12 : (hd.toList == [60]) = false) (g13 : (hd.toList == [60, 61]) = false) (g14 : (hd.toList == [61]) = false) (g15 : (hd.toList == [61, 62]) = false) (g16 : (hd.toList == [105, 102, 102]) = false) (g17 : (hd.toList == [98, 97, 110, 100]) = false) (g18 : (hd.toList == [98, 111, 114]) = false) (g19 : (hd.toList == [98, 120, 111, 114]) = false) (g20 : (hd.toList == [98, 97, 100, 100]) = false) (g21 : (hd.toList == [97, 116]) = false) (g22 : (hd.toList == [99, 97, 116]) = false) (g23 : (hd.toList == [105, 110]) = false) (g24 : (hd.toList == [106, 111, 105, 110]) = false) (g25 : (hd.toList == [109, 101, 101, 116]) = false) (g26 : (hd.toList == [108, 101, 115, 115]) = false) (g27 : (hd.toList == [99, 111, 117, 110, 116]) = false) (g28 : (hd.toList == [108, 111, 111, 107]) = false) (g29 : (hd.toList == [105, 102]) = false) (g30 : (hd.toList == [99, 117, 116]) = false) (g31 : (hd.toList == [112, 117, 116]) = false) (g32 : (hd.toList == [97, 110, 100]) = false) (g33 : (hd.toList == [111, 114]) = false) (g34 : (hd.toList == [115, 101, 113]) = false) (g35 : (hd.toList == [115, 101, 116]) = false) (g36 : (hd.toList == [98, 97, 103]) = false) (g37 : (hd.toList == [109, 97, 112]) = false) (g38 : (hd.toList == [98, 105, 116, 115]) = false) (g39 : (hd.toList == [101, 109, 112, 116, 121]) = false) (g40 : (hd.toList == [105, 109, 97, 112]) = false) (g41 : (hd.toList == [97, 112, 112]) = false) (g42 : (hd.toList == [105, 115]) = false) (g43 : (hd.toList == [103, 101, 116]) = false) (g44 : (hd.toList == [99, 97, 108, 108]) = false) (g45 : (hd.toList == [109, 97, 107, 101]) = false) (g46 : (hd.toList == [112, 114, 101, 102, 105, 120]) = false) (g47 : (hd.toList == [102, 117, 101, 108]) = false) (g48 : (hd.toList == [111, 108, 100]) = false) : Calls Tryz.prog 58 #[t.val] w (fun e w' => RowOr n S w w' (some R) e) := by
  have HH := Lib.hid hh
  have HEE := Lib.hid hE
  obtain ⟨S₁, hS₁⟩ : ∃ S₁, S₁ = andFrom S (w.heap.size + 1) 1 := ⟨_, rfl⟩
  have HS1 := Lib.hid (hS₁ ▸ andFrom_lt (k := 1) (fun x h => Nat.lt_succ_of_lt (hS x h)) : ∀ x, S₁ x → x < w.heap.size + 1 + 1)
  have HE := Lib.hid hS₁
  have HBR := Lib.hid (hb S₁)
  clear hh hE hS₁ hS hb
  have mixed : Tryz.prog.follows .mixedOrders = true := by kernel_rfl
  go_enter Tryz.func58, Tryz.ntmps58
  go_wp2_with (first
    | (go_at_call 85; refine (anExpr_any (S := S₁) n E HEE.out _).mono ?_; rintro e w1 ⟨vf1, vi1, ve1, rfl, hp1, hB⟩; obtain ⟨K1, c1, K1', c1', rfl, rfl, rfl⟩ := hp1.vals1 rfl; have HP1 := Lib.hid hp1; have HB1 := Lib.hid hB; obtain ⟨q0, q1, q2, q3⟩ := Box4.cells (w := w1) (b := w.heap.size) (t := t) ((hB.block w.heap.size (by simp; omega)).trans ((Below.heap_alloc _ _ _ (by simp)).trans (Box4.new w t))); have lq : w.heap.size < w1.heap.size := Nat.lt_of_lt_of_le (by simp; omega) hB.size; have HZ1 := Lib.hid (Nat.le_trans (by simp) hB.size : w.heap.size + 1 + 1 ≤ w1.heap.size); have hne1 : ¬ (w.heap.size + 1 = w1.heap.size) := (fun e => absurd HZ1.out (by omega)); clear hp1 hB)
    | (go_at_call 50; refine (HH.out _ (up (bel2 _ _ _) (up HB1.out (bel1 _ _)))).mono ?_; rintro e w2 ⟨rfl, hB2⟩; have HY := Lib.hid (fun (W : World) (h : Below w2.heap.size w2 W) => (cells3 ((h.block w1.heap.size (Nat.lt_of_lt_of_le (by simp) hB2.size)).trans ((hB2.block w1.heap.size (by simp)).trans (heap_alloc_new _ _)))).1); obtain ⟨y0, y1, y2⟩ := HY.out w2 (Below.refl _ _); have ly : w1.heap.size < w2.heap.size := Nat.lt_of_lt_of_le (by simp) hB2.size; have HB2 := Lib.hid (up HB1.out (up (bel1 _ _) hB2)); have HZ2 := Lib.hid (Nat.le_trans HZ1.out (Nat.le_of_lt ly)); have HP2 := Lib.hid (HP1.out.below (up (bel1 _ _) hB2)); have HQ := Lib.hid (fun (W : World) (h : Below w2.heap.size w2 W) => Box4.cells (w := W) (b := w.heap.size) (t := t) ((h.block w.heap.size (Nat.lt_trans lq ly)).trans ((hB2.block w.heap.size (by simp; omega)).trans ((Below.heap_alloc _ _ _ lq).trans ((HB1.out.block w.heap.size (by simp; omega)).trans ((Below.heap_alloc _ _ _ (by simp)).trans (Box4.new w t))))))); obtain ⟨p0, p1, p2, p3⟩ := HQ.out w2 (Below.refl _ _); clear hB2)
    | (go_at_call 99; refine (HBR.out _ (up (bel2 _ _ _) HB2.out) (fun b e => by have := HS1.out b e; have := HZ2.out; omega)).mono ?_; rintro e w3 ⟨v3, rfl, hx, hB⟩; obtain ⟨fa, fl, fc, ba, bl, bc, m, rfl⟩ := hx.vals; have HRL := Lib.hid hx; have HBL := Lib.hid (up HB2.out hB); obtain ⟨⟨z0, z1, z2⟩, z3, z4, z5⟩ := cells3 ((HBL.out.block (w.heap.size + 1) (by simp)).trans (heap2 _ _ _)); clear hx hB))
  refine bodyPost_ret (v := .agg #[.slice fa fl fc, .slice ba bl bc, .pointer m]) (by simp [results, Tryz.results58, go_sem, cell_set, z0, z1, z2]) rfl (row_close3 (k := 1) (B0 := w.heap.size + 1) (Nat.le_succ _) (Nat.le_refl _) (Nat.lt_succ_self _) (up (bel2 _ _ _) HBL.out) ?_ _ _ _)
  have hp := HRL.out
  rw [HE.out] at hp
  exact hp
set_option maxHeartbeats 4000000 in
set_option maxRecDepth 100000 in
theorem row_bind0 (n : Nat) (t : T) (hd : ByteArray) (w : World) (E : Fm → Bool) (hS : ∀ b, S b → b < w.heap.size) (hE : HAsk n E) (hh : ∀ W, Below w.heap.size w W → Calls Tryz.prog 50 #[t.val] W fun e w' => e = .returned (.string hd) ∧ Below W.heap.size W w') (hb : ∀ S W, Below w.heap.size w W → (∀ b, S b → b < W.heap.size) → Calls Tryz.prog 99 #[t.val] W (fun e w' => RowOr n S W w' (none) e)) (g0 : (hd.toList == [110, 101, 103]) = false) (g1 : (hd.toList == [110, 111, 116]) = false) (g2 : (hd.toList == [98, 110, 117, 109]) = false) (g3 : (hd.toList == [108, 101, 110]) = false) (g4 : (hd.toList == [99, 97, 114, 100]) = false) (g5 : (hd.toList == [107, 101, 121, 115]) = false) (g6 : (hd.toList == [102, 114, 101, 115, 104]) = false) (g7 : (hd.toList == [43]) = false) (g8 : (hd.toList == [45]) = false) (g9 : (hd.toList == [42]) = false) (g10 : (hd.toList == [100, 105, 118]) = false) (g11 : (hd.toList == [109, 111, 100]) = false) (g12 : (hd.toList == [60]) = false) (g13 : (hd.toList == [60, 61]) = false) (g14 : (hd.toList == [61]) = false) (g15 : (hd.toList == [61, 62]) = false) (g16 : (hd.toList == [105, 102, 102]) = false) (g17 : (hd.toList == [98, 97, 110, 100]) = false) (g18 : (hd.toList == [98, 111, 114]) = false) (g19 : (hd.toList == [98, 120, 111, 114]) = false) (g20 : (hd.toList == [98, 97, 100, 100]) = false) (g21 : (hd.toList == [97, 116]) = false) (g22 : (hd.toList == [99, 97, 116]) = false) (g23 : (hd.toList == [105, 110]) = false) (g24 : (hd.toList == [106, 111, 105, 110]) = false) (g25 : (hd.toList == [109, 101, 101, 116]) = false) (g26 : (hd.toList == [108, 101, 115, 115]) = false) (g27 : (hd.toList == [99, 111, 117, 110, 116]) = false) (g28 : (hd.toList == [108, 111, 111, 107]) = false) (g29 : (hd.toList == [105, 102]) = false) (g30 : (hd.toList == [99, 117, 116]) = false) (g31 : (hd.toList == [112, 117, 116]) = false) (g32 : (hd.toList == [97, 110, 100]) = false) (g33 : (hd.toList == [111, 114]) = false) (g34 : (hd.toList == [115, 101, 113]) = false) (g35 : (hd.toList == [115, 101, 116]) = false) (g36 : (hd.toList == [98, 97, 103]) = false) (g37 : (hd.toList == [109, 97, 112]) = false) (g38 : (hd.toList == [98, 105, 116, 115]) = false) (g39 : (hd.toList == [101, 109, 112, 116, 121]) = false) (g40 : (hd.toList == [105, 109, 97, 112]) = false) (g41 : (hd.toList == [97, 112, 112]) = false) (g42 : (hd.toList == [105, 115]) = false) (g43 : (hd.toList == [103, 101, 116]) = false) (g44 : (hd.toList == [99, 97, 108, 108]) = false) (g45 : (hd.toList == [109, 97, 107, 101]) = false) (g46 : (hd.toList == [112, 114, 101, 102, 105, 120]) = false) (g47 : (hd.toList == [102, 117, 101, 108]) = false) (g48 : (hd.toList == [111, 108, 100]) = false) : Calls Tryz.prog 58 #[t.val] w (fun e w' => RowOr n S w w' (none) e) := by
  have HH := Lib.hid hh
  have HEE := Lib.hid hE
  obtain ⟨S₁, hS₁⟩ : ∃ S₁, S₁ = andFrom S (w.heap.size + 1) 1 := ⟨_, rfl⟩
  have HS1 := Lib.hid (hS₁ ▸ andFrom_lt (k := 1) (fun x h => Nat.lt_succ_of_lt (hS x h)) : ∀ x, S₁ x → x < w.heap.size + 1 + 1)
  have HE := Lib.hid hS₁
  have HBR := Lib.hid (hb S₁)
  clear hh hE hS₁ hS hb
  have mixed : Tryz.prog.follows .mixedOrders = true := by kernel_rfl
  go_enter Tryz.func58, Tryz.ntmps58
  go_wp2_with (first
    | (go_at_call 85; refine (anExpr_any (S := S₁) n E HEE.out _).mono ?_; rintro e w1 ⟨vf1, vi1, ve1, rfl, hp1, hB⟩; obtain ⟨K1, c1, K1', c1', rfl, rfl, rfl⟩ := hp1.vals1 rfl; have HP1 := Lib.hid hp1; have HB1 := Lib.hid hB; obtain ⟨q0, q1, q2, q3⟩ := Box4.cells (w := w1) (b := w.heap.size) (t := t) ((hB.block w.heap.size (by simp; omega)).trans ((Below.heap_alloc _ _ _ (by simp)).trans (Box4.new w t))); have lq : w.heap.size < w1.heap.size := Nat.lt_of_lt_of_le (by simp; omega) hB.size; have HZ1 := Lib.hid (Nat.le_trans (by simp) hB.size : w.heap.size + 1 + 1 ≤ w1.heap.size); have hne1 : ¬ (w.heap.size + 1 = w1.heap.size) := (fun e => absurd HZ1.out (by omega)); clear hp1 hB)
    | (go_at_call 50; refine (HH.out _ (up (bel2 _ _ _) (up HB1.out (bel1 _ _)))).mono ?_; rintro e w2 ⟨rfl, hB2⟩; have HY := Lib.hid (fun (W : World) (h : Below w2.heap.size w2 W) => (cells3 ((h.block w1.heap.size (Nat.lt_of_lt_of_le (by simp) hB2.size)).trans ((hB2.block w1.heap.size (by simp)).trans (heap_alloc_new _ _)))).1); obtain ⟨y0, y1, y2⟩ := HY.out w2 (Below.refl _ _); have ly : w1.heap.size < w2.heap.size := Nat.lt_of_lt_of_le (by simp) hB2.size; have HB2 := Lib.hid (up HB1.out (up (bel1 _ _) hB2)); have HZ2 := Lib.hid (Nat.le_trans HZ1.out (Nat.le_of_lt ly)); have HP2 := Lib.hid (HP1.out.below (up (bel1 _ _) hB2)); have HQ := Lib.hid (fun (W : World) (h : Below w2.heap.size w2 W) => Box4.cells (w := W) (b := w.heap.size) (t := t) ((h.block w.heap.size (Nat.lt_trans lq ly)).trans ((hB2.block w.heap.size (by simp; omega)).trans ((Below.heap_alloc _ _ _ lq).trans ((HB1.out.block w.heap.size (by simp; omega)).trans ((Below.heap_alloc _ _ _ (by simp)).trans (Box4.new w t))))))); obtain ⟨p0, p1, p2, p3⟩ := HQ.out w2 (Below.refl _ _); clear hB2)
    | (go_at_call 99; refine (HBR.out _ (up (bel2 _ _ _) HB2.out) (fun b e => by have := HS1.out b e; have := HZ2.out; omega)).mono ?_; rintro e w3 ⟨ha, hB⟩; obtain ⟨cc, hcc, he⟩ := ha.no; subst he; have HCC := Lib.hid hcc; have HBL := Lib.hid (up HB2.out hB); clear hB hcc ha))
  exact ⟨rfl, AnsB.ofNo HCC.out, up (bel2 _ _ _) HBL.out⟩
end Go.Proofs.YtmlfiopbdlaaaaaGreat
