/- The row of an expression, head by head. (Made by genrow.py.) -/
import Derived.Test.YtmlfiopbdlaaaaaGreatShB1
namespace Go.Proofs.YtmlfiopbdlaaaaaGreat
open Go.RowKit Go.Deep
variable {S : Nat → Prop}
theorem hp1 (w : World) (o : Obj) : (w.alloc o).heap[w.heap.size]? = some o := heap_alloc_new w o
theorem hp1d (w : World) (o : Obj) : (w.alloc o).drew.heap[w.heap.size]? = some o := heap_alloc_new w o
theorem hp2a (w : World) (o o' : Obj) : ((w.alloc o).alloc o').heap[w.heap.size]? = some o := (Below.heap_alloc _ _ _ (by simp)).trans (heap_alloc_new w o)
theorem hp2ad (w : World) (o o' : Obj) : ((w.alloc o).alloc o').drew.heap[w.heap.size]? = some o := hp2a w o o'
theorem hp2b (w : World) (o o' : Obj) : ((w.alloc o).alloc o').heap[w.heap.size + 1]? = some o' := heap2 w o o'
theorem hp2bd (w : World) (o o' : Obj) : ((w.alloc o).alloc o').drew.heap[w.heap.size + 1]? = some o' := heap2 w o o'
set_option linter.unusedSimpArgs false in
set_option maxHeartbeats 4000000 in
set_option maxRecDepth 100000 in
theorem row_map (n : Nat) (t : T) (hd : ByteArray) (w : World) (E : Fm → Bool) (hS : ∀ b, S b → b < w.heap.size) (hE : HAsk n E) (hh : ∀ W, Below w.heap.size w W → Calls Tryz.prog 50 #[t.val] W fun e w' => e = .returned (.string hd) ∧ Below W.heap.size W w') (hq : hd.toList = [109, 97, 112]) : Calls Tryz.prog 58 #[t.val] w (fun e w' => RowEnd n S w w' ⟨[], some (listP ⟨[exprP E, exprP E], none, []⟩ (fun _ => true)), []⟩ e) := by
  have HH := Lib.hid hh
  have HEE := Lib.hid hE
  obtain ⟨S₁, hS₁⟩ : ∃ S₁, S₁ = andFrom S (w.heap.size + 1) 1 := ⟨_, rfl⟩
  have HS1 := Lib.hid (hS₁ ▸ andFrom_lt (k := 1) (fun x h => Nat.lt_succ_of_lt (hS x h)) : ∀ x, S₁ x → x < w.heap.size + 1 + 1)
  have HE := Lib.hid hS₁
  clear hh hE hS₁ hS
  have mixed : Tryz.prog.follows .mixedOrders = true := by kernel_rfl
  go_enter Tryz.func58, Tryz.ntmps58
  go_wp2_with (first
    | (go_at_call 85; refine (anExpr_any (S := S₁) n E HEE.out _).mono ?_; rintro e w1 ⟨vf1, vi1, ve1, rfl, hp1, hB⟩; obtain ⟨K1, c1, K1', c1', rfl, rfl, rfl⟩ := hp1.vals1 rfl; have HP1 := Lib.hid hp1; have HB1 := Lib.hid hB; obtain ⟨q0, q1, q2, q3⟩ := Box4.cells (w := w1) (b := w.heap.size) (t := t) ((hB.block w.heap.size (by simp; omega)).trans ((Below.heap_alloc _ _ _ (by simp)).trans (Box4.new w t))); have lq : w.heap.size < w1.heap.size := Nat.lt_of_lt_of_le (by simp; omega) hB.size; have HZ1 := Lib.hid (Nat.le_trans (by simp) hB.size : w.heap.size + 1 + 1 ≤ w1.heap.size); have hne1 : ¬ (w.heap.size + 1 = w1.heap.size) := (fun e => absurd HZ1.out (by omega)); clear hp1 hB)
    | (go_at_call 50; refine (HH.out _ (up (bel2 _ _ _) (up HB1.out (bel1 _ _)))).mono ?_; rintro e w2 ⟨rfl, hB2⟩; have HY := Lib.hid (fun (W : World) (h : Below w2.heap.size w2 W) => (cells3 ((h.block w1.heap.size (Nat.lt_of_lt_of_le (by simp) hB2.size)).trans ((hB2.block w1.heap.size (by simp)).trans (heap_alloc_new _ _)))).1); obtain ⟨y0, y1, y2⟩ := HY.out w2 (Below.refl _ _); have ly : w1.heap.size < w2.heap.size := Nat.lt_of_lt_of_le (by simp) hB2.size; have HB2 := Lib.hid (up HB1.out (up (bel1 _ _) hB2)); have HZ2 := Lib.hid (Nat.le_trans HZ1.out (Nat.le_of_lt ly)); have HP2 := Lib.hid (HP1.out.below (up (bel1 _ _) hB2)); have HQ := Lib.hid (fun (W : World) (h : Below w2.heap.size w2 W) => Box4.cells (w := W) (b := w.heap.size) (t := t) ((h.block w.heap.size (Nat.lt_trans lq ly)).trans ((hB2.block w.heap.size (by simp; omega)).trans ((Below.heap_alloc _ _ _ lq).trans ((HB1.out.block w.heap.size (by simp; omega)).trans ((Below.heap_alloc _ _ _ (by simp)).trans (Box4.new w t))))))); obtain ⟨p0, p1, p2, p3⟩ := HQ.out w2 (Below.refl _ _); clear hB2))
  refine wp_region_held_drew (S := fun W => W.cell? ⟨w1.heap.size, 0, none⟩ = some (.func (.func K1) #[] c1) ∧ W.cell? ⟨w1.heap.size, 1, none⟩ = some (.func (.func K1') #[] c1') ∧ W.cell? ⟨w1.heap.size, 2, none⟩ = some (.bool (exprP E).isE)) mixed (HY.out _ (Below.refl _ _).drew) (fun hHeld => ?_)
  try simp only [Act.put, List.setIfInBounds_toArray, List.set_cons_zero, List.set_cons_succ]
  refine wpAnyH_take (i := 1) (v := ?_) rfl (by kernel_rfl) (by kernel_rfl) (by kernel_rfl) (fun _ _ _ h => h) (Or.inl ⟨by rfl, ?_⟩) (by assumption) ?_
  rotate_left
  · intro W hSw
    obtain ⟨q0', q1', q2'⟩ := hSw
    go_simp
    try with_reducible rfl
  try simp only [Act.put, List.setIfInBounds_toArray, List.set_cons_zero, List.set_cons_succ]
  refine wpAnyH_take (i := 2) (v := ?_) rfl (by kernel_rfl) (by kernel_rfl) (by kernel_rfl) (fun _ _ _ h => h) (Or.inl ⟨by rfl, ?_⟩) (by assumption) ?_
  rotate_left
  · intro W hSw
    obtain ⟨q0', q1', q2'⟩ := hSw
    go_simp
    try with_reducible rfl
  try simp only [Act.put, List.setIfInBounds_toArray, List.set_cons_zero, List.set_cons_succ]
  refine wpAnyH_ready (rs := [0, 3]) (by kernel_rfl) (by simp) ?_
  refine (AllReadyH.cons rfl (fun K9 hK9 => ?_) (AllReadyH.cons rfl (fun K9 hK9 => ?_) AllReadyH.nil))
  · skip
    go_simp
    go_at_call 82
    refine (just_any (S := S₁) n none [] 0 _ (.inl rfl)).mono ?_
    rintro e w3 ⟨v3, rfl, hx, hB⟩
    have hb := up (Below.refl _ _).drew hB
    have HC3 := Lib.hid (hb)
    have HZ3 := Lib.hid (Nat.le_trans HZ2.out hb.size)
    have He_3 := Lib.hid (HP2.out.below hb)
    have HR3 := Lib.hid hx
    clear hb hx hB
    go_wp2_with fail
    refine hK9.out _ _ (HY.out _ HC3.out) (fun hHeld => ?_)
    clear hK9 K9
    try simp only [Act.put, List.setIfInBounds_toArray, List.set_cons_zero, List.set_cons_succ]
    refine wpAnyH_ready (rs := [3]) (by kernel_rfl) (by simp) ?_
    refine (AllReadyH.cons rfl (fun K9 hK9 => ?_) AllReadyH.nil)
    go_simp
    refine hK9.out _ _ (HY.out _ (up HC3.out (bel1 _ _))) (fun hHeld => ?_)
    clear hK9 K9
    try simp only [Act.put, List.setIfInBounds_toArray, List.set_cons_zero, List.set_cons_succ]
    refine wpAnyH_ready (rs := [4]) (by kernel_rfl) (by simp) ?_
    refine (AllReadyH.cons rfl (fun K9 hK9 => ?_) AllReadyH.nil)
    go_simp
    go_at_call 82
    refine (just_any (S := S₁) n _ [exprP E, exprP E] _ _ (parts2 (hp1 _ _) (fun e => absurd (HS1.out _ e) (by have := HZ3.out; omega)) (He_3.out.below (bel1 _ _)) (He_3.out.below (bel1 _ _)))).mono ?_
    rintro e w4 ⟨v4, rfl, hx, hB⟩
    have hb := up (bel1 _ _) hB
    have HC4 := Lib.hid (up HC3.out hb)
    have HZ4 := Lib.hid (Nat.le_trans HZ3.out hb.size)
    have He_4 := Lib.hid (He_3.out.below hb)
    have Hr0_4 := Lib.hid (HR3.out.below hb)
    have HR4 := Lib.hid hx
    clear hb hx hB
    go_wp2_with fail
    refine hK9.out _ _ (HY.out _ HC4.out) (fun hHeld => ?_)
    clear hK9 K9
    try simp only [Act.put, List.setIfInBounds_toArray, List.set_cons_zero, List.set_cons_succ]
    refine wpAnyH_ready (rs := [5]) (by kernel_rfl) (by simp) ?_
    refine (AllReadyH.cons rfl (fun K9 hK9 => ?_) AllReadyH.nil)
    go_simp
    go_at_call 94
    refine (aList_none (S := S₁) n ⟨[exprP E, exprP E], none, []⟩ _ _ (fun b e => by have := HS1.out b e; have := HZ4.out; first | omega | (simp; omega)) (HR4.out.below (Below.refl _ _)) (by simp) (by simp)).mono ?_
    rintro e w5 ⟨vf5, vi5, ve5, rfl, hx, hB⟩
    obtain ⟨K5, c5, K5', c5', rfl, rfl, rfl⟩ := hx.vals1 rfl
    have hb := up (Below.refl _ _) hB
    have HC5 := Lib.hid (up HC4.out hb)
    have HZ5 := Lib.hid (Nat.le_trans HZ4.out hb.size)
    have He_5 := Lib.hid (He_4.out.below hb)
    have Hr0_5 := Lib.hid (Hr0_4.out.below hb)
    have Hr1_5 := Lib.hid (HR4.out.below hb)
    have HR5 := Lib.hid hx
    clear hb hx hB
    go_wp2_with fail
    refine hK9.out _ _ (HY.out _ HC5.out) (fun hHeld => ?_)
    clear hK9 K9
    try simp only [Act.put, List.setIfInBounds_toArray, List.set_cons_zero, List.set_cons_succ]
    refine wpAnyH_ready (rs := [6]) (by kernel_rfl) (by simp) ?_
    refine (AllReadyH.cons rfl (fun K9 hK9 => ?_) AllReadyH.nil)
    go_simp
    go_at_call 93
    refine (any_any (S := S₁) n _ _ _ _ _ (listP ⟨[exprP E, exprP E], none, []⟩ (fun _ => true)) _ (fun b e => by have := HS1.out b e; have := HZ5.out; first | omega | (simp; omega)) (Hr0_5.out.below (Below.refl _ _)) (HR5.out.below (Below.refl _ _))).mono ?_
    rintro e w6 ⟨v6, rfl, hx, hB⟩
    obtain ⟨fa, fl, fc, ba, bl, bc, m, rfl⟩ := hx.vals
    have hb := up (Below.refl _ _) hB
    have HC6 := Lib.hid (up HC5.out hb)
    have HZ6 := Lib.hid (Nat.le_trans HZ5.out hb.size)
    have He_6 := Lib.hid (He_5.out.below hb)
    have Hr0_6 := Lib.hid (Hr0_5.out.below hb)
    have Hr1_6 := Lib.hid (Hr1_5.out.below hb)
    have Hk_6 := Lib.hid (HR5.out.below hb)
    have HR6 := Lib.hid hx
    clear hb hx hB
    have HRL := HR6
    have HBL := Lib.hid (up HB2.out HC6.out)
    obtain ⟨⟨z0, z1, z2⟩, z3, z4, z5⟩ := cells3 ((HBL.out.block (w.heap.size + 1) (by simp)).trans (heap2 _ _ _))
    go_wp2_with fail
    refine hK9.out _ _ (HY.out _ HC6.out) (fun hHeld => ?_)
    clear hK9 K9
    try simp only [Act.put, List.setIfInBounds_toArray, List.set_cons_zero, List.set_cons_succ]
    refine wpAnyH_ready (rs := [7]) (by kernel_rfl) (by simp) ?_
    refine (AllReadyH.cons rfl (fun K9 hK9 => ?_) AllReadyH.nil)
    go_simp
    refine hK9.out _ _ (by obtain ⟨u0, u1, u2⟩ := HY.out _ HC6.out; simp [World.cell?_setCell_other, hne1, u0, u1, u2]) (fun hHeld => ?_)
    clear hK9 K9
    try simp only [Act.put, List.setIfInBounds_toArray, List.set_cons_zero, List.set_cons_succ]
    refine wpAnyH_done (by kernel_rfl) ?_ _
    go_wp2_with fail
    refine bodyPost_ret (v := .agg #[.slice fa fl fc, .slice ba bl bc, .pointer m]) (by simp [results, Tryz.results58, go_sem, cell_set, z0, z1, z2]) rfl (row_close3 (k := 1) (B0 := w.heap.size + 1) (Nat.le_succ _) (Nat.le_refl _) (Nat.lt_succ_self _) (up (bel2 _ _ _) HBL.out) ?_ _ _ _)
    have hp := HRL.out
    rw [HE.out] at hp
    exact hp
  · skip
    go_simp
    refine hK9.out _ _ (HY.out _ ((bel1 _ _).drew)) (fun hHeld => ?_)
    clear hK9 K9
    try simp only [Act.put, List.setIfInBounds_toArray, List.set_cons_zero, List.set_cons_succ]
    refine wpAnyH_ready (rs := [0]) (by kernel_rfl) (by simp) ?_
    refine (AllReadyH.cons rfl (fun K9 hK9 => ?_) AllReadyH.nil)
    go_simp
    go_at_call 82
    refine (just_any (S := S₁) n none [] 0 _ (.inl rfl)).mono ?_
    rintro e w3 ⟨v3, rfl, hx, hB⟩
    have hb := up (bel1 _ _).drew hB
    have HC3 := Lib.hid (hb)
    have HZ3 := Lib.hid (Nat.le_trans HZ2.out hb.size)
    have He_3 := Lib.hid (HP2.out.below hb)
    have HR3 := Lib.hid hx
    have HMsl_3 := Lib.hid ((hB.block _ (lt_of_block (hp1d _ _))).trans (hp1d _ _))
    have HB_sl := Lib.hid (show w.heap.size + 1 + 1 ≤ w2.heap.size by have := HZ2.out; omega)
    clear hb hx hB
    go_wp2_with fail
    refine hK9.out _ _ (HY.out _ HC3.out) (fun hHeld => ?_)
    clear hK9 K9
    try simp only [Act.put, List.setIfInBounds_toArray, List.set_cons_zero, List.set_cons_succ]
    refine wpAnyH_ready (rs := [4]) (by kernel_rfl) (by simp) ?_
    refine (AllReadyH.cons rfl (fun K9 hK9 => ?_) AllReadyH.nil)
    go_simp
    go_at_call 82
    refine (just_any (S := S₁) n _ [exprP E, exprP E] _ _ (parts2 ((((Below.refl _ _) : Below w3.heap.size w3 _).block _ (lt_of_block HMsl_3.out)).trans HMsl_3.out) (fun e => absurd (HS1.out _ e) (by have := HB_sl.out; omega)) (He_3.out.below (Below.refl _ _)) (He_3.out.below (Below.refl _ _)))).mono ?_
    rintro e w4 ⟨v4, rfl, hx, hB⟩
    have hb := up (Below.refl _ _) hB
    have HC4 := Lib.hid (up HC3.out hb)
    have HZ4 := Lib.hid (Nat.le_trans HZ3.out hb.size)
    have He_4 := Lib.hid (He_3.out.below hb)
    have Hr0_4 := Lib.hid (HR3.out.below hb)
    have HR4 := Lib.hid hx
    have HMsl_4 := Lib.hid ((hb.block _ (lt_of_block HMsl_3.out)).trans HMsl_3.out)
    clear hb hx hB
    go_wp2_with fail
    refine hK9.out _ _ (HY.out _ HC4.out) (fun hHeld => ?_)
    clear hK9 K9
    try simp only [Act.put, List.setIfInBounds_toArray, List.set_cons_zero, List.set_cons_succ]
    refine wpAnyH_ready (rs := [5]) (by kernel_rfl) (by simp) ?_
    refine (AllReadyH.cons rfl (fun K9 hK9 => ?_) AllReadyH.nil)
    go_simp
    go_at_call 94
    refine (aList_none (S := S₁) n ⟨[exprP E, exprP E], none, []⟩ _ _ (fun b e => by have := HS1.out b e; have := HZ4.out; first | omega | (simp; omega)) (HR4.out.below (Below.refl _ _)) (by simp) (by simp)).mono ?_
    rintro e w5 ⟨vf5, vi5, ve5, rfl, hx, hB⟩
    obtain ⟨K5, c5, K5', c5', rfl, rfl, rfl⟩ := hx.vals1 rfl
    have hb := up (Below.refl _ _) hB
    have HC5 := Lib.hid (up HC4.out hb)
    have HZ5 := Lib.hid (Nat.le_trans HZ4.out hb.size)
    have He_5 := Lib.hid (He_4.out.below hb)
    have Hr0_5 := Lib.hid (Hr0_4.out.below hb)
    have Hr1_5 := Lib.hid (HR4.out.below hb)
    have HR5 := Lib.hid hx
    clear hb hx hB
    go_wp2_with fail
    refine hK9.out _ _ (HY.out _ HC5.out) (fun hHeld => ?_)
    clear hK9 K9
    try simp only [Act.put, List.setIfInBounds_toArray, List.set_cons_zero, List.set_cons_succ]
    refine wpAnyH_ready (rs := [6]) (by kernel_rfl) (by simp) ?_
    refine (AllReadyH.cons rfl (fun K9 hK9 => ?_) AllReadyH.nil)
    go_simp
    go_at_call 93
    refine (any_any (S := S₁) n _ _ _ _ _ (listP ⟨[exprP E, exprP E], none, []⟩ (fun _ => true)) _ (fun b e => by have := HS1.out b e; have := HZ5.out; first | omega | (simp; omega)) (Hr0_5.out.below (Below.refl _ _)) (HR5.out.below (Below.refl _ _))).mono ?_
    rintro e w6 ⟨v6, rfl, hx, hB⟩
    obtain ⟨fa, fl, fc, ba, bl, bc, m, rfl⟩ := hx.vals
    have hb := up (Below.refl _ _) hB
    have HC6 := Lib.hid (up HC5.out hb)
    have HZ6 := Lib.hid (Nat.le_trans HZ5.out hb.size)
    have He_6 := Lib.hid (He_5.out.below hb)
    have Hr0_6 := Lib.hid (Hr0_5.out.below hb)
    have Hr1_6 := Lib.hid (Hr1_5.out.below hb)
    have Hk_6 := Lib.hid (HR5.out.below hb)
    have HR6 := Lib.hid hx
    clear hb hx hB
    have HRL := HR6
    have HBL := Lib.hid (up HB2.out HC6.out)
    obtain ⟨⟨z0, z1, z2⟩, z3, z4, z5⟩ := cells3 ((HBL.out.block (w.heap.size + 1) (by simp)).trans (heap2 _ _ _))
    go_wp2_with fail
    refine hK9.out _ _ (HY.out _ HC6.out) (fun hHeld => ?_)
    clear hK9 K9
    try simp only [Act.put, List.setIfInBounds_toArray, List.set_cons_zero, List.set_cons_succ]
    refine wpAnyH_ready (rs := [7]) (by kernel_rfl) (by simp) ?_
    refine (AllReadyH.cons rfl (fun K9 hK9 => ?_) AllReadyH.nil)
    go_simp
    refine hK9.out _ _ (by obtain ⟨u0, u1, u2⟩ := HY.out _ HC6.out; simp [World.cell?_setCell_other, hne1, u0, u1, u2]) (fun hHeld => ?_)
    clear hK9 K9
    try simp only [Act.put, List.setIfInBounds_toArray, List.set_cons_zero, List.set_cons_succ]
    refine wpAnyH_done (by kernel_rfl) ?_ _
    go_wp2_with fail
    refine bodyPost_ret (v := .agg #[.slice fa fl fc, .slice ba bl bc, .pointer m]) (by simp [results, Tryz.results58, go_sem, cell_set, z0, z1, z2]) rfl (row_close3 (k := 1) (B0 := w.heap.size + 1) (Nat.le_succ _) (Nat.le_refl _) (Nat.lt_succ_self _) (up (bel2 _ _ _) HBL.out) ?_ _ _ _)
    have hp := HRL.out
    rw [HE.out] at hp
    exact hp
end Go.Proofs.YtmlfiopbdlaaaaaGreat
