/- The row of an expression, head by head. (Made by genrow.py.) -/
import Derived.Test.YtmlfiopbdlaaaaaGreatShB0
import Derived.Deep.CutBlock
namespace Go.Proofs.YtmlfiopbdlaaaaaGreat
open Go.RowKit Go.Deep
theorem put_a : (∀ (l : List Value) (i : Nat) (a : Value), l.toArray.setIfInBounds i a = (l.set i a).toArray) ∧ (∀ (x a : Value) (l : List Value), (x :: l).set 0 a = a :: l) ∧ ∀ (x : Value) (l : List Value) (i : Nat) (a : Value), (x :: l).set (i + 1) a = x :: l.set i a := ⟨fun _ _ _ => List.setIfInBounds_toArray .., fun _ _ _ => rfl, fun _ _ _ _ => rfl⟩
variable {S : Nat → Prop}
set_option linter.unusedSimpArgs false in
set_option maxHeartbeats 40000000 in
set_option maxRecDepth 100000 in
theorem bind_quant (n : Nat) (t : T) (hd : ByteArray) (w : World) (E : Fm → Bool) (hS : ∀ b, S b → b < w.heap.size) (hE : HAsk n E) (hh : ∀ W, Below w.heap.size w W → Calls Tryz.prog 50 #[t.val] W fun e w' => e = .returned (.string hd) ∧ Below W.heap.size W w') (hq : hd.toList = [102, 111, 114, 97, 108, 108] ∨ hd.toList = [101, 120, 105, 115, 116, 115]) : Calls Tryz.prog 99 #[t.val] w (fun e w' => RowEnd n S w w' ⟨[(listP ⟨[typedP], some typedP, []⟩ differB)], some (behindP trigW ⟨[exprP E], some (exprP E), []⟩), [exprP E]⟩ e) := by
  have HH := Lib.hid hh
  have HEE := Lib.hid hE
  obtain ⟨S₁, hS₁⟩ : ∃ S₁, S₁ = andFrom S (w.heap.size + 1) 1 := ⟨_, rfl⟩
  have HS1 := Lib.hid (hS₁ ▸ andFrom_lt (k := 1) (fun x h => Nat.lt_succ_of_lt (hS x h)) : ∀ x, S₁ x → x < w.heap.size + 1 + 1)
  have HE := Lib.hid hS₁
  clear hh hE hS₁ hS
  have g0 : (hd.toList == [108, 101, 116]) = false := by rcases hq with h | h <;> simp [h]
  have g1 : (hd.toList == [101, 118, 101, 114, 121]) = false := by rcases hq with h | h <;> simp [h]
  have g2 : (hd.toList == [97, 110, 121]) = false := by rcases hq with h | h <;> simp [h]
  have g3 : (hd.toList == [97, 108, 108]) = false := by rcases hq with h | h <;> simp [h]
  have g4 : (hd.toList == [115, 111, 109, 101]) = false := by rcases hq with h | h <;> simp [h]
  have g5 : (hd.toList == [112, 105, 99, 107]) = false := by rcases hq with h | h <;> simp [h]
  have g6 : (hd.toList == [109, 97, 116, 99, 104]) = false := by rcases hq with h | h <;> simp [h]
  have g7 : (hd.toList == [102, 110]) = false := by rcases hq with h | h <;> simp [h]
  have mixed : Tryz.prog.follows .mixedOrders = true := by kernel_rfl
  go_enter Tryz.func99, Tryz.ntmps99
  go_upto_if 58 with (first
   | (go_at_call 85; refine (anExpr_any (S := S₁) n E HEE.out _).mono ?_; rintro e w1 ⟨vf1, vi1, ve1, rfl, hp1, hB⟩; obtain ⟨K1, c1, K1', c1', rfl, rfl, rfl⟩ := hp1.vals1 rfl; have HP1 := Lib.hid hp1; have HB1 := Lib.hid hB; obtain ⟨q0, q1, q2, q3⟩ := Box4.cells (w := w1) (b := w.heap.size) (t := t) ((hB.block w.heap.size (by simp; omega)).trans ((Below.heap_alloc _ _ _ (by simp)).trans (Box4.new w t))); have lq : w.heap.size < w1.heap.size := Nat.lt_of_lt_of_le (by simp; omega) hB.size; have HZ1 := Lib.hid (Nat.le_trans (by simp) hB.size : w.heap.size + 1 + 1 ≤ w1.heap.size); have hne1 : ¬ (w.heap.size + 1 = w1.heap.size) := (fun e => absurd HZ1.out (by omega)); clear hp1 hB)
   | (go_at_call 50; refine (HH.out _ (up (bel2 _ _ _) (up HB1.out (bel1 _ _)))).mono ?_; rintro e w2 ⟨rfl, hB2⟩; have HY := Lib.hid (fun (W : World) (h : Below w2.heap.size w2 W) => (cells3 ((h.block w1.heap.size (Nat.lt_of_lt_of_le (by simp) hB2.size)).trans ((hB2.block w1.heap.size (by simp)).trans (heap_alloc_new _ _)))).1); obtain ⟨y0, y1, y2⟩ := HY.out w2 (Below.refl _ _); have ly : w1.heap.size < w2.heap.size := Nat.lt_of_lt_of_le (by simp) hB2.size; have HB2 := Lib.hid (up HB1.out (up (bel1 _ _) hB2)); have HZ2 := Lib.hid (Nat.le_trans HZ1.out (Nat.le_of_lt ly)); have HP2 := Lib.hid (HP1.out.below (up (bel1 _ _) hB2)); have HQ := Lib.hid (fun (W : World) (h : Below w2.heap.size w2 W) => Box4.cells (w := W) (b := w.heap.size) (t := t) ((h.block w.heap.size (Nat.lt_trans lq ly)).trans ((hB2.block w.heap.size (by simp; omega)).trans ((Below.heap_alloc _ _ _ lq).trans ((HB1.out.block w.heap.size (by simp; omega)).trans ((Below.heap_alloc _ _ _ (by simp)).trans (Box4.new w t))))))); obtain ⟨p0, p1, p2, p3⟩ := HQ.out w2 (Below.refl _ _); clear hB2))
  go_cut [58] from 5 (fun s58 wr => s58 = .bool true ∧ wr = w2)
  case first =>
    rcases hq with hq | hq
    · have gf : (hd.toList == [102, 111, 114, 97, 108, 108]) = true := by simp [hq]
      rw [gf]
      go_wp2_with fail
      go_meet
      exact ⟨rfl, rfl⟩
    · have gf : (hd.toList == [102, 111, 114, 97, 108, 108]) = false := by simp [hq]
      have gx : (hd.toList == [101, 120, 105, 115, 116, 115]) = true := by simp [hq]
      rw [gf]
      go_wp2_with fail
      go_meet
      exact ⟨rfl, rfl⟩
  case rest =>
  obtain ⟨e1, e2⟩ := hcut
  rw [e1, e2]
  clear e1 e2 hq g0 g1 g2 g3 g4 g5 g6 g7
  go_wp2_with fail
  refine wp_region_held_drew (S := fun W => W.cell? ⟨w1.heap.size, 0, none⟩ = some (.func (.func K1) #[] c1) ∧ W.cell? ⟨w1.heap.size, 1, none⟩ = some (.func (.func K1') #[] c1') ∧ W.cell? ⟨w1.heap.size, 2, none⟩ = some (.bool (exprP E).isE)) mixed (HY.out _ (Below.refl _ _).drew) (fun hHeld => ?_)
  try simp only [Act.put, put_a]
  refine wpAnyH_take (i := 6) (v := ?_) rfl (by kernel_rfl) (by kernel_rfl) (by kernel_rfl) (fun _ _ _ h => h) (Or.inl ⟨by rfl, ?_⟩) (by assumption) ?_
  rotate_left
  ·intro W hSw
   obtain ⟨q0', q1', q2'⟩ := hSw
   go_simp
   try with_reducible rfl
  try simp only [Act.put, put_a]
  refine wpAnyH_take (i := 10) (v := ?_) rfl (by kernel_rfl) (by kernel_rfl) (by kernel_rfl) (fun _ _ _ h => h) (Or.inl ⟨by rfl, ?_⟩) (by assumption) ?_
  rotate_left
  ·intro W hSw
   obtain ⟨q0', q1', q2'⟩ := hSw
   go_simp
   try with_reducible rfl
  try simp only [Act.put, put_a]
  refine wpAnyH_ready (rs := [0, 2, 11]) (by kernel_rfl) (by simp) ?_
  refine (AllReadyH.cons rfl (fun K9 hK9 => ?_) (AllReadyH.cons rfl (fun K9 hK9 => ?_) (AllReadyH.cons rfl (fun K9 hK9 => ?_) AllReadyH.nil)))
  ·skip
   go_simp
   go_at_call 84
   refine (aTyped_any (S := S₁) n _ (fun b e => by have := HS1.out b e; have := HZ2.out; first | omega | (simp; omega))).mono ?_
   rintro e w3 ⟨vf3, vi3, ve3, rfl, hx, hB⟩
   obtain ⟨K3, c3, K3', c3', rfl, rfl, rfl⟩ := hx.vals1 rfl
   have hb := up (Below.refl _ _).drew hB
   have HC3 := Lib.hid (hb)
   have HZ3 := Lib.hid (Nat.le_trans HZ2.out hb.size)
   have He_3 := Lib.hid (HP2.out.below hb)
   have HR3 := Lib.hid hx
   clear hb hx hB
   go_wp2_with fail
   refine hK9.out _ _ (HY.out _ HC3.out) (fun hHeld => ?_)
   clear hK9 K9
   try simp only [Act.put, put_a]
   refine wpAnyH_ready (rs := [1, 2, 11]) (by kernel_rfl) (by simp) ?_
   refine (AllReadyH.cons rfl (fun K9 hK9 => ?_) (AllReadyH.cons rfl (fun K9 hK9 => ?_) (AllReadyH.cons rfl (fun K9 hK9 => ?_) AllReadyH.nil)))
   ·skip
    go_simp
    go_at_call 97
    refine (some_any (S := S₁) n _ _ _ typedP _ (fun b e => by have := HS1.out b e; have := HZ3.out; first | omega | (simp; omega)) ((HR3.out.below (Below.refl _ _)).re (andFrom_re (Nat.le_refl _)))).mono ?_
    rintro e w4 ⟨v4, rfl, hx, hB⟩
    have hb := up (Below.refl _ _) hB
    have HC4 := Lib.hid (up HC3.out hb)
    have HZ4 := Lib.hid (Nat.le_trans HZ3.out hb.size)
    have He_4 := Lib.hid (He_3.out.below hb)
    have HR4 := Lib.hid hx
    clear hb hx hB
    go_wp2_with fail
    refine hK9.out _ _ (HY.out _ HC4.out) (fun hHeld => ?_)
    clear hK9 K9
    try simp only [Act.put, put_a]
    refine wpAnyH_ready (rs := [2, 11]) (by kernel_rfl) (by simp) ?_
    refine (AllReadyH.cons rfl (fun K9 hK9 => ?_) (AllReadyH.cons rfl (fun K9 hK9 => ?_) AllReadyH.nil))
    ·skip
     go_simp
     refine hK9.out _ _ (HY.out _ (up HC4.out (bel1 _ _))) (fun hHeld => ?_)
     clear hK9 K9
     try simp only [Act.put, put_a]
     refine wpAnyH_ready (rs := [3, 11]) (by kernel_rfl) (by simp) ?_
     refine (AllReadyH.cons rfl (fun K9 hK9 => ?_) (AllReadyH.cons rfl (fun K9 hK9 => ?_) AllReadyH.nil))
     ·skip
      go_simp
      go_at_call 94
      refine (aList_differ (S := S₁) n ⟨[typedP], some typedP, []⟩ _ _ _ _ (fun b e => by have := HS1.out b e; have := HZ4.out; first | omega | (simp; omega)) (HR4.out.below (bel1 _ _)) (by simp) (by simp) preD_typed ⟨lt_of_block (hp1 _ _), (fun e => absurd (HS1.out _ e) (by have := HZ4.out; omega)), cell_block (hp1 _ _) rfl⟩).mono ?_
      rintro e w5 ⟨vf5, vi5, ve5, rfl, hx, hB⟩
      obtain ⟨K5, c5, K5', c5', rfl, rfl, rfl⟩ := hx.vals1 rfl
      have hb := up (bel1 _ _) hB
      have HC5 := Lib.hid (up HC4.out hb)
      have HZ5 := Lib.hid (Nat.le_trans HZ4.out hb.size)
      have He_5 := Lib.hid (He_4.out.below hb)
      have HR5 := Lib.hid hx
      clear hb hx hB
      go_wp2_with fail
      refine hK9.out _ _ (HY.out _ HC5.out) (fun hHeld => ?_)
      clear hK9 K9
      try simp only [Act.put, put_a]
      refine wpAnyH_ready (rs := [4, 11]) (by kernel_rfl) (by simp) ?_
      refine (AllReadyH.cons rfl (fun K9 hK9 => ?_) (AllReadyH.cons rfl (fun K9 hK9 => ?_) AllReadyH.nil))
      ·skip
       go_simp
       refine hK9.out _ _ (HY.out _ (up HC5.out (bel1 _ _))) (fun hHeld => ?_)
       clear hK9 K9
       try simp only [Act.put, put_a]
       refine wpAnyH_ready (rs := [5, 11]) (by kernel_rfl) (by simp) ?_
       refine (AllReadyH.cons rfl (fun K9 hK9 => ?_) (AllReadyH.cons rfl (fun K9 hK9 => ?_) AllReadyH.nil))
       ·skip
        go_simp
        go_at_call 82
        refine (just_any (S := S₁) n _ [(listP ⟨[typedP], some typedP, []⟩ differB)] _ _ (parts1 (hp1 _ _) (fun e => absurd (HS1.out _ e) (by have := HZ5.out; omega)) (HR5.out.below (bel1 _ _)))).mono ?_
        rintro e w6 ⟨v6, rfl, hx, hB⟩
        have hb := up (bel1 _ _) hB
        have HC6 := Lib.hid (up HC5.out hb)
        have HZ6 := Lib.hid (Nat.le_trans HZ5.out hb.size)
        have He_6 := Lib.hid (He_5.out.below hb)
        have HR6 := Lib.hid hx
        clear hb hx hB
        go_wp2_with fail
        refine hK9.out _ _ (HY.out _ HC6.out) (fun hHeld => ?_)
        clear hK9 K9
        try simp only [Act.put, put_a]
        refine wpAnyH_ready (rs := [7, 11]) (by kernel_rfl) (by simp) ?_
        refine (AllReadyH.cons rfl (fun K9 hK9 => ?_) (AllReadyH.cons rfl (fun K9 hK9 => ?_) AllReadyH.nil))
        ·skip
         go_simp
         go_at_call 97
         refine (some_any (S := S₁) n _ _ _ (exprP E) _ (fun b e => by have := HS1.out b e; have := HZ6.out; first | omega | (simp; omega)) ((He_6.out.below (Below.refl _ _)).re (andFrom_re (Nat.le_refl _)))).mono ?_
         rintro e w7 ⟨v7, rfl, hx, hB⟩
         have hb := up (Below.refl _ _) hB
         have HC7 := Lib.hid (up HC6.out hb)
         have HZ7 := Lib.hid (Nat.le_trans HZ6.out hb.size)
         have He_7 := Lib.hid (He_6.out.below hb)
         have Hr2_7 := Lib.hid (HR6.out.below hb)
         have HR7 := Lib.hid hx
         clear hb hx hB
         go_wp2_with fail
         refine hK9.out _ _ (HY.out _ HC7.out) (fun hHeld => ?_)
         clear hK9 K9
         try simp only [Act.put, put_a]
         refine wpAnyH_ready (rs := [8, 11]) (by kernel_rfl) (by simp) ?_
         refine (AllReadyH.cons rfl (fun K9 hK9 => ?_) (AllReadyH.cons rfl (fun K9 hK9 => ?_) AllReadyH.nil))
         ·skip
          go_simp
          go_at_call 150
          refine (behind_any (S := S₁) n trigW ⟨[exprP E], some (exprP E), []⟩ _ _ (by simp [trigW]) (fun b e => by have := HS1.out b e; have := HZ7.out; first | omega | (simp; omega)) (HR7.out.below (Below.refl _ _)) (by simp) (by simp)).mono ?_
          rintro e w8 ⟨vf8, vi8, ve8, rfl, hx, hB⟩
          obtain ⟨K8, c8, K8', c8', rfl, rfl, rfl⟩ := hx.vals1 rfl
          have hb := up (Below.refl _ _) hB
          have HC8 := Lib.hid (up HC7.out hb)
          have HZ8 := Lib.hid (Nat.le_trans HZ7.out hb.size)
          have He_8 := Lib.hid (He_7.out.below hb)
          have Hr2_8 := Lib.hid (Hr2_7.out.below hb)
          have HR8 := Lib.hid hx
          clear hb hx hB
          go_wp2_with fail
          refine hK9.out _ _ (HY.out _ HC8.out) (fun hHeld => ?_)
          clear hK9 K9
          try simp only [Act.put, put_a]
          refine wpAnyH_ready (rs := [9, 11]) (by kernel_rfl) (by simp) ?_
          refine (AllReadyH.cons rfl (fun K9 hK9 => ?_) (AllReadyH.cons rfl (fun K9 hK9 => ?_) AllReadyH.nil))
          ·skip
           go_simp
           go_at_call 93
           refine (any_any (S := S₁) n _ _ _ _ _ (behindP trigW ⟨[exprP E], some (exprP E), []⟩) _ (fun b e => by have := HS1.out b e; have := HZ8.out; first | omega | (simp; omega)) (Hr2_8.out.below (Below.refl _ _)) (HR8.out.below (Below.refl _ _))).mono ?_
           rintro e w9 ⟨v9, rfl, hx, hB⟩
           have hb := up (Below.refl _ _) hB
           have HC9 := Lib.hid (up HC8.out hb)
           have HZ9 := Lib.hid (Nat.le_trans HZ8.out hb.size)
           have He_9 := Lib.hid (He_8.out.below hb)
           have HR9 := Lib.hid hx
           clear hb hx hB
           go_wp2_with fail
           refine hK9.out _ _ (HY.out _ HC9.out) (fun hHeld => ?_)
           clear hK9 K9
           try simp only [Act.put, put_a]
           refine wpAnyH_ready (rs := [11]) (by kernel_rfl) (by simp) ?_
           refine (AllReadyH.cons rfl (fun K9 hK9 => ?_) AllReadyH.nil)
           go_simp
           refine hK9.out _ _ (HY.out _ (up HC9.out (bel1 _ _))) (fun hHeld => ?_)
           clear hK9 K9
           try simp only [Act.put, put_a]
           refine wpAnyH_ready (rs := [12]) (by kernel_rfl) (by simp) ?_
           refine (AllReadyH.cons rfl (fun K9 hK9 => ?_) AllReadyH.nil)
           go_simp
           go_at_call 147
           refine (end_any (S := S₁) n _ _ _ [exprP E] _ _ (HR9.out.below (bel1 _ _)) (parts1 (hp1 _ _) (fun e => absurd (HS1.out _ e) (by have := HZ9.out; omega)) (He_9.out.below (bel1 _ _)))).mono ?_
           rintro e w10 ⟨v10, rfl, hx, hB⟩
           obtain ⟨fa, fl, fc, ba, bl, bc, m, rfl⟩ := hx.vals
           have hb := up (bel1 _ _) hB
           have HC10 := Lib.hid (up HC9.out hb)
           have HR10 := Lib.hid hx
           clear hb hx hB
           have HRL := HR10
           have HBL := Lib.hid (up HB2.out HC10.out)
           obtain ⟨⟨z0, z1, z2⟩, z3, z4, z5⟩ := cells3 ((HBL.out.block (w.heap.size + 1) (by simp)).trans (heap2 _ _ _))
           go_wp2_with fail
           refine hK9.out _ _ (HY.out _ HC10.out) (fun hHeld => ?_)
           clear hK9 K9
           try simp only [Act.put, put_a]
           refine wpAnyH_ready (rs := [13]) (by kernel_rfl) (by simp) ?_
           refine (AllReadyH.cons rfl (fun K9 hK9 => ?_) AllReadyH.nil)
           go_simp
           refine hK9.out _ _ (by obtain ⟨u0, u1, u2⟩ := HY.out _ HC10.out; simp [World.cell?_setCell_other, hne1, u0, u1, u2]) (fun hHeld => ?_)
           clear hK9 K9
           try simp only [Act.put, put_a]
           refine wpAnyH_done (by kernel_rfl) ?_ _
           go_wp2_with fail
           refine bodyPost_ret (v := .agg #[.slice fa fl fc, .slice ba bl bc, .pointer m]) (by simp [results, Tryz.results99, go_sem, cell_set, z0, z1, z2]) rfl (row_close3 (k := 1) (B0 := w.heap.size + 1) (Nat.le_succ _) (Nat.le_refl _) (Nat.lt_succ_self _) (up (bel2 _ _ _) HBL.out) ?_ _ _ _)
           have hp := HRL.out
           rw [HE.out] at hp
           exact hp
          ·skip
           go_simp
           refine hK9.out _ _ (HY.out _ (up HC8.out (bel1 _ _))) (fun hHeld => ?_)
           clear hK9 K9
           try simp only [Act.put, put_a]
           refine wpAnyH_ready (rs := [9]) (by kernel_rfl) (by simp) ?_
           refine (AllReadyH.cons rfl (fun K9 hK9 => ?_) AllReadyH.nil)
           go_simp
           go_at_call 93
           refine (any_any (S := S₁) n _ _ _ _ _ (behindP trigW ⟨[exprP E], some (exprP E), []⟩) _ (fun b e => by have := HS1.out b e; have := HZ8.out; first | omega | (simp; omega)) (Hr2_8.out.below (bel1 _ _)) (HR8.out.below (bel1 _ _))).mono ?_
           rintro e w9 ⟨v9, rfl, hx, hB⟩
           have hb := up (bel1 _ _) hB
           have HC9 := Lib.hid (up HC8.out hb)
           have He_9 := Lib.hid (He_8.out.below hb)
           have HR9 := Lib.hid hx
           have HMl2_9 := Lib.hid ((hB.block _ (lt_of_block (hp1 _ _))).trans (hp1 _ _))
           have HB_l2 := Lib.hid (show w.heap.size + 1 + 1 ≤ w8.heap.size by have := HZ8.out; omega)
           clear hb hx hB
           go_wp2_with fail
           refine hK9.out _ _ (HY.out _ HC9.out) (fun hHeld => ?_)
           clear hK9 K9
           try simp only [Act.put, put_a]
           refine wpAnyH_ready (rs := [12]) (by kernel_rfl) (by simp) ?_
           refine (AllReadyH.cons rfl (fun K9 hK9 => ?_) AllReadyH.nil)
           go_simp
           go_at_call 147
           refine (end_any (S := S₁) n _ _ _ [exprP E] _ _ (HR9.out.below (Below.refl _ _)) (parts1 ((((Below.refl _ _) : Below w9.heap.size w9 _).block _ (lt_of_block HMl2_9.out)).trans HMl2_9.out) (fun e => absurd (HS1.out _ e) (by have := HB_l2.out; omega)) (He_9.out.below (Below.refl _ _)))).mono ?_
           rintro e w10 ⟨v10, rfl, hx, hB⟩
           obtain ⟨fa, fl, fc, ba, bl, bc, m, rfl⟩ := hx.vals
           have hb := up (Below.refl _ _) hB
           have HC10 := Lib.hid (up HC9.out hb)
           have HR10 := Lib.hid hx
           clear hb hx hB
           have HRL := HR10
           have HBL := Lib.hid (up HB2.out HC10.out)
           obtain ⟨⟨z0, z1, z2⟩, z3, z4, z5⟩ := cells3 ((HBL.out.block (w.heap.size + 1) (by simp)).trans (heap2 _ _ _))
           go_wp2_with fail
           refine hK9.out _ _ (HY.out _ HC10.out) (fun hHeld => ?_)
           clear hK9 K9
           try simp only [Act.put, put_a]
           refine wpAnyH_ready (rs := [13]) (by kernel_rfl) (by simp) ?_
           refine (AllReadyH.cons rfl (fun K9 hK9 => ?_) AllReadyH.nil)
           go_simp
           refine hK9.out _ _ (by obtain ⟨u0, u1, u2⟩ := HY.out _ HC10.out; simp [World.cell?_setCell_other, hne1, u0, u1, u2]) (fun hHeld => ?_)
           clear hK9 K9
           try simp only [Act.put, put_a]
           refine wpAnyH_done (by kernel_rfl) ?_ _
           go_wp2_with fail
           refine bodyPost_ret (v := .agg #[.slice fa fl fc, .slice ba bl bc, .pointer m]) (by simp [results, Tryz.results99, go_sem, cell_set, z0, z1, z2]) rfl (row_close3 (k := 1) (B0 := w.heap.size + 1) (Nat.le_succ _) (Nat.le_refl _) (Nat.lt_succ_self _) (up (bel2 _ _ _) HBL.out) ?_ _ _ _)
           have hp := HRL.out
           rw [HE.out] at hp
           exact hp
         ·skip
          go_simp
          refine hK9.out _ _ (HY.out _ (up HC7.out (bel1 _ _))) (fun hHeld => ?_)
          clear hK9 K9
          try simp only [Act.put, put_a]
          refine wpAnyH_ready (rs := [8]) (by kernel_rfl) (by simp) ?_
          refine (AllReadyH.cons rfl (fun K9 hK9 => ?_) AllReadyH.nil)
          go_simp
          go_at_call 150
          refine (behind_any (S := S₁) n trigW ⟨[exprP E], some (exprP E), []⟩ _ _ (by simp [trigW]) (fun b e => by have := HS1.out b e; have := HZ7.out; first | omega | (simp; omega)) (HR7.out.below (bel1 _ _)) (by simp) (by simp)).mono ?_
          rintro e w8 ⟨vf8, vi8, ve8, rfl, hx, hB⟩
          obtain ⟨K8, c8, K8', c8', rfl, rfl, rfl⟩ := hx.vals1 rfl
          have hb := up (bel1 _ _) hB
          have HC8 := Lib.hid (up HC7.out hb)
          have HZ8 := Lib.hid (Nat.le_trans HZ7.out hb.size)
          have He_8 := Lib.hid (He_7.out.below hb)
          have Hr2_8 := Lib.hid (Hr2_7.out.below hb)
          have HR8 := Lib.hid hx
          have HMl2_8 := Lib.hid ((hB.block _ (lt_of_block (hp1 _ _))).trans (hp1 _ _))
          have HB_l2 := Lib.hid (show w.heap.size + 1 + 1 ≤ w7.heap.size by have := HZ7.out; omega)
          clear hb hx hB
          go_wp2_with fail
          refine hK9.out _ _ (HY.out _ HC8.out) (fun hHeld => ?_)
          clear hK9 K9
          try simp only [Act.put, put_a]
          refine wpAnyH_ready (rs := [9]) (by kernel_rfl) (by simp) ?_
          refine (AllReadyH.cons rfl (fun K9 hK9 => ?_) AllReadyH.nil)
          go_simp
          go_at_call 93
          refine (any_any (S := S₁) n _ _ _ _ _ (behindP trigW ⟨[exprP E], some (exprP E), []⟩) _ (fun b e => by have := HS1.out b e; have := HZ8.out; first | omega | (simp; omega)) (Hr2_8.out.below (Below.refl _ _)) (HR8.out.below (Below.refl _ _))).mono ?_
          rintro e w9 ⟨v9, rfl, hx, hB⟩
          have hb := up (Below.refl _ _) hB
          have HC9 := Lib.hid (up HC8.out hb)
          have He_9 := Lib.hid (He_8.out.below hb)
          have HR9 := Lib.hid hx
          have HMl2_9 := Lib.hid ((hb.block _ (lt_of_block HMl2_8.out)).trans HMl2_8.out)
          clear hb hx hB
          go_wp2_with fail
          refine hK9.out _ _ (HY.out _ HC9.out) (fun hHeld => ?_)
          clear hK9 K9
          try simp only [Act.put, put_a]
          refine wpAnyH_ready (rs := [12]) (by kernel_rfl) (by simp) ?_
          refine (AllReadyH.cons rfl (fun K9 hK9 => ?_) AllReadyH.nil)
          go_simp
          go_at_call 147
          refine (end_any (S := S₁) n _ _ _ [exprP E] _ _ (HR9.out.below (Below.refl _ _)) (parts1 ((((Below.refl _ _) : Below w9.heap.size w9 _).block _ (lt_of_block HMl2_9.out)).trans HMl2_9.out) (fun e => absurd (HS1.out _ e) (by have := HB_l2.out; omega)) (He_9.out.below (Below.refl _ _)))).mono ?_
          rintro e w10 ⟨v10, rfl, hx, hB⟩
          obtain ⟨fa, fl, fc, ba, bl, bc, m, rfl⟩ := hx.vals
          have hb := up (Below.refl _ _) hB
          have HC10 := Lib.hid (up HC9.out hb)
          have HR10 := Lib.hid hx
          clear hb hx hB
          have HRL := HR10
          have HBL := Lib.hid (up HB2.out HC10.out)
          obtain ⟨⟨z0, z1, z2⟩, z3, z4, z5⟩ := cells3 ((HBL.out.block (w.heap.size + 1) (by simp)).trans (heap2 _ _ _))
          go_wp2_with fail
          refine hK9.out _ _ (HY.out _ HC10.out) (fun hHeld => ?_)
          clear hK9 K9
          try simp only [Act.put, put_a]
          refine wpAnyH_ready (rs := [13]) (by kernel_rfl) (by simp) ?_
          refine (AllReadyH.cons rfl (fun K9 hK9 => ?_) AllReadyH.nil)
          go_simp
          refine hK9.out _ _ (by obtain ⟨u0, u1, u2⟩ := HY.out _ HC10.out; simp [World.cell?_setCell_other, hne1, u0, u1, u2]) (fun hHeld => ?_)
          clear hK9 K9
          try simp only [Act.put, put_a]
          refine wpAnyH_done (by kernel_rfl) ?_ _
          go_wp2_with fail
          refine bodyPost_ret (v := .agg #[.slice fa fl fc, .slice ba bl bc, .pointer m]) (by simp [results, Tryz.results99, go_sem, cell_set, z0, z1, z2]) rfl (row_close3 (k := 1) (B0 := w.heap.size + 1) (Nat.le_succ _) (Nat.le_refl _) (Nat.lt_succ_self _) (up (bel2 _ _ _) HBL.out) ?_ _ _ _)
          have hp := HRL.out
          rw [HE.out] at hp
          exact hp
        ·skip
         go_simp
         refine hK9.out _ _ (HY.out _ (up HC6.out (bel1 _ _))) (fun hHeld => ?_)
         clear hK9 K9
         try simp only [Act.put, put_a]
         refine wpAnyH_ready (rs := [7]) (by kernel_rfl) (by simp) ?_
         refine (AllReadyH.cons rfl (fun K9 hK9 => ?_) AllReadyH.nil)
         go_simp
         go_at_call 97
         refine (some_any (S := S₁) n _ _ _ (exprP E) _ (fun b e => by have := HS1.out b e; have := HZ6.out; first | omega | (simp; omega)) ((He_6.out.below (bel1 _ _)).re (andFrom_re (Nat.le_refl _)))).mono ?_
         rintro e w7 ⟨v7, rfl, hx, hB⟩
         have hb := up (bel1 _ _) hB
         have HC7 := Lib.hid (up HC6.out hb)
         have HZ7 := Lib.hid (Nat.le_trans HZ6.out hb.size)
         have He_7 := Lib.hid (He_6.out.below hb)
         have Hr2_7 := Lib.hid (HR6.out.below hb)
         have HR7 := Lib.hid hx
         have HMl2_7 := Lib.hid ((hB.block _ (lt_of_block (hp1 _ _))).trans (hp1 _ _))
         have HB_l2 := Lib.hid (show w.heap.size + 1 + 1 ≤ w6.heap.size by have := HZ6.out; omega)
         clear hb hx hB
         go_wp2_with fail
         refine hK9.out _ _ (HY.out _ HC7.out) (fun hHeld => ?_)
         clear hK9 K9
         try simp only [Act.put, put_a]
         refine wpAnyH_ready (rs := [8]) (by kernel_rfl) (by simp) ?_
         refine (AllReadyH.cons rfl (fun K9 hK9 => ?_) AllReadyH.nil)
         go_simp
         go_at_call 150
         refine (behind_any (S := S₁) n trigW ⟨[exprP E], some (exprP E), []⟩ _ _ (by simp [trigW]) (fun b e => by have := HS1.out b e; have := HZ7.out; first | omega | (simp; omega)) (HR7.out.below (Below.refl _ _)) (by simp) (by simp)).mono ?_
         rintro e w8 ⟨vf8, vi8, ve8, rfl, hx, hB⟩
         obtain ⟨K8, c8, K8', c8', rfl, rfl, rfl⟩ := hx.vals1 rfl
         have hb := up (Below.refl _ _) hB
         have HC8 := Lib.hid (up HC7.out hb)
         have HZ8 := Lib.hid (Nat.le_trans HZ7.out hb.size)
         have He_8 := Lib.hid (He_7.out.below hb)
         have Hr2_8 := Lib.hid (Hr2_7.out.below hb)
         have HR8 := Lib.hid hx
         have HMl2_8 := Lib.hid ((hb.block _ (lt_of_block HMl2_7.out)).trans HMl2_7.out)
         clear hb hx hB
         go_wp2_with fail
         refine hK9.out _ _ (HY.out _ HC8.out) (fun hHeld => ?_)
         clear hK9 K9
         try simp only [Act.put, put_a]
         refine wpAnyH_ready (rs := [9]) (by kernel_rfl) (by simp) ?_
         refine (AllReadyH.cons rfl (fun K9 hK9 => ?_) AllReadyH.nil)
         go_simp
         go_at_call 93
         refine (any_any (S := S₁) n _ _ _ _ _ (behindP trigW ⟨[exprP E], some (exprP E), []⟩) _ (fun b e => by have := HS1.out b e; have := HZ8.out; first | omega | (simp; omega)) (Hr2_8.out.below (Below.refl _ _)) (HR8.out.below (Below.refl _ _))).mono ?_
         rintro e w9 ⟨v9, rfl, hx, hB⟩
         have hb := up (Below.refl _ _) hB
         have HC9 := Lib.hid (up HC8.out hb)
         have He_9 := Lib.hid (He_8.out.below hb)
         have HR9 := Lib.hid hx
         have HMl2_9 := Lib.hid ((hb.block _ (lt_of_block HMl2_8.out)).trans HMl2_8.out)
         clear hb hx hB
         go_wp2_with fail
         refine hK9.out _ _ (HY.out _ HC9.out) (fun hHeld => ?_)
         clear hK9 K9
         try simp only [Act.put, put_a]
         refine wpAnyH_ready (rs := [12]) (by kernel_rfl) (by simp) ?_
         refine (AllReadyH.cons rfl (fun K9 hK9 => ?_) AllReadyH.nil)
         go_simp
         go_at_call 147
         refine (end_any (S := S₁) n _ _ _ [exprP E] _ _ (HR9.out.below (Below.refl _ _)) (parts1 ((((Below.refl _ _) : Below w9.heap.size w9 _).block _ (lt_of_block HMl2_9.out)).trans HMl2_9.out) (fun e => absurd (HS1.out _ e) (by have := HB_l2.out; omega)) (He_9.out.below (Below.refl _ _)))).mono ?_
         rintro e w10 ⟨v10, rfl, hx, hB⟩
         obtain ⟨fa, fl, fc, ba, bl, bc, m, rfl⟩ := hx.vals
         have hb := up (Below.refl _ _) hB
         have HC10 := Lib.hid (up HC9.out hb)
         have HR10 := Lib.hid hx
         clear hb hx hB
         have HRL := HR10
         have HBL := Lib.hid (up HB2.out HC10.out)
         obtain ⟨⟨z0, z1, z2⟩, z3, z4, z5⟩ := cells3 ((HBL.out.block (w.heap.size + 1) (by simp)).trans (heap2 _ _ _))
         go_wp2_with fail
         refine hK9.out _ _ (HY.out _ HC10.out) (fun hHeld => ?_)
         clear hK9 K9
         try simp only [Act.put, put_a]
         refine wpAnyH_ready (rs := [13]) (by kernel_rfl) (by simp) ?_
         refine (AllReadyH.cons rfl (fun K9 hK9 => ?_) AllReadyH.nil)
         go_simp
         refine hK9.out _ _ (by obtain ⟨u0, u1, u2⟩ := HY.out _ HC10.out; simp [World.cell?_setCell_other, hne1, u0, u1, u2]) (fun hHeld => ?_)
         clear hK9 K9
         try simp only [Act.put, put_a]
         refine wpAnyH_done (by kernel_rfl) ?_ _
         go_wp2_with fail
         refine bodyPost_ret (v := .agg #[.slice fa fl fc, .slice ba bl bc, .pointer m]) (by simp [results, Tryz.results99, go_sem, cell_set, z0, z1, z2]) rfl (row_close3 (k := 1) (B0 := w.heap.size + 1) (Nat.le_succ _) (Nat.le_refl _) (Nat.lt_succ_self _) (up (bel2 _ _ _) HBL.out) ?_ _ _ _)
         have hp := HRL.out
         rw [HE.out] at hp
         exact hp
       ·skip
        go_simp
        refine hK9.out _ _ (HY.out _ (up HC5.out (bel2 _ _ _))) (fun hHeld => ?_)
        clear hK9 K9
        try simp only [Act.put, put_a]
        refine wpAnyH_ready (rs := [5]) (by kernel_rfl) (by simp) ?_
        refine (AllReadyH.cons rfl (fun K9 hK9 => ?_) AllReadyH.nil)
        go_simp
        go_at_call 82
        refine (just_any (S := S₁) n _ [(listP ⟨[typedP], some typedP, []⟩ differB)] _ _ (parts1 (hp2a _ _ _) (fun e => absurd (HS1.out _ e) (by have := HZ5.out; omega)) (HR5.out.below (bel2 _ _ _)))).mono ?_
        rintro e w6 ⟨v6, rfl, hx, hB⟩
        have hb := up (bel2 _ _ _) hB
        have HC6 := Lib.hid (up HC5.out hb)
        have HZ6 := Lib.hid (Nat.le_trans HZ5.out hb.size)
        have He_6 := Lib.hid (He_5.out.below hb)
        have HR6 := Lib.hid hx
        have HMl2_6 := Lib.hid ((hB.block _ (lt_of_block (hp2b _ _ _))).trans (hp2b _ _ _))
        have HB_l2 := Lib.hid (show w.heap.size + 1 + 1 ≤ w5.heap.size + 1 by have := HZ5.out; omega)
        clear hb hx hB
        go_wp2_with fail
        refine hK9.out _ _ (HY.out _ HC6.out) (fun hHeld => ?_)
        clear hK9 K9
        try simp only [Act.put, put_a]
        refine wpAnyH_ready (rs := [7]) (by kernel_rfl) (by simp) ?_
        refine (AllReadyH.cons rfl (fun K9 hK9 => ?_) AllReadyH.nil)
        go_simp
        go_at_call 97
        refine (some_any (S := S₁) n _ _ _ (exprP E) _ (fun b e => by have := HS1.out b e; have := HZ6.out; first | omega | (simp; omega)) ((He_6.out.below (Below.refl _ _)).re (andFrom_re (Nat.le_refl _)))).mono ?_
        rintro e w7 ⟨v7, rfl, hx, hB⟩
        have hb := up (Below.refl _ _) hB
        have HC7 := Lib.hid (up HC6.out hb)
        have HZ7 := Lib.hid (Nat.le_trans HZ6.out hb.size)
        have He_7 := Lib.hid (He_6.out.below hb)
        have Hr2_7 := Lib.hid (HR6.out.below hb)
        have HR7 := Lib.hid hx
        have HMl2_7 := Lib.hid ((hb.block _ (lt_of_block HMl2_6.out)).trans HMl2_6.out)
        clear hb hx hB
        go_wp2_with fail
        refine hK9.out _ _ (HY.out _ HC7.out) (fun hHeld => ?_)
        clear hK9 K9
        try simp only [Act.put, put_a]
        refine wpAnyH_ready (rs := [8]) (by kernel_rfl) (by simp) ?_
        refine (AllReadyH.cons rfl (fun K9 hK9 => ?_) AllReadyH.nil)
        go_simp
        go_at_call 150
        refine (behind_any (S := S₁) n trigW ⟨[exprP E], some (exprP E), []⟩ _ _ (by simp [trigW]) (fun b e => by have := HS1.out b e; have := HZ7.out; first | omega | (simp; omega)) (HR7.out.below (Below.refl _ _)) (by simp) (by simp)).mono ?_
        rintro e w8 ⟨vf8, vi8, ve8, rfl, hx, hB⟩
        obtain ⟨K8, c8, K8', c8', rfl, rfl, rfl⟩ := hx.vals1 rfl
        have hb := up (Below.refl _ _) hB
        have HC8 := Lib.hid (up HC7.out hb)
        have HZ8 := Lib.hid (Nat.le_trans HZ7.out hb.size)
        have He_8 := Lib.hid (He_7.out.below hb)
        have Hr2_8 := Lib.hid (Hr2_7.out.below hb)
        have HR8 := Lib.hid hx
        have HMl2_8 := Lib.hid ((hb.block _ (lt_of_block HMl2_7.out)).trans HMl2_7.out)
        clear hb hx hB
        go_wp2_with fail
        refine hK9.out _ _ (HY.out _ HC8.out) (fun hHeld => ?_)
        clear hK9 K9
        try simp only [Act.put, put_a]
        refine wpAnyH_ready (rs := [9]) (by kernel_rfl) (by simp) ?_
        refine (AllReadyH.cons rfl (fun K9 hK9 => ?_) AllReadyH.nil)
        go_simp
        go_at_call 93
        refine (any_any (S := S₁) n _ _ _ _ _ (behindP trigW ⟨[exprP E], some (exprP E), []⟩) _ (fun b e => by have := HS1.out b e; have := HZ8.out; first | omega | (simp; omega)) (Hr2_8.out.below (Below.refl _ _)) (HR8.out.below (Below.refl _ _))).mono ?_
        rintro e w9 ⟨v9, rfl, hx, hB⟩
        have hb := up (Below.refl _ _) hB
        have HC9 := Lib.hid (up HC8.out hb)
        have He_9 := Lib.hid (He_8.out.below hb)
        have HR9 := Lib.hid hx
        have HMl2_9 := Lib.hid ((hb.block _ (lt_of_block HMl2_8.out)).trans HMl2_8.out)
        clear hb hx hB
        go_wp2_with fail
        refine hK9.out _ _ (HY.out _ HC9.out) (fun hHeld => ?_)
        clear hK9 K9
        try simp only [Act.put, put_a]
        refine wpAnyH_ready (rs := [12]) (by kernel_rfl) (by simp) ?_
        refine (AllReadyH.cons rfl (fun K9 hK9 => ?_) AllReadyH.nil)
        go_simp
        go_at_call 147
        refine (end_any (S := S₁) n _ _ _ [exprP E] _ _ (HR9.out.below (Below.refl _ _)) (parts1 ((((Below.refl _ _) : Below w9.heap.size w9 _).block _ (lt_of_block HMl2_9.out)).trans HMl2_9.out) (fun e => absurd (HS1.out _ e) (by have := HB_l2.out; omega)) (He_9.out.below (Below.refl _ _)))).mono ?_
        rintro e w10 ⟨v10, rfl, hx, hB⟩
        obtain ⟨fa, fl, fc, ba, bl, bc, m, rfl⟩ := hx.vals
        have hb := up (Below.refl _ _) hB
        have HC10 := Lib.hid (up HC9.out hb)
        have HR10 := Lib.hid hx
        clear hb hx hB
        have HRL := HR10
        have HBL := Lib.hid (up HB2.out HC10.out)
        obtain ⟨⟨z0, z1, z2⟩, z3, z4, z5⟩ := cells3 ((HBL.out.block (w.heap.size + 1) (by simp)).trans (heap2 _ _ _))
        go_wp2_with fail
        refine hK9.out _ _ (HY.out _ HC10.out) (fun hHeld => ?_)
        clear hK9 K9
        try simp only [Act.put, put_a]
        refine wpAnyH_ready (rs := [13]) (by kernel_rfl) (by simp) ?_
        refine (AllReadyH.cons rfl (fun K9 hK9 => ?_) AllReadyH.nil)
        go_simp
        refine hK9.out _ _ (by obtain ⟨u0, u1, u2⟩ := HY.out _ HC10.out; simp [World.cell?_setCell_other, hne1, u0, u1, u2]) (fun hHeld => ?_)
        clear hK9 K9
        try simp only [Act.put, put_a]
        refine wpAnyH_done (by kernel_rfl) ?_ _
        go_wp2_with fail
        refine bodyPost_ret (v := .agg #[.slice fa fl fc, .slice ba bl bc, .pointer m]) (by simp [results, Tryz.results99, go_sem, cell_set, z0, z1, z2]) rfl (row_close3 (k := 1) (B0 := w.heap.size + 1) (Nat.le_succ _) (Nat.le_refl _) (Nat.lt_succ_self _) (up (bel2 _ _ _) HBL.out) ?_ _ _ _)
        have hp := HRL.out
        rw [HE.out] at hp
        exact hp
      ·skip
       go_simp
       refine hK9.out _ _ (HY.out _ (up HC5.out (bel1 _ _))) (fun hHeld => ?_)
       clear hK9 K9
       try simp only [Act.put, put_a]
       refine wpAnyH_ready (rs := [4]) (by kernel_rfl) (by simp) ?_
       refine (AllReadyH.cons rfl (fun K9 hK9 => ?_) AllReadyH.nil)
       go_simp
       refine hK9.out _ _ (HY.out _ (up HC5.out (bel2 _ _ _))) (fun hHeld => ?_)
       clear hK9 K9
       try simp only [Act.put, put_a]
       refine wpAnyH_ready (rs := [5]) (by kernel_rfl) (by simp) ?_
       refine (AllReadyH.cons rfl (fun K9 hK9 => ?_) AllReadyH.nil)
       go_simp
       go_at_call 82
       refine (just_any (S := S₁) n _ [(listP ⟨[typedP], some typedP, []⟩ differB)] _ _ (parts1 (hp2b _ _ _) (fun e => absurd (HS1.out _ e) (by have := HZ5.out; omega)) (HR5.out.below (bel2 _ _ _)))).mono ?_
       rintro e w6 ⟨v6, rfl, hx, hB⟩
       have hb := up (bel2 _ _ _) hB
       have HC6 := Lib.hid (up HC5.out hb)
       have HZ6 := Lib.hid (Nat.le_trans HZ5.out hb.size)
       have He_6 := Lib.hid (He_5.out.below hb)
       have HR6 := Lib.hid hx
       have HMl2_6 := Lib.hid ((hB.block _ (lt_of_block (hp2a _ _ _))).trans (hp2a _ _ _))
       have HB_l2 := Lib.hid (show w.heap.size + 1 + 1 ≤ w5.heap.size by have := HZ5.out; omega)
       clear hb hx hB
       go_wp2_with fail
       refine hK9.out _ _ (HY.out _ HC6.out) (fun hHeld => ?_)
       clear hK9 K9
       try simp only [Act.put, put_a]
       refine wpAnyH_ready (rs := [7]) (by kernel_rfl) (by simp) ?_
       refine (AllReadyH.cons rfl (fun K9 hK9 => ?_) AllReadyH.nil)
       go_simp
       go_at_call 97
       refine (some_any (S := S₁) n _ _ _ (exprP E) _ (fun b e => by have := HS1.out b e; have := HZ6.out; first | omega | (simp; omega)) ((He_6.out.below (Below.refl _ _)).re (andFrom_re (Nat.le_refl _)))).mono ?_
       rintro e w7 ⟨v7, rfl, hx, hB⟩
       have hb := up (Below.refl _ _) hB
       have HC7 := Lib.hid (up HC6.out hb)
       have HZ7 := Lib.hid (Nat.le_trans HZ6.out hb.size)
       have He_7 := Lib.hid (He_6.out.below hb)
       have Hr2_7 := Lib.hid (HR6.out.below hb)
       have HR7 := Lib.hid hx
       have HMl2_7 := Lib.hid ((hb.block _ (lt_of_block HMl2_6.out)).trans HMl2_6.out)
       clear hb hx hB
       go_wp2_with fail
       refine hK9.out _ _ (HY.out _ HC7.out) (fun hHeld => ?_)
       clear hK9 K9
       try simp only [Act.put, put_a]
       refine wpAnyH_ready (rs := [8]) (by kernel_rfl) (by simp) ?_
       refine (AllReadyH.cons rfl (fun K9 hK9 => ?_) AllReadyH.nil)
       go_simp
       go_at_call 150
       refine (behind_any (S := S₁) n trigW ⟨[exprP E], some (exprP E), []⟩ _ _ (by simp [trigW]) (fun b e => by have := HS1.out b e; have := HZ7.out; first | omega | (simp; omega)) (HR7.out.below (Below.refl _ _)) (by simp) (by simp)).mono ?_
       rintro e w8 ⟨vf8, vi8, ve8, rfl, hx, hB⟩
       obtain ⟨K8, c8, K8', c8', rfl, rfl, rfl⟩ := hx.vals1 rfl
       have hb := up (Below.refl _ _) hB
       have HC8 := Lib.hid (up HC7.out hb)
       have HZ8 := Lib.hid (Nat.le_trans HZ7.out hb.size)
       have He_8 := Lib.hid (He_7.out.below hb)
       have Hr2_8 := Lib.hid (Hr2_7.out.below hb)
       have HR8 := Lib.hid hx
       have HMl2_8 := Lib.hid ((hb.block _ (lt_of_block HMl2_7.out)).trans HMl2_7.out)
       clear hb hx hB
       go_wp2_with fail
       refine hK9.out _ _ (HY.out _ HC8.out) (fun hHeld => ?_)
       clear hK9 K9
       try simp only [Act.put, put_a]
       refine wpAnyH_ready (rs := [9]) (by kernel_rfl) (by simp) ?_
       refine (AllReadyH.cons rfl (fun K9 hK9 => ?_) AllReadyH.nil)
       go_simp
       go_at_call 93
       refine (any_any (S := S₁) n _ _ _ _ _ (behindP trigW ⟨[exprP E], some (exprP E), []⟩) _ (fun b e => by have := HS1.out b e; have := HZ8.out; first | omega | (simp; omega)) (Hr2_8.out.below (Below.refl _ _)) (HR8.out.below (Below.refl _ _))).mono ?_
       rintro e w9 ⟨v9, rfl, hx, hB⟩
       have hb := up (Below.refl _ _) hB
       have HC9 := Lib.hid (up HC8.out hb)
       have He_9 := Lib.hid (He_8.out.below hb)
       have HR9 := Lib.hid hx
       have HMl2_9 := Lib.hid ((hb.block _ (lt_of_block HMl2_8.out)).trans HMl2_8.out)
       clear hb hx hB
       go_wp2_with fail
       refine hK9.out _ _ (HY.out _ HC9.out) (fun hHeld => ?_)
       clear hK9 K9
       try simp only [Act.put, put_a]
       refine wpAnyH_ready (rs := [12]) (by kernel_rfl) (by simp) ?_
       refine (AllReadyH.cons rfl (fun K9 hK9 => ?_) AllReadyH.nil)
       go_simp
       go_at_call 147
       refine (end_any (S := S₁) n _ _ _ [exprP E] _ _ (HR9.out.below (Below.refl _ _)) (parts1 ((((Below.refl _ _) : Below w9.heap.size w9 _).block _ (lt_of_block HMl2_9.out)).trans HMl2_9.out) (fun e => absurd (HS1.out _ e) (by have := HB_l2.out; omega)) (He_9.out.below (Below.refl _ _)))).mono ?_
       rintro e w10 ⟨v10, rfl, hx, hB⟩
       obtain ⟨fa, fl, fc, ba, bl, bc, m, rfl⟩ := hx.vals
       have hb := up (Below.refl _ _) hB
       have HC10 := Lib.hid (up HC9.out hb)
       have HR10 := Lib.hid hx
       clear hb hx hB
       have HRL := HR10
       have HBL := Lib.hid (up HB2.out HC10.out)
       obtain ⟨⟨z0, z1, z2⟩, z3, z4, z5⟩ := cells3 ((HBL.out.block (w.heap.size + 1) (by simp)).trans (heap2 _ _ _))
       go_wp2_with fail
       refine hK9.out _ _ (HY.out _ HC10.out) (fun hHeld => ?_)
       clear hK9 K9
       try simp only [Act.put, put_a]
       refine wpAnyH_ready (rs := [13]) (by kernel_rfl) (by simp) ?_
       refine (AllReadyH.cons rfl (fun K9 hK9 => ?_) AllReadyH.nil)
       go_simp
       refine hK9.out _ _ (by obtain ⟨u0, u1, u2⟩ := HY.out _ HC10.out; simp [World.cell?_setCell_other, hne1, u0, u1, u2]) (fun hHeld => ?_)
       clear hK9 K9
       try simp only [Act.put, put_a]
       refine wpAnyH_done (by kernel_rfl) ?_ _
       go_wp2_with fail
       refine bodyPost_ret (v := .agg #[.slice fa fl fc, .slice ba bl bc, .pointer m]) (by simp [results, Tryz.results99, go_sem, cell_set, z0, z1, z2]) rfl (row_close3 (k := 1) (B0 := w.heap.size + 1) (Nat.le_succ _) (Nat.le_refl _) (Nat.lt_succ_self _) (up (bel2 _ _ _) HBL.out) ?_ _ _ _)
       have hp := HRL.out
       rw [HE.out] at hp
       exact hp
     ·skip
      go_simp
      refine hK9.out _ _ (HY.out _ (up HC4.out (bel2 _ _ _))) (fun hHeld => ?_)
      clear hK9 K9
      try simp only [Act.put, put_a]
      refine wpAnyH_ready (rs := [3]) (by kernel_rfl) (by simp) ?_
      refine (AllReadyH.cons rfl (fun K9 hK9 => ?_) AllReadyH.nil)
      go_simp
      go_at_call 94
      refine (aList_differ (S := S₁) n ⟨[typedP], some typedP, []⟩ _ _ _ _ (fun b e => by have := HS1.out b e; have := HZ4.out; first | omega | (simp; omega)) (HR4.out.below (bel2 _ _ _)) (by simp) (by simp) preD_typed ⟨lt_of_block (hp2a _ _ _), (fun e => absurd (HS1.out _ e) (by have := HZ4.out; omega)), cell_block (hp2a _ _ _) rfl⟩).mono ?_
      rintro e w5 ⟨vf5, vi5, ve5, rfl, hx, hB⟩
      obtain ⟨K5, c5, K5', c5', rfl, rfl, rfl⟩ := hx.vals1 rfl
      have hb := up (bel2 _ _ _) hB
      have HC5 := Lib.hid (up HC4.out hb)
      have HZ5 := Lib.hid (Nat.le_trans HZ4.out hb.size)
      have He_5 := Lib.hid (He_4.out.below hb)
      have HR5 := Lib.hid hx
      have HMl2_5 := Lib.hid ((hB.block _ (lt_of_block (hp2b _ _ _))).trans (hp2b _ _ _))
      have HB_l2 := Lib.hid (show w.heap.size + 1 + 1 ≤ w4.heap.size + 1 by have := HZ4.out; omega)
      clear hb hx hB
      go_wp2_with fail
      refine hK9.out _ _ (HY.out _ HC5.out) (fun hHeld => ?_)
      clear hK9 K9
      try simp only [Act.put, put_a]
      refine wpAnyH_ready (rs := [4]) (by kernel_rfl) (by simp) ?_
      refine (AllReadyH.cons rfl (fun K9 hK9 => ?_) AllReadyH.nil)
      go_simp
      refine hK9.out _ _ (HY.out _ (up HC5.out (bel1 _ _))) (fun hHeld => ?_)
      clear hK9 K9
      try simp only [Act.put, put_a]
      refine wpAnyH_ready (rs := [5]) (by kernel_rfl) (by simp) ?_
      refine (AllReadyH.cons rfl (fun K9 hK9 => ?_) AllReadyH.nil)
      go_simp
      go_at_call 82
      refine (just_any (S := S₁) n _ [(listP ⟨[typedP], some typedP, []⟩ differB)] _ _ (parts1 (hp1 _ _) (fun e => absurd (HS1.out _ e) (by have := HZ5.out; omega)) (HR5.out.below (bel1 _ _)))).mono ?_
      rintro e w6 ⟨v6, rfl, hx, hB⟩
      have hb := up (bel1 _ _) hB
      have HC6 := Lib.hid (up HC5.out hb)
      have HZ6 := Lib.hid (Nat.le_trans HZ5.out hb.size)
      have He_6 := Lib.hid (He_5.out.below hb)
      have HR6 := Lib.hid hx
      have HMl2_6 := Lib.hid ((hb.block _ (lt_of_block HMl2_5.out)).trans HMl2_5.out)
      clear hb hx hB
      go_wp2_with fail
      refine hK9.out _ _ (HY.out _ HC6.out) (fun hHeld => ?_)
      clear hK9 K9
      try simp only [Act.put, put_a]
      refine wpAnyH_ready (rs := [7]) (by kernel_rfl) (by simp) ?_
      refine (AllReadyH.cons rfl (fun K9 hK9 => ?_) AllReadyH.nil)
      go_simp
      go_at_call 97
      refine (some_any (S := S₁) n _ _ _ (exprP E) _ (fun b e => by have := HS1.out b e; have := HZ6.out; first | omega | (simp; omega)) ((He_6.out.below (Below.refl _ _)).re (andFrom_re (Nat.le_refl _)))).mono ?_
      rintro e w7 ⟨v7, rfl, hx, hB⟩
      have hb := up (Below.refl _ _) hB
      have HC7 := Lib.hid (up HC6.out hb)
      have HZ7 := Lib.hid (Nat.le_trans HZ6.out hb.size)
      have He_7 := Lib.hid (He_6.out.below hb)
      have Hr2_7 := Lib.hid (HR6.out.below hb)
      have HR7 := Lib.hid hx
      have HMl2_7 := Lib.hid ((hb.block _ (lt_of_block HMl2_6.out)).trans HMl2_6.out)
      clear hb hx hB
      go_wp2_with fail
      refine hK9.out _ _ (HY.out _ HC7.out) (fun hHeld => ?_)
      clear hK9 K9
      try simp only [Act.put, put_a]
      refine wpAnyH_ready (rs := [8]) (by kernel_rfl) (by simp) ?_
      refine (AllReadyH.cons rfl (fun K9 hK9 => ?_) AllReadyH.nil)
      go_simp
      go_at_call 150
      refine (behind_any (S := S₁) n trigW ⟨[exprP E], some (exprP E), []⟩ _ _ (by simp [trigW]) (fun b e => by have := HS1.out b e; have := HZ7.out; first | omega | (simp; omega)) (HR7.out.below (Below.refl _ _)) (by simp) (by simp)).mono ?_
      rintro e w8 ⟨vf8, vi8, ve8, rfl, hx, hB⟩
      obtain ⟨K8, c8, K8', c8', rfl, rfl, rfl⟩ := hx.vals1 rfl
      have hb := up (Below.refl _ _) hB
      have HC8 := Lib.hid (up HC7.out hb)
      have HZ8 := Lib.hid (Nat.le_trans HZ7.out hb.size)
      have He_8 := Lib.hid (He_7.out.below hb)
      have Hr2_8 := Lib.hid (Hr2_7.out.below hb)
      have HR8 := Lib.hid hx
      have HMl2_8 := Lib.hid ((hb.block _ (lt_of_block HMl2_7.out)).trans HMl2_7.out)
      clear hb hx hB
      go_wp2_with fail
      refine hK9.out _ _ (HY.out _ HC8.out) (fun hHeld => ?_)
      clear hK9 K9
      try simp only [Act.put, put_a]
      refine wpAnyH_ready (rs := [9]) (by kernel_rfl) (by simp) ?_
      refine (AllReadyH.cons rfl (fun K9 hK9 => ?_) AllReadyH.nil)
      go_simp
      go_at_call 93
      refine (any_any (S := S₁) n _ _ _ _ _ (behindP trigW ⟨[exprP E], some (exprP E), []⟩) _ (fun b e => by have := HS1.out b e; have := HZ8.out; first | omega | (simp; omega)) (Hr2_8.out.below (Below.refl _ _)) (HR8.out.below (Below.refl _ _))).mono ?_
      rintro e w9 ⟨v9, rfl, hx, hB⟩
      have hb := up (Below.refl _ _) hB
      have HC9 := Lib.hid (up HC8.out hb)
      have He_9 := Lib.hid (He_8.out.below hb)
      have HR9 := Lib.hid hx
      have HMl2_9 := Lib.hid ((hb.block _ (lt_of_block HMl2_8.out)).trans HMl2_8.out)
      clear hb hx hB
      go_wp2_with fail
      refine hK9.out _ _ (HY.out _ HC9.out) (fun hHeld => ?_)
      clear hK9 K9
      try simp only [Act.put, put_a]
      refine wpAnyH_ready (rs := [12]) (by kernel_rfl) (by simp) ?_
      refine (AllReadyH.cons rfl (fun K9 hK9 => ?_) AllReadyH.nil)
      go_simp
      go_at_call 147
      refine (end_any (S := S₁) n _ _ _ [exprP E] _ _ (HR9.out.below (Below.refl _ _)) (parts1 ((((Below.refl _ _) : Below w9.heap.size w9 _).block _ (lt_of_block HMl2_9.out)).trans HMl2_9.out) (fun e => absurd (HS1.out _ e) (by have := HB_l2.out; omega)) (He_9.out.below (Below.refl _ _)))).mono ?_
      rintro e w10 ⟨v10, rfl, hx, hB⟩
      obtain ⟨fa, fl, fc, ba, bl, bc, m, rfl⟩ := hx.vals
      have hb := up (Below.refl _ _) hB
      have HC10 := Lib.hid (up HC9.out hb)
      have HR10 := Lib.hid hx
      clear hb hx hB
      have HRL := HR10
      have HBL := Lib.hid (up HB2.out HC10.out)
      obtain ⟨⟨z0, z1, z2⟩, z3, z4, z5⟩ := cells3 ((HBL.out.block (w.heap.size + 1) (by simp)).trans (heap2 _ _ _))
      go_wp2_with fail
      refine hK9.out _ _ (HY.out _ HC10.out) (fun hHeld => ?_)
      clear hK9 K9
      try simp only [Act.put, put_a]
      refine wpAnyH_ready (rs := [13]) (by kernel_rfl) (by simp) ?_
      refine (AllReadyH.cons rfl (fun K9 hK9 => ?_) AllReadyH.nil)
      go_simp
      refine hK9.out _ _ (by obtain ⟨u0, u1, u2⟩ := HY.out _ HC10.out; simp [World.cell?_setCell_other, hne1, u0, u1, u2]) (fun hHeld => ?_)
      clear hK9 K9
      try simp only [Act.put, put_a]
      refine wpAnyH_done (by kernel_rfl) ?_ _
      go_wp2_with fail
      refine bodyPost_ret (v := .agg #[.slice fa fl fc, .slice ba bl bc, .pointer m]) (by simp [results, Tryz.results99, go_sem, cell_set, z0, z1, z2]) rfl (row_close3 (k := 1) (B0 := w.heap.size + 1) (Nat.le_succ _) (Nat.le_refl _) (Nat.lt_succ_self _) (up (bel2 _ _ _) HBL.out) ?_ _ _ _)
      have hp := HRL.out
      rw [HE.out] at hp
      exact hp
    ·skip
     go_simp
     refine hK9.out _ _ (HY.out _ (up HC4.out (bel1 _ _))) (fun hHeld => ?_)
     clear hK9 K9
     try simp only [Act.put, put_a]
     refine wpAnyH_ready (rs := [2]) (by kernel_rfl) (by simp) ?_
     refine (AllReadyH.cons rfl (fun K9 hK9 => ?_) AllReadyH.nil)
     go_simp
     refine hK9.out _ _ (HY.out _ (up HC4.out (bel2 _ _ _))) (fun hHeld => ?_)
     clear hK9 K9
     try simp only [Act.put, put_a]
     refine wpAnyH_ready (rs := [3]) (by kernel_rfl) (by simp) ?_
     refine (AllReadyH.cons rfl (fun K9 hK9 => ?_) AllReadyH.nil)
     go_simp
     go_at_call 94
     refine (aList_differ (S := S₁) n ⟨[typedP], some typedP, []⟩ _ _ _ _ (fun b e => by have := HS1.out b e; have := HZ4.out; first | omega | (simp; omega)) (HR4.out.below (bel2 _ _ _)) (by simp) (by simp) preD_typed ⟨lt_of_block (hp2b _ _ _), (fun e => absurd (HS1.out _ e) (by have := HZ4.out; omega)), cell_block (hp2b _ _ _) rfl⟩).mono ?_
     rintro e w5 ⟨vf5, vi5, ve5, rfl, hx, hB⟩
     obtain ⟨K5, c5, K5', c5', rfl, rfl, rfl⟩ := hx.vals1 rfl
     have hb := up (bel2 _ _ _) hB
     have HC5 := Lib.hid (up HC4.out hb)
     have HZ5 := Lib.hid (Nat.le_trans HZ4.out hb.size)
     have He_5 := Lib.hid (He_4.out.below hb)
     have HR5 := Lib.hid hx
     have HMl2_5 := Lib.hid ((hB.block _ (lt_of_block (hp2a _ _ _))).trans (hp2a _ _ _))
     have HB_l2 := Lib.hid (show w.heap.size + 1 + 1 ≤ w4.heap.size by have := HZ4.out; omega)
     clear hb hx hB
     go_wp2_with fail
     refine hK9.out _ _ (HY.out _ HC5.out) (fun hHeld => ?_)
     clear hK9 K9
     try simp only [Act.put, put_a]
     refine wpAnyH_ready (rs := [4]) (by kernel_rfl) (by simp) ?_
     refine (AllReadyH.cons rfl (fun K9 hK9 => ?_) AllReadyH.nil)
     go_simp
     refine hK9.out _ _ (HY.out _ (up HC5.out (bel1 _ _))) (fun hHeld => ?_)
     clear hK9 K9
     try simp only [Act.put, put_a]
     refine wpAnyH_ready (rs := [5]) (by kernel_rfl) (by simp) ?_
     refine (AllReadyH.cons rfl (fun K9 hK9 => ?_) AllReadyH.nil)
     go_simp
     go_at_call 82
     refine (just_any (S := S₁) n _ [(listP ⟨[typedP], some typedP, []⟩ differB)] _ _ (parts1 (hp1 _ _) (fun e => absurd (HS1.out _ e) (by have := HZ5.out; omega)) (HR5.out.below (bel1 _ _)))).mono ?_
     rintro e w6 ⟨v6, rfl, hx, hB⟩
     have hb := up (bel1 _ _) hB
     have HC6 := Lib.hid (up HC5.out hb)
     have HZ6 := Lib.hid (Nat.le_trans HZ5.out hb.size)
     have He_6 := Lib.hid (He_5.out.below hb)
     have HR6 := Lib.hid hx
     have HMl2_6 := Lib.hid ((hb.block _ (lt_of_block HMl2_5.out)).trans HMl2_5.out)
     clear hb hx hB
     go_wp2_with fail
     refine hK9.out _ _ (HY.out _ HC6.out) (fun hHeld => ?_)
     clear hK9 K9
     try simp only [Act.put, put_a]
     refine wpAnyH_ready (rs := [7]) (by kernel_rfl) (by simp) ?_
     refine (AllReadyH.cons rfl (fun K9 hK9 => ?_) AllReadyH.nil)
     go_simp
     go_at_call 97
     refine (some_any (S := S₁) n _ _ _ (exprP E) _ (fun b e => by have := HS1.out b e; have := HZ6.out; first | omega | (simp; omega)) ((He_6.out.below (Below.refl _ _)).re (andFrom_re (Nat.le_refl _)))).mono ?_
     rintro e w7 ⟨v7, rfl, hx, hB⟩
     have hb := up (Below.refl _ _) hB
     have HC7 := Lib.hid (up HC6.out hb)
     have HZ7 := Lib.hid (Nat.le_trans HZ6.out hb.size)
     have He_7 := Lib.hid (He_6.out.below hb)
     have Hr2_7 := Lib.hid (HR6.out.below hb)
     have HR7 := Lib.hid hx
     have HMl2_7 := Lib.hid ((hb.block _ (lt_of_block HMl2_6.out)).trans HMl2_6.out)
     clear hb hx hB
     go_wp2_with fail
     refine hK9.out _ _ (HY.out _ HC7.out) (fun hHeld => ?_)
     clear hK9 K9
     try simp only [Act.put, put_a]
     refine wpAnyH_ready (rs := [8]) (by kernel_rfl) (by simp) ?_
     refine (AllReadyH.cons rfl (fun K9 hK9 => ?_) AllReadyH.nil)
     go_simp
     go_at_call 150
     refine (behind_any (S := S₁) n trigW ⟨[exprP E], some (exprP E), []⟩ _ _ (by simp [trigW]) (fun b e => by have := HS1.out b e; have := HZ7.out; first | omega | (simp; omega)) (HR7.out.below (Below.refl _ _)) (by simp) (by simp)).mono ?_
     rintro e w8 ⟨vf8, vi8, ve8, rfl, hx, hB⟩
     obtain ⟨K8, c8, K8', c8', rfl, rfl, rfl⟩ := hx.vals1 rfl
     have hb := up (Below.refl _ _) hB
     have HC8 := Lib.hid (up HC7.out hb)
     have HZ8 := Lib.hid (Nat.le_trans HZ7.out hb.size)
     have He_8 := Lib.hid (He_7.out.below hb)
     have Hr2_8 := Lib.hid (Hr2_7.out.below hb)
     have HR8 := Lib.hid hx
     have HMl2_8 := Lib.hid ((hb.block _ (lt_of_block HMl2_7.out)).trans HMl2_7.out)
     clear hb hx hB
     go_wp2_with fail
     refine hK9.out _ _ (HY.out _ HC8.out) (fun hHeld => ?_)
     clear hK9 K9
     try simp only [Act.put, put_a]
     refine wpAnyH_ready (rs := [9]) (by kernel_rfl) (by simp) ?_
     refine (AllReadyH.cons rfl (fun K9 hK9 => ?_) AllReadyH.nil)
     go_simp
     go_at_call 93
     refine (any_any (S := S₁) n _ _ _ _ _ (behindP trigW ⟨[exprP E], some (exprP E), []⟩) _ (fun b e => by have := HS1.out b e; have := HZ8.out; first | omega | (simp; omega)) (Hr2_8.out.below (Below.refl _ _)) (HR8.out.below (Below.refl _ _))).mono ?_
     rintro e w9 ⟨v9, rfl, hx, hB⟩
     have hb := up (Below.refl _ _) hB
     have HC9 := Lib.hid (up HC8.out hb)
     have He_9 := Lib.hid (He_8.out.below hb)
     have HR9 := Lib.hid hx
     have HMl2_9 := Lib.hid ((hb.block _ (lt_of_block HMl2_8.out)).trans HMl2_8.out)
     clear hb hx hB
     go_wp2_with fail
     refine hK9.out _ _ (HY.out _ HC9.out) (fun hHeld => ?_)
     clear hK9 K9
     try simp only [Act.put, put_a]
     refine wpAnyH_ready (rs := [12]) (by kernel_rfl) (by simp) ?_
     refine (AllReadyH.cons rfl (fun K9 hK9 => ?_) AllReadyH.nil)
     go_simp
     go_at_call 147
     refine (end_any (S := S₁) n _ _ _ [exprP E] _ _ (HR9.out.below (Below.refl _ _)) (parts1 ((((Below.refl _ _) : Below w9.heap.size w9 _).block _ (lt_of_block HMl2_9.out)).trans HMl2_9.out) (fun e => absurd (HS1.out _ e) (by have := HB_l2.out; omega)) (He_9.out.below (Below.refl _ _)))).mono ?_
     rintro e w10 ⟨v10, rfl, hx, hB⟩
     obtain ⟨fa, fl, fc, ba, bl, bc, m, rfl⟩ := hx.vals
     have hb := up (Below.refl _ _) hB
     have HC10 := Lib.hid (up HC9.out hb)
     have HR10 := Lib.hid hx
     clear hb hx hB
     have HRL := HR10
     have HBL := Lib.hid (up HB2.out HC10.out)
     obtain ⟨⟨z0, z1, z2⟩, z3, z4, z5⟩ := cells3 ((HBL.out.block (w.heap.size + 1) (by simp)).trans (heap2 _ _ _))
     go_wp2_with fail
     refine hK9.out _ _ (HY.out _ HC10.out) (fun hHeld => ?_)
     clear hK9 K9
     try simp only [Act.put, put_a]
     refine wpAnyH_ready (rs := [13]) (by kernel_rfl) (by simp) ?_
     refine (AllReadyH.cons rfl (fun K9 hK9 => ?_) AllReadyH.nil)
     go_simp
     refine hK9.out _ _ (by obtain ⟨u0, u1, u2⟩ := HY.out _ HC10.out; simp [World.cell?_setCell_other, hne1, u0, u1, u2]) (fun hHeld => ?_)
     clear hK9 K9
     try simp only [Act.put, put_a]
     refine wpAnyH_done (by kernel_rfl) ?_ _
     go_wp2_with fail
     refine bodyPost_ret (v := .agg #[.slice fa fl fc, .slice ba bl bc, .pointer m]) (by simp [results, Tryz.results99, go_sem, cell_set, z0, z1, z2]) rfl (row_close3 (k := 1) (B0 := w.heap.size + 1) (Nat.le_succ _) (Nat.le_refl _) (Nat.lt_succ_self _) (up (bel2 _ _ _) HBL.out) ?_ _ _ _)
     have hp := HRL.out
     rw [HE.out] at hp
     exact hp
   ·skip
    go_simp
    refine hK9.out _ _ (HY.out _ (up HC3.out (bel1 _ _))) (fun hHeld => ?_)
    clear hK9 K9
    try simp only [Act.put, put_a]
    refine wpAnyH_ready (rs := [1, 11]) (by kernel_rfl) (by simp) ?_
    refine (AllReadyH.cons rfl (fun K9 hK9 => ?_) (AllReadyH.cons rfl (fun K9 hK9 => ?_) AllReadyH.nil))
    ·skip
     go_simp
     go_at_call 97
     refine (some_any (S := S₁) n _ _ _ typedP _ (fun b e => by have := HS1.out b e; have := HZ3.out; first | omega | (simp; omega)) ((HR3.out.below (bel1 _ _)).re (andFrom_re (Nat.le_refl _)))).mono ?_
     rintro e w4 ⟨v4, rfl, hx, hB⟩
     have hb := up (bel1 _ _) hB
     have HC4 := Lib.hid (up HC3.out hb)
     have HZ4 := Lib.hid (Nat.le_trans HZ3.out hb.size)
     have He_4 := Lib.hid (He_3.out.below hb)
     have HR4 := Lib.hid hx
     have HMd_4 := Lib.hid ((hB.block _ (lt_of_block (hp1 _ _))).trans (hp1 _ _))
     have HB_d := Lib.hid (show w.heap.size + 1 + 1 ≤ w3.heap.size by have := HZ3.out; omega)
     clear hb hx hB
     go_wp2_with fail
     refine hK9.out _ _ (HY.out _ HC4.out) (fun hHeld => ?_)
     clear hK9 K9
     try simp only [Act.put, put_a]
     refine wpAnyH_ready (rs := [3, 11]) (by kernel_rfl) (by simp) ?_
     refine (AllReadyH.cons rfl (fun K9 hK9 => ?_) (AllReadyH.cons rfl (fun K9 hK9 => ?_) AllReadyH.nil))
     ·skip
      go_simp
      go_at_call 94
      refine (aList_differ (S := S₁) n ⟨[typedP], some typedP, []⟩ _ _ _ _ (fun b e => by have := HS1.out b e; have := HZ4.out; first | omega | (simp; omega)) (HR4.out.below (Below.refl _ _)) (by simp) (by simp) preD_typed ⟨lt_of_block ((((Below.refl _ _) : Below w4.heap.size w4 _).block _ (lt_of_block HMd_4.out)).trans HMd_4.out), (fun e => absurd (HS1.out _ e) (by have := HB_d.out; omega)), cell_block ((((Below.refl _ _) : Below w4.heap.size w4 _).block _ (lt_of_block HMd_4.out)).trans HMd_4.out) rfl⟩).mono ?_
      rintro e w5 ⟨vf5, vi5, ve5, rfl, hx, hB⟩
      obtain ⟨K5, c5, K5', c5', rfl, rfl, rfl⟩ := hx.vals1 rfl
      have hb := up (Below.refl _ _) hB
      have HC5 := Lib.hid (up HC4.out hb)
      have HZ5 := Lib.hid (Nat.le_trans HZ4.out hb.size)
      have He_5 := Lib.hid (He_4.out.below hb)
      have HR5 := Lib.hid hx
      clear hb hx hB
      go_wp2_with fail
      refine hK9.out _ _ (HY.out _ HC5.out) (fun hHeld => ?_)
      clear hK9 K9
      try simp only [Act.put, put_a]
      refine wpAnyH_ready (rs := [4, 11]) (by kernel_rfl) (by simp) ?_
      refine (AllReadyH.cons rfl (fun K9 hK9 => ?_) (AllReadyH.cons rfl (fun K9 hK9 => ?_) AllReadyH.nil))
      ·skip
       go_simp
       refine hK9.out _ _ (HY.out _ (up HC5.out (bel1 _ _))) (fun hHeld => ?_)
       clear hK9 K9
       try simp only [Act.put, put_a]
       refine wpAnyH_ready (rs := [5, 11]) (by kernel_rfl) (by simp) ?_
       refine (AllReadyH.cons rfl (fun K9 hK9 => ?_) (AllReadyH.cons rfl (fun K9 hK9 => ?_) AllReadyH.nil))
       ·skip
        go_simp
        go_at_call 82
        refine (just_any (S := S₁) n _ [(listP ⟨[typedP], some typedP, []⟩ differB)] _ _ (parts1 (hp1 _ _) (fun e => absurd (HS1.out _ e) (by have := HZ5.out; omega)) (HR5.out.below (bel1 _ _)))).mono ?_
        rintro e w6 ⟨v6, rfl, hx, hB⟩
        have hb := up (bel1 _ _) hB
        have HC6 := Lib.hid (up HC5.out hb)
        have HZ6 := Lib.hid (Nat.le_trans HZ5.out hb.size)
        have He_6 := Lib.hid (He_5.out.below hb)
        have HR6 := Lib.hid hx
        clear hb hx hB
        go_wp2_with fail
        refine hK9.out _ _ (HY.out _ HC6.out) (fun hHeld => ?_)
        clear hK9 K9
        try simp only [Act.put, put_a]
        refine wpAnyH_ready (rs := [7, 11]) (by kernel_rfl) (by simp) ?_
        refine (AllReadyH.cons rfl (fun K9 hK9 => ?_) (AllReadyH.cons rfl (fun K9 hK9 => ?_) AllReadyH.nil))
        ·skip
         go_simp
         go_at_call 97
         refine (some_any (S := S₁) n _ _ _ (exprP E) _ (fun b e => by have := HS1.out b e; have := HZ6.out; first | omega | (simp; omega)) ((He_6.out.below (Below.refl _ _)).re (andFrom_re (Nat.le_refl _)))).mono ?_
         rintro e w7 ⟨v7, rfl, hx, hB⟩
         have hb := up (Below.refl _ _) hB
         have HC7 := Lib.hid (up HC6.out hb)
         have HZ7 := Lib.hid (Nat.le_trans HZ6.out hb.size)
         have He_7 := Lib.hid (He_6.out.below hb)
         have Hr2_7 := Lib.hid (HR6.out.below hb)
         have HR7 := Lib.hid hx
         clear hb hx hB
         go_wp2_with fail
         refine hK9.out _ _ (HY.out _ HC7.out) (fun hHeld => ?_)
         clear hK9 K9
         try simp only [Act.put, put_a]
         refine wpAnyH_ready (rs := [8, 11]) (by kernel_rfl) (by simp) ?_
         refine (AllReadyH.cons rfl (fun K9 hK9 => ?_) (AllReadyH.cons rfl (fun K9 hK9 => ?_) AllReadyH.nil))
         ·skip
          go_simp
          go_at_call 150
          refine (behind_any (S := S₁) n trigW ⟨[exprP E], some (exprP E), []⟩ _ _ (by simp [trigW]) (fun b e => by have := HS1.out b e; have := HZ7.out; first | omega | (simp; omega)) (HR7.out.below (Below.refl _ _)) (by simp) (by simp)).mono ?_
          rintro e w8 ⟨vf8, vi8, ve8, rfl, hx, hB⟩
          obtain ⟨K8, c8, K8', c8', rfl, rfl, rfl⟩ := hx.vals1 rfl
          have hb := up (Below.refl _ _) hB
          have HC8 := Lib.hid (up HC7.out hb)
          have HZ8 := Lib.hid (Nat.le_trans HZ7.out hb.size)
          have He_8 := Lib.hid (He_7.out.below hb)
          have Hr2_8 := Lib.hid (Hr2_7.out.below hb)
          have HR8 := Lib.hid hx
          clear hb hx hB
          go_wp2_with fail
          refine hK9.out _ _ (HY.out _ HC8.out) (fun hHeld => ?_)
          clear hK9 K9
          try simp only [Act.put, put_a]
          refine wpAnyH_ready (rs := [9, 11]) (by kernel_rfl) (by simp) ?_
          refine (AllReadyH.cons rfl (fun K9 hK9 => ?_) (AllReadyH.cons rfl (fun K9 hK9 => ?_) AllReadyH.nil))
          ·skip
           go_simp
           go_at_call 93
           refine (any_any (S := S₁) n _ _ _ _ _ (behindP trigW ⟨[exprP E], some (exprP E), []⟩) _ (fun b e => by have := HS1.out b e; have := HZ8.out; first | omega | (simp; omega)) (Hr2_8.out.below (Below.refl _ _)) (HR8.out.below (Below.refl _ _))).mono ?_
           rintro e w9 ⟨v9, rfl, hx, hB⟩
           have hb := up (Below.refl _ _) hB
           have HC9 := Lib.hid (up HC8.out hb)
           have HZ9 := Lib.hid (Nat.le_trans HZ8.out hb.size)
           have He_9 := Lib.hid (He_8.out.below hb)
           have HR9 := Lib.hid hx
           clear hb hx hB
           go_wp2_with fail
           refine hK9.out _ _ (HY.out _ HC9.out) (fun hHeld => ?_)
           clear hK9 K9
           try simp only [Act.put, put_a]
           refine wpAnyH_ready (rs := [11]) (by kernel_rfl) (by simp) ?_
           refine (AllReadyH.cons rfl (fun K9 hK9 => ?_) AllReadyH.nil)
           go_simp
           refine hK9.out _ _ (HY.out _ (up HC9.out (bel1 _ _))) (fun hHeld => ?_)
           clear hK9 K9
           try simp only [Act.put, put_a]
           refine wpAnyH_ready (rs := [12]) (by kernel_rfl) (by simp) ?_
           refine (AllReadyH.cons rfl (fun K9 hK9 => ?_) AllReadyH.nil)
           go_simp
           go_at_call 147
           refine (end_any (S := S₁) n _ _ _ [exprP E] _ _ (HR9.out.below (bel1 _ _)) (parts1 (hp1 _ _) (fun e => absurd (HS1.out _ e) (by have := HZ9.out; omega)) (He_9.out.below (bel1 _ _)))).mono ?_
           rintro e w10 ⟨v10, rfl, hx, hB⟩
           obtain ⟨fa, fl, fc, ba, bl, bc, m, rfl⟩ := hx.vals
           have hb := up (bel1 _ _) hB
           have HC10 := Lib.hid (up HC9.out hb)
           have HR10 := Lib.hid hx
           clear hb hx hB
           have HRL := HR10
           have HBL := Lib.hid (up HB2.out HC10.out)
           obtain ⟨⟨z0, z1, z2⟩, z3, z4, z5⟩ := cells3 ((HBL.out.block (w.heap.size + 1) (by simp)).trans (heap2 _ _ _))
           go_wp2_with fail
           refine hK9.out _ _ (HY.out _ HC10.out) (fun hHeld => ?_)
           clear hK9 K9
           try simp only [Act.put, put_a]
           refine wpAnyH_ready (rs := [13]) (by kernel_rfl) (by simp) ?_
           refine (AllReadyH.cons rfl (fun K9 hK9 => ?_) AllReadyH.nil)
           go_simp
           refine hK9.out _ _ (by obtain ⟨u0, u1, u2⟩ := HY.out _ HC10.out; simp [World.cell?_setCell_other, hne1, u0, u1, u2]) (fun hHeld => ?_)
           clear hK9 K9
           try simp only [Act.put, put_a]
           refine wpAnyH_done (by kernel_rfl) ?_ _
           go_wp2_with fail
           refine bodyPost_ret (v := .agg #[.slice fa fl fc, .slice ba bl bc, .pointer m]) (by simp [results, Tryz.results99, go_sem, cell_set, z0, z1, z2]) rfl (row_close3 (k := 1) (B0 := w.heap.size + 1) (Nat.le_succ _) (Nat.le_refl _) (Nat.lt_succ_self _) (up (bel2 _ _ _) HBL.out) ?_ _ _ _)
           have hp := HRL.out
           rw [HE.out] at hp
           exact hp
          ·skip
           go_simp
           refine hK9.out _ _ (HY.out _ (up HC8.out (bel1 _ _))) (fun hHeld => ?_)
           clear hK9 K9
           try simp only [Act.put, put_a]
           refine wpAnyH_ready (rs := [9]) (by kernel_rfl) (by simp) ?_
           refine (AllReadyH.cons rfl (fun K9 hK9 => ?_) AllReadyH.nil)
           go_simp
           go_at_call 93
           refine (any_any (S := S₁) n _ _ _ _ _ (behindP trigW ⟨[exprP E], some (exprP E), []⟩) _ (fun b e => by have := HS1.out b e; have := HZ8.out; first | omega | (simp; omega)) (Hr2_8.out.below (bel1 _ _)) (HR8.out.below (bel1 _ _))).mono ?_
           rintro e w9 ⟨v9, rfl, hx, hB⟩
           have hb := up (bel1 _ _) hB
           have HC9 := Lib.hid (up HC8.out hb)
           have He_9 := Lib.hid (He_8.out.below hb)
           have HR9 := Lib.hid hx
           have HMl2_9 := Lib.hid ((hB.block _ (lt_of_block (hp1 _ _))).trans (hp1 _ _))
           have HB_l2 := Lib.hid (show w.heap.size + 1 + 1 ≤ w8.heap.size by have := HZ8.out; omega)
           clear hb hx hB
           go_wp2_with fail
           refine hK9.out _ _ (HY.out _ HC9.out) (fun hHeld => ?_)
           clear hK9 K9
           try simp only [Act.put, put_a]
           refine wpAnyH_ready (rs := [12]) (by kernel_rfl) (by simp) ?_
           refine (AllReadyH.cons rfl (fun K9 hK9 => ?_) AllReadyH.nil)
           go_simp
           go_at_call 147
           refine (end_any (S := S₁) n _ _ _ [exprP E] _ _ (HR9.out.below (Below.refl _ _)) (parts1 ((((Below.refl _ _) : Below w9.heap.size w9 _).block _ (lt_of_block HMl2_9.out)).trans HMl2_9.out) (fun e => absurd (HS1.out _ e) (by have := HB_l2.out; omega)) (He_9.out.below (Below.refl _ _)))).mono ?_
           rintro e w10 ⟨v10, rfl, hx, hB⟩
           obtain ⟨fa, fl, fc, ba, bl, bc, m, rfl⟩ := hx.vals
           have hb := up (Below.refl _ _) hB
           have HC10 := Lib.hid (up HC9.out hb)
           have HR10 := Lib.hid hx
           clear hb hx hB
           have HRL := HR10
           have HBL := Lib.hid (up HB2.out HC10.out)
           obtain ⟨⟨z0, z1, z2⟩, z3, z4, z5⟩ := cells3 ((HBL.out.block (w.heap.size + 1) (by simp)).trans (heap2 _ _ _))
           go_wp2_with fail
           refine hK9.out _ _ (HY.out _ HC10.out) (fun hHeld => ?_)
           clear hK9 K9
           try simp only [Act.put, put_a]
           refine wpAnyH_ready (rs := [13]) (by kernel_rfl) (by simp) ?_
           refine (AllReadyH.cons rfl (fun K9 hK9 => ?_) AllReadyH.nil)
           go_simp
           refine hK9.out _ _ (by obtain ⟨u0, u1, u2⟩ := HY.out _ HC10.out; simp [World.cell?_setCell_other, hne1, u0, u1, u2]) (fun hHeld => ?_)
           clear hK9 K9
           try simp only [Act.put, put_a]
           refine wpAnyH_done (by kernel_rfl) ?_ _
           go_wp2_with fail
           refine bodyPost_ret (v := .agg #[.slice fa fl fc, .slice ba bl bc, .pointer m]) (by simp [results, Tryz.results99, go_sem, cell_set, z0, z1, z2]) rfl (row_close3 (k := 1) (B0 := w.heap.size + 1) (Nat.le_succ _) (Nat.le_refl _) (Nat.lt_succ_self _) (up (bel2 _ _ _) HBL.out) ?_ _ _ _)
           have hp := HRL.out
           rw [HE.out] at hp
           exact hp
         ·skip
          go_simp
          refine hK9.out _ _ (HY.out _ (up HC7.out (bel1 _ _))) (fun hHeld => ?_)
          clear hK9 K9
          try simp only [Act.put, put_a]
          refine wpAnyH_ready (rs := [8]) (by kernel_rfl) (by simp) ?_
          refine (AllReadyH.cons rfl (fun K9 hK9 => ?_) AllReadyH.nil)
          go_simp
          go_at_call 150
          refine (behind_any (S := S₁) n trigW ⟨[exprP E], some (exprP E), []⟩ _ _ (by simp [trigW]) (fun b e => by have := HS1.out b e; have := HZ7.out; first | omega | (simp; omega)) (HR7.out.below (bel1 _ _)) (by simp) (by simp)).mono ?_
          rintro e w8 ⟨vf8, vi8, ve8, rfl, hx, hB⟩
          obtain ⟨K8, c8, K8', c8', rfl, rfl, rfl⟩ := hx.vals1 rfl
          have hb := up (bel1 _ _) hB
          have HC8 := Lib.hid (up HC7.out hb)
          have HZ8 := Lib.hid (Nat.le_trans HZ7.out hb.size)
          have He_8 := Lib.hid (He_7.out.below hb)
          have Hr2_8 := Lib.hid (Hr2_7.out.below hb)
          have HR8 := Lib.hid hx
          have HMl2_8 := Lib.hid ((hB.block _ (lt_of_block (hp1 _ _))).trans (hp1 _ _))
          have HB_l2 := Lib.hid (show w.heap.size + 1 + 1 ≤ w7.heap.size by have := HZ7.out; omega)
          clear hb hx hB
          go_wp2_with fail
          refine hK9.out _ _ (HY.out _ HC8.out) (fun hHeld => ?_)
          clear hK9 K9
          try simp only [Act.put, put_a]
          refine wpAnyH_ready (rs := [9]) (by kernel_rfl) (by simp) ?_
          refine (AllReadyH.cons rfl (fun K9 hK9 => ?_) AllReadyH.nil)
          go_simp
          go_at_call 93
          refine (any_any (S := S₁) n _ _ _ _ _ (behindP trigW ⟨[exprP E], some (exprP E), []⟩) _ (fun b e => by have := HS1.out b e; have := HZ8.out; first | omega | (simp; omega)) (Hr2_8.out.below (Below.refl _ _)) (HR8.out.below (Below.refl _ _))).mono ?_
          rintro e w9 ⟨v9, rfl, hx, hB⟩
          have hb := up (Below.refl _ _) hB
          have HC9 := Lib.hid (up HC8.out hb)
          have He_9 := Lib.hid (He_8.out.below hb)
          have HR9 := Lib.hid hx
          have HMl2_9 := Lib.hid ((hb.block _ (lt_of_block HMl2_8.out)).trans HMl2_8.out)
          clear hb hx hB
          go_wp2_with fail
          refine hK9.out _ _ (HY.out _ HC9.out) (fun hHeld => ?_)
          clear hK9 K9
          try simp only [Act.put, put_a]
          refine wpAnyH_ready (rs := [12]) (by kernel_rfl) (by simp) ?_
          refine (AllReadyH.cons rfl (fun K9 hK9 => ?_) AllReadyH.nil)
          go_simp
          go_at_call 147
          refine (end_any (S := S₁) n _ _ _ [exprP E] _ _ (HR9.out.below (Below.refl _ _)) (parts1 ((((Below.refl _ _) : Below w9.heap.size w9 _).block _ (lt_of_block HMl2_9.out)).trans HMl2_9.out) (fun e => absurd (HS1.out _ e) (by have := HB_l2.out; omega)) (He_9.out.below (Below.refl _ _)))).mono ?_
          rintro e w10 ⟨v10, rfl, hx, hB⟩
          obtain ⟨fa, fl, fc, ba, bl, bc, m, rfl⟩ := hx.vals
          have hb := up (Below.refl _ _) hB
          have HC10 := Lib.hid (up HC9.out hb)
          have HR10 := Lib.hid hx
          clear hb hx hB
          have HRL := HR10
          have HBL := Lib.hid (up HB2.out HC10.out)
          obtain ⟨⟨z0, z1, z2⟩, z3, z4, z5⟩ := cells3 ((HBL.out.block (w.heap.size + 1) (by simp)).trans (heap2 _ _ _))
          go_wp2_with fail
          refine hK9.out _ _ (HY.out _ HC10.out) (fun hHeld => ?_)
          clear hK9 K9
          try simp only [Act.put, put_a]
          refine wpAnyH_ready (rs := [13]) (by kernel_rfl) (by simp) ?_
          refine (AllReadyH.cons rfl (fun K9 hK9 => ?_) AllReadyH.nil)
          go_simp
          refine hK9.out _ _ (by obtain ⟨u0, u1, u2⟩ := HY.out _ HC10.out; simp [World.cell?_setCell_other, hne1, u0, u1, u2]) (fun hHeld => ?_)
          clear hK9 K9
          try simp only [Act.put, put_a]
          refine wpAnyH_done (by kernel_rfl) ?_ _
          go_wp2_with fail
          refine bodyPost_ret (v := .agg #[.slice fa fl fc, .slice ba bl bc, .pointer m]) (by simp [results, Tryz.results99, go_sem, cell_set, z0, z1, z2]) rfl (row_close3 (k := 1) (B0 := w.heap.size + 1) (Nat.le_succ _) (Nat.le_refl _) (Nat.lt_succ_self _) (up (bel2 _ _ _) HBL.out) ?_ _ _ _)
          have hp := HRL.out
          rw [HE.out] at hp
          exact hp
        ·skip
         go_simp
         refine hK9.out _ _ (HY.out _ (up HC6.out (bel1 _ _))) (fun hHeld => ?_)
         clear hK9 K9
         try simp only [Act.put, put_a]
         refine wpAnyH_ready (rs := [7]) (by kernel_rfl) (by simp) ?_
         refine (AllReadyH.cons rfl (fun K9 hK9 => ?_) AllReadyH.nil)
         go_simp
         go_at_call 97
         refine (some_any (S := S₁) n _ _ _ (exprP E) _ (fun b e => by have := HS1.out b e; have := HZ6.out; first | omega | (simp; omega)) ((He_6.out.below (bel1 _ _)).re (andFrom_re (Nat.le_refl _)))).mono ?_
         rintro e w7 ⟨v7, rfl, hx, hB⟩
         have hb := up (bel1 _ _) hB
         have HC7 := Lib.hid (up HC6.out hb)
         have HZ7 := Lib.hid (Nat.le_trans HZ6.out hb.size)
         have He_7 := Lib.hid (He_6.out.below hb)
         have Hr2_7 := Lib.hid (HR6.out.below hb)
         have HR7 := Lib.hid hx
         have HMl2_7 := Lib.hid ((hB.block _ (lt_of_block (hp1 _ _))).trans (hp1 _ _))
         have HB_l2 := Lib.hid (show w.heap.size + 1 + 1 ≤ w6.heap.size by have := HZ6.out; omega)
         clear hb hx hB
         go_wp2_with fail
         refine hK9.out _ _ (HY.out _ HC7.out) (fun hHeld => ?_)
         clear hK9 K9
         try simp only [Act.put, put_a]
         refine wpAnyH_ready (rs := [8]) (by kernel_rfl) (by simp) ?_
         refine (AllReadyH.cons rfl (fun K9 hK9 => ?_) AllReadyH.nil)
         go_simp
         go_at_call 150
         refine (behind_any (S := S₁) n trigW ⟨[exprP E], some (exprP E), []⟩ _ _ (by simp [trigW]) (fun b e => by have := HS1.out b e; have := HZ7.out; first | omega | (simp; omega)) (HR7.out.below (Below.refl _ _)) (by simp) (by simp)).mono ?_
         rintro e w8 ⟨vf8, vi8, ve8, rfl, hx, hB⟩
         obtain ⟨K8, c8, K8', c8', rfl, rfl, rfl⟩ := hx.vals1 rfl
         have hb := up (Below.refl _ _) hB
         have HC8 := Lib.hid (up HC7.out hb)
         have HZ8 := Lib.hid (Nat.le_trans HZ7.out hb.size)
         have He_8 := Lib.hid (He_7.out.below hb)
         have Hr2_8 := Lib.hid (Hr2_7.out.below hb)
         have HR8 := Lib.hid hx
         have HMl2_8 := Lib.hid ((hb.block _ (lt_of_block HMl2_7.out)).trans HMl2_7.out)
         clear hb hx hB
         go_wp2_with fail
         refine hK9.out _ _ (HY.out _ HC8.out) (fun hHeld => ?_)
         clear hK9 K9
         try simp only [Act.put, put_a]
         refine wpAnyH_ready (rs := [9]) (by kernel_rfl) (by simp) ?_
         refine (AllReadyH.cons rfl (fun K9 hK9 => ?_) AllReadyH.nil)
         go_simp
         go_at_call 93
         refine (any_any (S := S₁) n _ _ _ _ _ (behindP trigW ⟨[exprP E], some (exprP E), []⟩) _ (fun b e => by have := HS1.out b e; have := HZ8.out; first | omega | (simp; omega)) (Hr2_8.out.below (Below.refl _ _)) (HR8.out.below (Below.refl _ _))).mono ?_
         rintro e w9 ⟨v9, rfl, hx, hB⟩
         have hb := up (Below.refl _ _) hB
         have HC9 := Lib.hid (up HC8.out hb)
         have He_9 := Lib.hid (He_8.out.below hb)
         have HR9 := Lib.hid hx
         have HMl2_9 := Lib.hid ((hb.block _ (lt_of_block HMl2_8.out)).trans HMl2_8.out)
         clear hb hx hB
         go_wp2_with fail
         refine hK9.out _ _ (HY.out _ HC9.out) (fun hHeld => ?_)
         clear hK9 K9
         try simp only [Act.put, put_a]
         refine wpAnyH_ready (rs := [12]) (by kernel_rfl) (by simp) ?_
         refine (AllReadyH.cons rfl (fun K9 hK9 => ?_) AllReadyH.nil)
         go_simp
         go_at_call 147
         refine (end_any (S := S₁) n _ _ _ [exprP E] _ _ (HR9.out.below (Below.refl _ _)) (parts1 ((((Below.refl _ _) : Below w9.heap.size w9 _).block _ (lt_of_block HMl2_9.out)).trans HMl2_9.out) (fun e => absurd (HS1.out _ e) (by have := HB_l2.out; omega)) (He_9.out.below (Below.refl _ _)))).mono ?_
         rintro e w10 ⟨v10, rfl, hx, hB⟩
         obtain ⟨fa, fl, fc, ba, bl, bc, m, rfl⟩ := hx.vals
         have hb := up (Below.refl _ _) hB
         have HC10 := Lib.hid (up HC9.out hb)
         have HR10 := Lib.hid hx
         clear hb hx hB
         have HRL := HR10
         have HBL := Lib.hid (up HB2.out HC10.out)
         obtain ⟨⟨z0, z1, z2⟩, z3, z4, z5⟩ := cells3 ((HBL.out.block (w.heap.size + 1) (by simp)).trans (heap2 _ _ _))
         go_wp2_with fail
         refine hK9.out _ _ (HY.out _ HC10.out) (fun hHeld => ?_)
         clear hK9 K9
         try simp only [Act.put, put_a]
         refine wpAnyH_ready (rs := [13]) (by kernel_rfl) (by simp) ?_
         refine (AllReadyH.cons rfl (fun K9 hK9 => ?_) AllReadyH.nil)
         go_simp
         refine hK9.out _ _ (by obtain ⟨u0, u1, u2⟩ := HY.out _ HC10.out; simp [World.cell?_setCell_other, hne1, u0, u1, u2]) (fun hHeld => ?_)
         clear hK9 K9
         try simp only [Act.put, put_a]
         refine wpAnyH_done (by kernel_rfl) ?_ _
         go_wp2_with fail
         refine bodyPost_ret (v := .agg #[.slice fa fl fc, .slice ba bl bc, .pointer m]) (by simp [results, Tryz.results99, go_sem, cell_set, z0, z1, z2]) rfl (row_close3 (k := 1) (B0 := w.heap.size + 1) (Nat.le_succ _) (Nat.le_refl _) (Nat.lt_succ_self _) (up (bel2 _ _ _) HBL.out) ?_ _ _ _)
         have hp := HRL.out
         rw [HE.out] at hp
         exact hp
       ·skip
        go_simp
        refine hK9.out _ _ (HY.out _ (up HC5.out (bel2 _ _ _))) (fun hHeld => ?_)
        clear hK9 K9
        try simp only [Act.put, put_a]
        refine wpAnyH_ready (rs := [5]) (by kernel_rfl) (by simp) ?_
        refine (AllReadyH.cons rfl (fun K9 hK9 => ?_) AllReadyH.nil)
        go_simp
        go_at_call 82
        refine (just_any (S := S₁) n _ [(listP ⟨[typedP], some typedP, []⟩ differB)] _ _ (parts1 (hp2a _ _ _) (fun e => absurd (HS1.out _ e) (by have := HZ5.out; omega)) (HR5.out.below (bel2 _ _ _)))).mono ?_
        rintro e w6 ⟨v6, rfl, hx, hB⟩
        have hb := up (bel2 _ _ _) hB
        have HC6 := Lib.hid (up HC5.out hb)
        have HZ6 := Lib.hid (Nat.le_trans HZ5.out hb.size)
        have He_6 := Lib.hid (He_5.out.below hb)
        have HR6 := Lib.hid hx
        have HMl2_6 := Lib.hid ((hB.block _ (lt_of_block (hp2b _ _ _))).trans (hp2b _ _ _))
        have HB_l2 := Lib.hid (show w.heap.size + 1 + 1 ≤ w5.heap.size + 1 by have := HZ5.out; omega)
        clear hb hx hB
        go_wp2_with fail
        refine hK9.out _ _ (HY.out _ HC6.out) (fun hHeld => ?_)
        clear hK9 K9
        try simp only [Act.put, put_a]
        refine wpAnyH_ready (rs := [7]) (by kernel_rfl) (by simp) ?_
        refine (AllReadyH.cons rfl (fun K9 hK9 => ?_) AllReadyH.nil)
        go_simp
        go_at_call 97
        refine (some_any (S := S₁) n _ _ _ (exprP E) _ (fun b e => by have := HS1.out b e; have := HZ6.out; first | omega | (simp; omega)) ((He_6.out.below (Below.refl _ _)).re (andFrom_re (Nat.le_refl _)))).mono ?_
        rintro e w7 ⟨v7, rfl, hx, hB⟩
        have hb := up (Below.refl _ _) hB
        have HC7 := Lib.hid (up HC6.out hb)
        have HZ7 := Lib.hid (Nat.le_trans HZ6.out hb.size)
        have He_7 := Lib.hid (He_6.out.below hb)
        have Hr2_7 := Lib.hid (HR6.out.below hb)
        have HR7 := Lib.hid hx
        have HMl2_7 := Lib.hid ((hb.block _ (lt_of_block HMl2_6.out)).trans HMl2_6.out)
        clear hb hx hB
        go_wp2_with fail
        refine hK9.out _ _ (HY.out _ HC7.out) (fun hHeld => ?_)
        clear hK9 K9
        try simp only [Act.put, put_a]
        refine wpAnyH_ready (rs := [8]) (by kernel_rfl) (by simp) ?_
        refine (AllReadyH.cons rfl (fun K9 hK9 => ?_) AllReadyH.nil)
        go_simp
        go_at_call 150
        refine (behind_any (S := S₁) n trigW ⟨[exprP E], some (exprP E), []⟩ _ _ (by simp [trigW]) (fun b e => by have := HS1.out b e; have := HZ7.out; first | omega | (simp; omega)) (HR7.out.below (Below.refl _ _)) (by simp) (by simp)).mono ?_
        rintro e w8 ⟨vf8, vi8, ve8, rfl, hx, hB⟩
        obtain ⟨K8, c8, K8', c8', rfl, rfl, rfl⟩ := hx.vals1 rfl
        have hb := up (Below.refl _ _) hB
        have HC8 := Lib.hid (up HC7.out hb)
        have HZ8 := Lib.hid (Nat.le_trans HZ7.out hb.size)
        have He_8 := Lib.hid (He_7.out.below hb)
        have Hr2_8 := Lib.hid (Hr2_7.out.below hb)
        have HR8 := Lib.hid hx
        have HMl2_8 := Lib.hid ((hb.block _ (lt_of_block HMl2_7.out)).trans HMl2_7.out)
        clear hb hx hB
        go_wp2_with fail
        refine hK9.out _ _ (HY.out _ HC8.out) (fun hHeld => ?_)
        clear hK9 K9
        try simp only [Act.put, put_a]
        refine wpAnyH_ready (rs := [9]) (by kernel_rfl) (by simp) ?_
        refine (AllReadyH.cons rfl (fun K9 hK9 => ?_) AllReadyH.nil)
        go_simp
        go_at_call 93
        refine (any_any (S := S₁) n _ _ _ _ _ (behindP trigW ⟨[exprP E], some (exprP E), []⟩) _ (fun b e => by have := HS1.out b e; have := HZ8.out; first | omega | (simp; omega)) (Hr2_8.out.below (Below.refl _ _)) (HR8.out.below (Below.refl _ _))).mono ?_
        rintro e w9 ⟨v9, rfl, hx, hB⟩
        have hb := up (Below.refl _ _) hB
        have HC9 := Lib.hid (up HC8.out hb)
        have He_9 := Lib.hid (He_8.out.below hb)
        have HR9 := Lib.hid hx
        have HMl2_9 := Lib.hid ((hb.block _ (lt_of_block HMl2_8.out)).trans HMl2_8.out)
        clear hb hx hB
        go_wp2_with fail
        refine hK9.out _ _ (HY.out _ HC9.out) (fun hHeld => ?_)
        clear hK9 K9
        try simp only [Act.put, put_a]
        refine wpAnyH_ready (rs := [12]) (by kernel_rfl) (by simp) ?_
        refine (AllReadyH.cons rfl (fun K9 hK9 => ?_) AllReadyH.nil)
        go_simp
        go_at_call 147
        refine (end_any (S := S₁) n _ _ _ [exprP E] _ _ (HR9.out.below (Below.refl _ _)) (parts1 ((((Below.refl _ _) : Below w9.heap.size w9 _).block _ (lt_of_block HMl2_9.out)).trans HMl2_9.out) (fun e => absurd (HS1.out _ e) (by have := HB_l2.out; omega)) (He_9.out.below (Below.refl _ _)))).mono ?_
        rintro e w10 ⟨v10, rfl, hx, hB⟩
        obtain ⟨fa, fl, fc, ba, bl, bc, m, rfl⟩ := hx.vals
        have hb := up (Below.refl _ _) hB
        have HC10 := Lib.hid (up HC9.out hb)
        have HR10 := Lib.hid hx
        clear hb hx hB
        have HRL := HR10
        have HBL := Lib.hid (up HB2.out HC10.out)
        obtain ⟨⟨z0, z1, z2⟩, z3, z4, z5⟩ := cells3 ((HBL.out.block (w.heap.size + 1) (by simp)).trans (heap2 _ _ _))
        go_wp2_with fail
        refine hK9.out _ _ (HY.out _ HC10.out) (fun hHeld => ?_)
        clear hK9 K9
        try simp only [Act.put, put_a]
        refine wpAnyH_ready (rs := [13]) (by kernel_rfl) (by simp) ?_
        refine (AllReadyH.cons rfl (fun K9 hK9 => ?_) AllReadyH.nil)
        go_simp
        refine hK9.out _ _ (by obtain ⟨u0, u1, u2⟩ := HY.out _ HC10.out; simp [World.cell?_setCell_other, hne1, u0, u1, u2]) (fun hHeld => ?_)
        clear hK9 K9
        try simp only [Act.put, put_a]
        refine wpAnyH_done (by kernel_rfl) ?_ _
        go_wp2_with fail
        refine bodyPost_ret (v := .agg #[.slice fa fl fc, .slice ba bl bc, .pointer m]) (by simp [results, Tryz.results99, go_sem, cell_set, z0, z1, z2]) rfl (row_close3 (k := 1) (B0 := w.heap.size + 1) (Nat.le_succ _) (Nat.le_refl _) (Nat.lt_succ_self _) (up (bel2 _ _ _) HBL.out) ?_ _ _ _)
        have hp := HRL.out
        rw [HE.out] at hp
        exact hp
      ·skip
       go_simp
       refine hK9.out _ _ (HY.out _ (up HC5.out (bel1 _ _))) (fun hHeld => ?_)
       clear hK9 K9
       try simp only [Act.put, put_a]
       refine wpAnyH_ready (rs := [4]) (by kernel_rfl) (by simp) ?_
       refine (AllReadyH.cons rfl (fun K9 hK9 => ?_) AllReadyH.nil)
       go_simp
       refine hK9.out _ _ (HY.out _ (up HC5.out (bel2 _ _ _))) (fun hHeld => ?_)
       clear hK9 K9
       try simp only [Act.put, put_a]
       refine wpAnyH_ready (rs := [5]) (by kernel_rfl) (by simp) ?_
       refine (AllReadyH.cons rfl (fun K9 hK9 => ?_) AllReadyH.nil)
       go_simp
       go_at_call 82
       refine (just_any (S := S₁) n _ [(listP ⟨[typedP], some typedP, []⟩ differB)] _ _ (parts1 (hp2b _ _ _) (fun e => absurd (HS1.out _ e) (by have := HZ5.out; omega)) (HR5.out.below (bel2 _ _ _)))).mono ?_
       rintro e w6 ⟨v6, rfl, hx, hB⟩
       have hb := up (bel2 _ _ _) hB
       have HC6 := Lib.hid (up HC5.out hb)
       have HZ6 := Lib.hid (Nat.le_trans HZ5.out hb.size)
       have He_6 := Lib.hid (He_5.out.below hb)
       have HR6 := Lib.hid hx
       have HMl2_6 := Lib.hid ((hB.block _ (lt_of_block (hp2a _ _ _))).trans (hp2a _ _ _))
       have HB_l2 := Lib.hid (show w.heap.size + 1 + 1 ≤ w5.heap.size by have := HZ5.out; omega)
       clear hb hx hB
       go_wp2_with fail
       refine hK9.out _ _ (HY.out _ HC6.out) (fun hHeld => ?_)
       clear hK9 K9
       try simp only [Act.put, put_a]
       refine wpAnyH_ready (rs := [7]) (by kernel_rfl) (by simp) ?_
       refine (AllReadyH.cons rfl (fun K9 hK9 => ?_) AllReadyH.nil)
       go_simp
       go_at_call 97
       refine (some_any (S := S₁) n _ _ _ (exprP E) _ (fun b e => by have := HS1.out b e; have := HZ6.out; first | omega | (simp; omega)) ((He_6.out.below (Below.refl _ _)).re (andFrom_re (Nat.le_refl _)))).mono ?_
       rintro e w7 ⟨v7, rfl, hx, hB⟩
       have hb := up (Below.refl _ _) hB
       have HC7 := Lib.hid (up HC6.out hb)
       have HZ7 := Lib.hid (Nat.le_trans HZ6.out hb.size)
       have He_7 := Lib.hid (He_6.out.below hb)
       have Hr2_7 := Lib.hid (HR6.out.below hb)
       have HR7 := Lib.hid hx
       have HMl2_7 := Lib.hid ((hb.block _ (lt_of_block HMl2_6.out)).trans HMl2_6.out)
       clear hb hx hB
       go_wp2_with fail
       refine hK9.out _ _ (HY.out _ HC7.out) (fun hHeld => ?_)
       clear hK9 K9
       try simp only [Act.put, put_a]
       refine wpAnyH_ready (rs := [8]) (by kernel_rfl) (by simp) ?_
       refine (AllReadyH.cons rfl (fun K9 hK9 => ?_) AllReadyH.nil)
       go_simp
       go_at_call 150
       refine (behind_any (S := S₁) n trigW ⟨[exprP E], some (exprP E), []⟩ _ _ (by simp [trigW]) (fun b e => by have := HS1.out b e; have := HZ7.out; first | omega | (simp; omega)) (HR7.out.below (Below.refl _ _)) (by simp) (by simp)).mono ?_
       rintro e w8 ⟨vf8, vi8, ve8, rfl, hx, hB⟩
       obtain ⟨K8, c8, K8', c8', rfl, rfl, rfl⟩ := hx.vals1 rfl
       have hb := up (Below.refl _ _) hB
       have HC8 := Lib.hid (up HC7.out hb)
       have HZ8 := Lib.hid (Nat.le_trans HZ7.out hb.size)
       have He_8 := Lib.hid (He_7.out.below hb)
       have Hr2_8 := Lib.hid (Hr2_7.out.below hb)
       have HR8 := Lib.hid hx
       have HMl2_8 := Lib.hid ((hb.block _ (lt_of_block HMl2_7.out)).trans HMl2_7.out)
       clear hb hx hB
       go_wp2_with fail
       refine hK9.out _ _ (HY.out _ HC8.out) (fun hHeld => ?_)
       clear hK9 K9
       try simp only [Act.put, put_a]
       refine wpAnyH_ready (rs := [9]) (by kernel_rfl) (by simp) ?_
       refine (AllReadyH.cons rfl (fun K9 hK9 => ?_) AllReadyH.nil)
       go_simp
       go_at_call 93
       refine (any_any (S := S₁) n _ _ _ _ _ (behindP trigW ⟨[exprP E], some (exprP E), []⟩) _ (fun b e => by have := HS1.out b e; have := HZ8.out; first | omega | (simp; omega)) (Hr2_8.out.below (Below.refl _ _)) (HR8.out.below (Below.refl _ _))).mono ?_
       rintro e w9 ⟨v9, rfl, hx, hB⟩
       have hb := up (Below.refl _ _) hB
       have HC9 := Lib.hid (up HC8.out hb)
       have He_9 := Lib.hid (He_8.out.below hb)
       have HR9 := Lib.hid hx
       have HMl2_9 := Lib.hid ((hb.block _ (lt_of_block HMl2_8.out)).trans HMl2_8.out)
       clear hb hx hB
       go_wp2_with fail
       refine hK9.out _ _ (HY.out _ HC9.out) (fun hHeld => ?_)
       clear hK9 K9
       try simp only [Act.put, put_a]
       refine wpAnyH_ready (rs := [12]) (by kernel_rfl) (by simp) ?_
       refine (AllReadyH.cons rfl (fun K9 hK9 => ?_) AllReadyH.nil)
       go_simp
       go_at_call 147
       refine (end_any (S := S₁) n _ _ _ [exprP E] _ _ (HR9.out.below (Below.refl _ _)) (parts1 ((((Below.refl _ _) : Below w9.heap.size w9 _).block _ (lt_of_block HMl2_9.out)).trans HMl2_9.out) (fun e => absurd (HS1.out _ e) (by have := HB_l2.out; omega)) (He_9.out.below (Below.refl _ _)))).mono ?_
       rintro e w10 ⟨v10, rfl, hx, hB⟩
       obtain ⟨fa, fl, fc, ba, bl, bc, m, rfl⟩ := hx.vals
       have hb := up (Below.refl _ _) hB
       have HC10 := Lib.hid (up HC9.out hb)
       have HR10 := Lib.hid hx
       clear hb hx hB
       have HRL := HR10
       have HBL := Lib.hid (up HB2.out HC10.out)
       obtain ⟨⟨z0, z1, z2⟩, z3, z4, z5⟩ := cells3 ((HBL.out.block (w.heap.size + 1) (by simp)).trans (heap2 _ _ _))
       go_wp2_with fail
       refine hK9.out _ _ (HY.out _ HC10.out) (fun hHeld => ?_)
       clear hK9 K9
       try simp only [Act.put, put_a]
       refine wpAnyH_ready (rs := [13]) (by kernel_rfl) (by simp) ?_
       refine (AllReadyH.cons rfl (fun K9 hK9 => ?_) AllReadyH.nil)
       go_simp
       refine hK9.out _ _ (by obtain ⟨u0, u1, u2⟩ := HY.out _ HC10.out; simp [World.cell?_setCell_other, hne1, u0, u1, u2]) (fun hHeld => ?_)
       clear hK9 K9
       try simp only [Act.put, put_a]
       refine wpAnyH_done (by kernel_rfl) ?_ _
       go_wp2_with fail
       refine bodyPost_ret (v := .agg #[.slice fa fl fc, .slice ba bl bc, .pointer m]) (by simp [results, Tryz.results99, go_sem, cell_set, z0, z1, z2]) rfl (row_close3 (k := 1) (B0 := w.heap.size + 1) (Nat.le_succ _) (Nat.le_refl _) (Nat.lt_succ_self _) (up (bel2 _ _ _) HBL.out) ?_ _ _ _)
       have hp := HRL.out
       rw [HE.out] at hp
       exact hp
     ·skip
      go_simp
      refine hK9.out _ _ (HY.out _ (up HC4.out (bel1 _ _))) (fun hHeld => ?_)
      clear hK9 K9
      try simp only [Act.put, put_a]
      refine wpAnyH_ready (rs := [3]) (by kernel_rfl) (by simp) ?_
      refine (AllReadyH.cons rfl (fun K9 hK9 => ?_) AllReadyH.nil)
      go_simp
      go_at_call 94
      refine (aList_differ (S := S₁) n ⟨[typedP], some typedP, []⟩ _ _ _ _ (fun b e => by have := HS1.out b e; have := HZ4.out; first | omega | (simp; omega)) (HR4.out.below (bel1 _ _)) (by simp) (by simp) preD_typed ⟨lt_of_block ((((bel1 _ _) : Below w4.heap.size w4 _).block _ (lt_of_block HMd_4.out)).trans HMd_4.out), (fun e => absurd (HS1.out _ e) (by have := HB_d.out; omega)), cell_block ((((bel1 _ _) : Below w4.heap.size w4 _).block _ (lt_of_block HMd_4.out)).trans HMd_4.out) rfl⟩).mono ?_
      rintro e w5 ⟨vf5, vi5, ve5, rfl, hx, hB⟩
      obtain ⟨K5, c5, K5', c5', rfl, rfl, rfl⟩ := hx.vals1 rfl
      have hb := up (bel1 _ _) hB
      have HC5 := Lib.hid (up HC4.out hb)
      have HZ5 := Lib.hid (Nat.le_trans HZ4.out hb.size)
      have He_5 := Lib.hid (He_4.out.below hb)
      have HR5 := Lib.hid hx
      have HMl2_5 := Lib.hid ((hB.block _ (lt_of_block (hp1 _ _))).trans (hp1 _ _))
      have HB_l2 := Lib.hid (show w.heap.size + 1 + 1 ≤ w4.heap.size by have := HZ4.out; omega)
      clear hb hx hB
      go_wp2_with fail
      refine hK9.out _ _ (HY.out _ HC5.out) (fun hHeld => ?_)
      clear hK9 K9
      try simp only [Act.put, put_a]
      refine wpAnyH_ready (rs := [4]) (by kernel_rfl) (by simp) ?_
      refine (AllReadyH.cons rfl (fun K9 hK9 => ?_) AllReadyH.nil)
      go_simp
      refine hK9.out _ _ (HY.out _ (up HC5.out (bel1 _ _))) (fun hHeld => ?_)
      clear hK9 K9
      try simp only [Act.put, put_a]
      refine wpAnyH_ready (rs := [5]) (by kernel_rfl) (by simp) ?_
      refine (AllReadyH.cons rfl (fun K9 hK9 => ?_) AllReadyH.nil)
      go_simp
      go_at_call 82
      refine (just_any (S := S₁) n _ [(listP ⟨[typedP], some typedP, []⟩ differB)] _ _ (parts1 (hp1 _ _) (fun e => absurd (HS1.out _ e) (by have := HZ5.out; omega)) (HR5.out.below (bel1 _ _)))).mono ?_
      rintro e w6 ⟨v6, rfl, hx, hB⟩
      have hb := up (bel1 _ _) hB
      have HC6 := Lib.hid (up HC5.out hb)
      have HZ6 := Lib.hid (Nat.le_trans HZ5.out hb.size)
      have He_6 := Lib.hid (He_5.out.below hb)
      have HR6 := Lib.hid hx
      have HMl2_6 := Lib.hid ((hb.block _ (lt_of_block HMl2_5.out)).trans HMl2_5.out)
      clear hb hx hB
      go_wp2_with fail
      refine hK9.out _ _ (HY.out _ HC6.out) (fun hHeld => ?_)
      clear hK9 K9
      try simp only [Act.put, put_a]
      refine wpAnyH_ready (rs := [7]) (by kernel_rfl) (by simp) ?_
      refine (AllReadyH.cons rfl (fun K9 hK9 => ?_) AllReadyH.nil)
      go_simp
      go_at_call 97
      refine (some_any (S := S₁) n _ _ _ (exprP E) _ (fun b e => by have := HS1.out b e; have := HZ6.out; first | omega | (simp; omega)) ((He_6.out.below (Below.refl _ _)).re (andFrom_re (Nat.le_refl _)))).mono ?_
      rintro e w7 ⟨v7, rfl, hx, hB⟩
      have hb := up (Below.refl _ _) hB
      have HC7 := Lib.hid (up HC6.out hb)
      have HZ7 := Lib.hid (Nat.le_trans HZ6.out hb.size)
      have He_7 := Lib.hid (He_6.out.below hb)
      have Hr2_7 := Lib.hid (HR6.out.below hb)
      have HR7 := Lib.hid hx
      have HMl2_7 := Lib.hid ((hb.block _ (lt_of_block HMl2_6.out)).trans HMl2_6.out)
      clear hb hx hB
      go_wp2_with fail
      refine hK9.out _ _ (HY.out _ HC7.out) (fun hHeld => ?_)
      clear hK9 K9
      try simp only [Act.put, put_a]
      refine wpAnyH_ready (rs := [8]) (by kernel_rfl) (by simp) ?_
      refine (AllReadyH.cons rfl (fun K9 hK9 => ?_) AllReadyH.nil)
      go_simp
      go_at_call 150
      refine (behind_any (S := S₁) n trigW ⟨[exprP E], some (exprP E), []⟩ _ _ (by simp [trigW]) (fun b e => by have := HS1.out b e; have := HZ7.out; first | omega | (simp; omega)) (HR7.out.below (Below.refl _ _)) (by simp) (by simp)).mono ?_
      rintro e w8 ⟨vf8, vi8, ve8, rfl, hx, hB⟩
      obtain ⟨K8, c8, K8', c8', rfl, rfl, rfl⟩ := hx.vals1 rfl
      have hb := up (Below.refl _ _) hB
      have HC8 := Lib.hid (up HC7.out hb)
      have HZ8 := Lib.hid (Nat.le_trans HZ7.out hb.size)
      have He_8 := Lib.hid (He_7.out.below hb)
      have Hr2_8 := Lib.hid (Hr2_7.out.below hb)
      have HR8 := Lib.hid hx
      have HMl2_8 := Lib.hid ((hb.block _ (lt_of_block HMl2_7.out)).trans HMl2_7.out)
      clear hb hx hB
      go_wp2_with fail
      refine hK9.out _ _ (HY.out _ HC8.out) (fun hHeld => ?_)
      clear hK9 K9
      try simp only [Act.put, put_a]
      refine wpAnyH_ready (rs := [9]) (by kernel_rfl) (by simp) ?_
      refine (AllReadyH.cons rfl (fun K9 hK9 => ?_) AllReadyH.nil)
      go_simp
      go_at_call 93
      refine (any_any (S := S₁) n _ _ _ _ _ (behindP trigW ⟨[exprP E], some (exprP E), []⟩) _ (fun b e => by have := HS1.out b e; have := HZ8.out; first | omega | (simp; omega)) (Hr2_8.out.below (Below.refl _ _)) (HR8.out.below (Below.refl _ _))).mono ?_
      rintro e w9 ⟨v9, rfl, hx, hB⟩
      have hb := up (Below.refl _ _) hB
      have HC9 := Lib.hid (up HC8.out hb)
      have He_9 := Lib.hid (He_8.out.below hb)
      have HR9 := Lib.hid hx
      have HMl2_9 := Lib.hid ((hb.block _ (lt_of_block HMl2_8.out)).trans HMl2_8.out)
      clear hb hx hB
      go_wp2_with fail
      refine hK9.out _ _ (HY.out _ HC9.out) (fun hHeld => ?_)
      clear hK9 K9
      try simp only [Act.put, put_a]
      refine wpAnyH_ready (rs := [12]) (by kernel_rfl) (by simp) ?_
      refine (AllReadyH.cons rfl (fun K9 hK9 => ?_) AllReadyH.nil)
      go_simp
      go_at_call 147
      refine (end_any (S := S₁) n _ _ _ [exprP E] _ _ (HR9.out.below (Below.refl _ _)) (parts1 ((((Below.refl _ _) : Below w9.heap.size w9 _).block _ (lt_of_block HMl2_9.out)).trans HMl2_9.out) (fun e => absurd (HS1.out _ e) (by have := HB_l2.out; omega)) (He_9.out.below (Below.refl _ _)))).mono ?_
      rintro e w10 ⟨v10, rfl, hx, hB⟩
      obtain ⟨fa, fl, fc, ba, bl, bc, m, rfl⟩ := hx.vals
      have hb := up (Below.refl _ _) hB
      have HC10 := Lib.hid (up HC9.out hb)
      have HR10 := Lib.hid hx
      clear hb hx hB
      have HRL := HR10
      have HBL := Lib.hid (up HB2.out HC10.out)
      obtain ⟨⟨z0, z1, z2⟩, z3, z4, z5⟩ := cells3 ((HBL.out.block (w.heap.size + 1) (by simp)).trans (heap2 _ _ _))
      go_wp2_with fail
      refine hK9.out _ _ (HY.out _ HC10.out) (fun hHeld => ?_)
      clear hK9 K9
      try simp only [Act.put, put_a]
      refine wpAnyH_ready (rs := [13]) (by kernel_rfl) (by simp) ?_
      refine (AllReadyH.cons rfl (fun K9 hK9 => ?_) AllReadyH.nil)
      go_simp
      refine hK9.out _ _ (by obtain ⟨u0, u1, u2⟩ := HY.out _ HC10.out; simp [World.cell?_setCell_other, hne1, u0, u1, u2]) (fun hHeld => ?_)
      clear hK9 K9
      try simp only [Act.put, put_a]
      refine wpAnyH_done (by kernel_rfl) ?_ _
      go_wp2_with fail
      refine bodyPost_ret (v := .agg #[.slice fa fl fc, .slice ba bl bc, .pointer m]) (by simp [results, Tryz.results99, go_sem, cell_set, z0, z1, z2]) rfl (row_close3 (k := 1) (B0 := w.heap.size + 1) (Nat.le_succ _) (Nat.le_refl _) (Nat.lt_succ_self _) (up (bel2 _ _ _) HBL.out) ?_ _ _ _)
      have hp := HRL.out
      rw [HE.out] at hp
      exact hp
    ·skip
     go_simp
     refine hK9.out _ _ (HY.out _ (up HC3.out (bel2 _ _ _))) (fun hHeld => ?_)
     clear hK9 K9
     try simp only [Act.put, put_a]
     refine wpAnyH_ready (rs := [1]) (by kernel_rfl) (by simp) ?_
     refine (AllReadyH.cons rfl (fun K9 hK9 => ?_) AllReadyH.nil)
     go_simp
     go_at_call 97
     refine (some_any (S := S₁) n _ _ _ typedP _ (fun b e => by have := HS1.out b e; have := HZ3.out; first | omega | (simp; omega)) ((HR3.out.below (bel2 _ _ _)).re (andFrom_re (Nat.le_refl _)))).mono ?_
     rintro e w4 ⟨v4, rfl, hx, hB⟩
     have hb := up (bel2 _ _ _) hB
     have HC4 := Lib.hid (up HC3.out hb)
     have HZ4 := Lib.hid (Nat.le_trans HZ3.out hb.size)
     have He_4 := Lib.hid (He_3.out.below hb)
     have HR4 := Lib.hid hx
     have HMd_4 := Lib.hid ((hB.block _ (lt_of_block (hp2a _ _ _))).trans (hp2a _ _ _))
     have HB_d := Lib.hid (show w.heap.size + 1 + 1 ≤ w3.heap.size by have := HZ3.out; omega)
     have HMl2_4 := Lib.hid ((hB.block _ (lt_of_block (hp2b _ _ _))).trans (hp2b _ _ _))
     have HB_l2 := Lib.hid (show w.heap.size + 1 + 1 ≤ w3.heap.size + 1 by have := HZ3.out; omega)
     clear hb hx hB
     go_wp2_with fail
     refine hK9.out _ _ (HY.out _ HC4.out) (fun hHeld => ?_)
     clear hK9 K9
     try simp only [Act.put, put_a]
     refine wpAnyH_ready (rs := [3]) (by kernel_rfl) (by simp) ?_
     refine (AllReadyH.cons rfl (fun K9 hK9 => ?_) AllReadyH.nil)
     go_simp
     go_at_call 94
     refine (aList_differ (S := S₁) n ⟨[typedP], some typedP, []⟩ _ _ _ _ (fun b e => by have := HS1.out b e; have := HZ4.out; first | omega | (simp; omega)) (HR4.out.below (Below.refl _ _)) (by simp) (by simp) preD_typed ⟨lt_of_block ((((Below.refl _ _) : Below w4.heap.size w4 _).block _ (lt_of_block HMd_4.out)).trans HMd_4.out), (fun e => absurd (HS1.out _ e) (by have := HB_d.out; omega)), cell_block ((((Below.refl _ _) : Below w4.heap.size w4 _).block _ (lt_of_block HMd_4.out)).trans HMd_4.out) rfl⟩).mono ?_
     rintro e w5 ⟨vf5, vi5, ve5, rfl, hx, hB⟩
     obtain ⟨K5, c5, K5', c5', rfl, rfl, rfl⟩ := hx.vals1 rfl
     have hb := up (Below.refl _ _) hB
     have HC5 := Lib.hid (up HC4.out hb)
     have HZ5 := Lib.hid (Nat.le_trans HZ4.out hb.size)
     have He_5 := Lib.hid (He_4.out.below hb)
     have HR5 := Lib.hid hx
     have HMl2_5 := Lib.hid ((hb.block _ (lt_of_block HMl2_4.out)).trans HMl2_4.out)
     clear hb hx hB
     go_wp2_with fail
     refine hK9.out _ _ (HY.out _ HC5.out) (fun hHeld => ?_)
     clear hK9 K9
     try simp only [Act.put, put_a]
     refine wpAnyH_ready (rs := [4]) (by kernel_rfl) (by simp) ?_
     refine (AllReadyH.cons rfl (fun K9 hK9 => ?_) AllReadyH.nil)
     go_simp
     refine hK9.out _ _ (HY.out _ (up HC5.out (bel1 _ _))) (fun hHeld => ?_)
     clear hK9 K9
     try simp only [Act.put, put_a]
     refine wpAnyH_ready (rs := [5]) (by kernel_rfl) (by simp) ?_
     refine (AllReadyH.cons rfl (fun K9 hK9 => ?_) AllReadyH.nil)
     go_simp
     go_at_call 82
     refine (just_any (S := S₁) n _ [(listP ⟨[typedP], some typedP, []⟩ differB)] _ _ (parts1 (hp1 _ _) (fun e => absurd (HS1.out _ e) (by have := HZ5.out; omega)) (HR5.out.below (bel1 _ _)))).mono ?_
     rintro e w6 ⟨v6, rfl, hx, hB⟩
     have hb := up (bel1 _ _) hB
     have HC6 := Lib.hid (up HC5.out hb)
     have HZ6 := Lib.hid (Nat.le_trans HZ5.out hb.size)
     have He_6 := Lib.hid (He_5.out.below hb)
     have HR6 := Lib.hid hx
     have HMl2_6 := Lib.hid ((hb.block _ (lt_of_block HMl2_5.out)).trans HMl2_5.out)
     clear hb hx hB
     go_wp2_with fail
     refine hK9.out _ _ (HY.out _ HC6.out) (fun hHeld => ?_)
     clear hK9 K9
     try simp only [Act.put, put_a]
     refine wpAnyH_ready (rs := [7]) (by kernel_rfl) (by simp) ?_
     refine (AllReadyH.cons rfl (fun K9 hK9 => ?_) AllReadyH.nil)
     go_simp
     go_at_call 97
     refine (some_any (S := S₁) n _ _ _ (exprP E) _ (fun b e => by have := HS1.out b e; have := HZ6.out; first | omega | (simp; omega)) ((He_6.out.below (Below.refl _ _)).re (andFrom_re (Nat.le_refl _)))).mono ?_
     rintro e w7 ⟨v7, rfl, hx, hB⟩
     have hb := up (Below.refl _ _) hB
     have HC7 := Lib.hid (up HC6.out hb)
     have HZ7 := Lib.hid (Nat.le_trans HZ6.out hb.size)
     have He_7 := Lib.hid (He_6.out.below hb)
     have Hr2_7 := Lib.hid (HR6.out.below hb)
     have HR7 := Lib.hid hx
     have HMl2_7 := Lib.hid ((hb.block _ (lt_of_block HMl2_6.out)).trans HMl2_6.out)
     clear hb hx hB
     go_wp2_with fail
     refine hK9.out _ _ (HY.out _ HC7.out) (fun hHeld => ?_)
     clear hK9 K9
     try simp only [Act.put, put_a]
     refine wpAnyH_ready (rs := [8]) (by kernel_rfl) (by simp) ?_
     refine (AllReadyH.cons rfl (fun K9 hK9 => ?_) AllReadyH.nil)
     go_simp
     go_at_call 150
     refine (behind_any (S := S₁) n trigW ⟨[exprP E], some (exprP E), []⟩ _ _ (by simp [trigW]) (fun b e => by have := HS1.out b e; have := HZ7.out; first | omega | (simp; omega)) (HR7.out.below (Below.refl _ _)) (by simp) (by simp)).mono ?_
     rintro e w8 ⟨vf8, vi8, ve8, rfl, hx, hB⟩
     obtain ⟨K8, c8, K8', c8', rfl, rfl, rfl⟩ := hx.vals1 rfl
     have hb := up (Below.refl _ _) hB
     have HC8 := Lib.hid (up HC7.out hb)
     have HZ8 := Lib.hid (Nat.le_trans HZ7.out hb.size)
     have He_8 := Lib.hid (He_7.out.below hb)
     have Hr2_8 := Lib.hid (Hr2_7.out.below hb)
     have HR8 := Lib.hid hx
     have HMl2_8 := Lib.hid ((hb.block _ (lt_of_block HMl2_7.out)).trans HMl2_7.out)
     clear hb hx hB
     go_wp2_with fail
     refine hK9.out _ _ (HY.out _ HC8.out) (fun hHeld => ?_)
     clear hK9 K9
     try simp only [Act.put, put_a]
     refine wpAnyH_ready (rs := [9]) (by kernel_rfl) (by simp) ?_
     refine (AllReadyH.cons rfl (fun K9 hK9 => ?_) AllReadyH.nil)
     go_simp
     go_at_call 93
     refine (any_any (S := S₁) n _ _ _ _ _ (behindP trigW ⟨[exprP E], some (exprP E), []⟩) _ (fun b e => by have := HS1.out b e; have := HZ8.out; first | omega | (simp; omega)) (Hr2_8.out.below (Below.refl _ _)) (HR8.out.below (Below.refl _ _))).mono ?_
     rintro e w9 ⟨v9, rfl, hx, hB⟩
     have hb := up (Below.refl _ _) hB
     have HC9 := Lib.hid (up HC8.out hb)
     have He_9 := Lib.hid (He_8.out.below hb)
     have HR9 := Lib.hid hx
     have HMl2_9 := Lib.hid ((hb.block _ (lt_of_block HMl2_8.out)).trans HMl2_8.out)
     clear hb hx hB
     go_wp2_with fail
     refine hK9.out _ _ (HY.out _ HC9.out) (fun hHeld => ?_)
     clear hK9 K9
     try simp only [Act.put, put_a]
     refine wpAnyH_ready (rs := [12]) (by kernel_rfl) (by simp) ?_
     refine (AllReadyH.cons rfl (fun K9 hK9 => ?_) AllReadyH.nil)
     go_simp
     go_at_call 147
     refine (end_any (S := S₁) n _ _ _ [exprP E] _ _ (HR9.out.below (Below.refl _ _)) (parts1 ((((Below.refl _ _) : Below w9.heap.size w9 _).block _ (lt_of_block HMl2_9.out)).trans HMl2_9.out) (fun e => absurd (HS1.out _ e) (by have := HB_l2.out; omega)) (He_9.out.below (Below.refl _ _)))).mono ?_
     rintro e w10 ⟨v10, rfl, hx, hB⟩
     obtain ⟨fa, fl, fc, ba, bl, bc, m, rfl⟩ := hx.vals
     have hb := up (Below.refl _ _) hB
     have HC10 := Lib.hid (up HC9.out hb)
     have HR10 := Lib.hid hx
     clear hb hx hB
     have HRL := HR10
     have HBL := Lib.hid (up HB2.out HC10.out)
     obtain ⟨⟨z0, z1, z2⟩, z3, z4, z5⟩ := cells3 ((HBL.out.block (w.heap.size + 1) (by simp)).trans (heap2 _ _ _))
     go_wp2_with fail
     refine hK9.out _ _ (HY.out _ HC10.out) (fun hHeld => ?_)
     clear hK9 K9
     try simp only [Act.put, put_a]
     refine wpAnyH_ready (rs := [13]) (by kernel_rfl) (by simp) ?_
     refine (AllReadyH.cons rfl (fun K9 hK9 => ?_) AllReadyH.nil)
     go_simp
     refine hK9.out _ _ (by obtain ⟨u0, u1, u2⟩ := HY.out _ HC10.out; simp [World.cell?_setCell_other, hne1, u0, u1, u2]) (fun hHeld => ?_)
     clear hK9 K9
     try simp only [Act.put, put_a]
     refine wpAnyH_done (by kernel_rfl) ?_ _
     go_wp2_with fail
     refine bodyPost_ret (v := .agg #[.slice fa fl fc, .slice ba bl bc, .pointer m]) (by simp [results, Tryz.results99, go_sem, cell_set, z0, z1, z2]) rfl (row_close3 (k := 1) (B0 := w.heap.size + 1) (Nat.le_succ _) (Nat.le_refl _) (Nat.lt_succ_self _) (up (bel2 _ _ _) HBL.out) ?_ _ _ _)
     have hp := HRL.out
     rw [HE.out] at hp
     exact hp
   ·skip
    go_simp
    refine hK9.out _ _ (HY.out _ (up HC3.out (bel1 _ _))) (fun hHeld => ?_)
    clear hK9 K9
    try simp only [Act.put, put_a]
    refine wpAnyH_ready (rs := [1, 2]) (by kernel_rfl) (by simp) ?_
    refine (AllReadyH.cons rfl (fun K9 hK9 => ?_) (AllReadyH.cons rfl (fun K9 hK9 => ?_) AllReadyH.nil))
    ·skip
     go_simp
     go_at_call 97
     refine (some_any (S := S₁) n _ _ _ typedP _ (fun b e => by have := HS1.out b e; have := HZ3.out; first | omega | (simp; omega)) ((HR3.out.below (bel1 _ _)).re (andFrom_re (Nat.le_refl _)))).mono ?_
     rintro e w4 ⟨v4, rfl, hx, hB⟩
     have hb := up (bel1 _ _) hB
     have HC4 := Lib.hid (up HC3.out hb)
     have HZ4 := Lib.hid (Nat.le_trans HZ3.out hb.size)
     have He_4 := Lib.hid (He_3.out.below hb)
     have HR4 := Lib.hid hx
     have HMl2_4 := Lib.hid ((hB.block _ (lt_of_block (hp1 _ _))).trans (hp1 _ _))
     have HB_l2 := Lib.hid (show w.heap.size + 1 + 1 ≤ w3.heap.size by have := HZ3.out; omega)
     clear hb hx hB
     go_wp2_with fail
     refine hK9.out _ _ (HY.out _ HC4.out) (fun hHeld => ?_)
     clear hK9 K9
     try simp only [Act.put, put_a]
     refine wpAnyH_ready (rs := [2]) (by kernel_rfl) (by simp) ?_
     refine (AllReadyH.cons rfl (fun K9 hK9 => ?_) AllReadyH.nil)
     go_simp
     refine hK9.out _ _ (HY.out _ (up HC4.out (bel1 _ _))) (fun hHeld => ?_)
     clear hK9 K9
     try simp only [Act.put, put_a]
     refine wpAnyH_ready (rs := [3]) (by kernel_rfl) (by simp) ?_
     refine (AllReadyH.cons rfl (fun K9 hK9 => ?_) AllReadyH.nil)
     go_simp
     go_at_call 94
     refine (aList_differ (S := S₁) n ⟨[typedP], some typedP, []⟩ _ _ _ _ (fun b e => by have := HS1.out b e; have := HZ4.out; first | omega | (simp; omega)) (HR4.out.below (bel1 _ _)) (by simp) (by simp) preD_typed ⟨lt_of_block (hp1 _ _), (fun e => absurd (HS1.out _ e) (by have := HZ4.out; omega)), cell_block (hp1 _ _) rfl⟩).mono ?_
     rintro e w5 ⟨vf5, vi5, ve5, rfl, hx, hB⟩
     obtain ⟨K5, c5, K5', c5', rfl, rfl, rfl⟩ := hx.vals1 rfl
     have hb := up (bel1 _ _) hB
     have HC5 := Lib.hid (up HC4.out hb)
     have HZ5 := Lib.hid (Nat.le_trans HZ4.out hb.size)
     have He_5 := Lib.hid (He_4.out.below hb)
     have HR5 := Lib.hid hx
     have HMl2_5 := Lib.hid ((hb.block _ (lt_of_block HMl2_4.out)).trans HMl2_4.out)
     clear hb hx hB
     go_wp2_with fail
     refine hK9.out _ _ (HY.out _ HC5.out) (fun hHeld => ?_)
     clear hK9 K9
     try simp only [Act.put, put_a]
     refine wpAnyH_ready (rs := [4]) (by kernel_rfl) (by simp) ?_
     refine (AllReadyH.cons rfl (fun K9 hK9 => ?_) AllReadyH.nil)
     go_simp
     refine hK9.out _ _ (HY.out _ (up HC5.out (bel1 _ _))) (fun hHeld => ?_)
     clear hK9 K9
     try simp only [Act.put, put_a]
     refine wpAnyH_ready (rs := [5]) (by kernel_rfl) (by simp) ?_
     refine (AllReadyH.cons rfl (fun K9 hK9 => ?_) AllReadyH.nil)
     go_simp
     go_at_call 82
     refine (just_any (S := S₁) n _ [(listP ⟨[typedP], some typedP, []⟩ differB)] _ _ (parts1 (hp1 _ _) (fun e => absurd (HS1.out _ e) (by have := HZ5.out; omega)) (HR5.out.below (bel1 _ _)))).mono ?_
     rintro e w6 ⟨v6, rfl, hx, hB⟩
     have hb := up (bel1 _ _) hB
     have HC6 := Lib.hid (up HC5.out hb)
     have HZ6 := Lib.hid (Nat.le_trans HZ5.out hb.size)
     have He_6 := Lib.hid (He_5.out.below hb)
     have HR6 := Lib.hid hx
     have HMl2_6 := Lib.hid ((hb.block _ (lt_of_block HMl2_5.out)).trans HMl2_5.out)
     clear hb hx hB
     go_wp2_with fail
     refine hK9.out _ _ (HY.out _ HC6.out) (fun hHeld => ?_)
     clear hK9 K9
     try simp only [Act.put, put_a]
     refine wpAnyH_ready (rs := [7]) (by kernel_rfl) (by simp) ?_
     refine (AllReadyH.cons rfl (fun K9 hK9 => ?_) AllReadyH.nil)
     go_simp
     go_at_call 97
     refine (some_any (S := S₁) n _ _ _ (exprP E) _ (fun b e => by have := HS1.out b e; have := HZ6.out; first | omega | (simp; omega)) ((He_6.out.below (Below.refl _ _)).re (andFrom_re (Nat.le_refl _)))).mono ?_
     rintro e w7 ⟨v7, rfl, hx, hB⟩
     have hb := up (Below.refl _ _) hB
     have HC7 := Lib.hid (up HC6.out hb)
     have HZ7 := Lib.hid (Nat.le_trans HZ6.out hb.size)
     have He_7 := Lib.hid (He_6.out.below hb)
     have Hr2_7 := Lib.hid (HR6.out.below hb)
     have HR7 := Lib.hid hx
     have HMl2_7 := Lib.hid ((hb.block _ (lt_of_block HMl2_6.out)).trans HMl2_6.out)
     clear hb hx hB
     go_wp2_with fail
     refine hK9.out _ _ (HY.out _ HC7.out) (fun hHeld => ?_)
     clear hK9 K9
     try simp only [Act.put, put_a]
     refine wpAnyH_ready (rs := [8]) (by kernel_rfl) (by simp) ?_
     refine (AllReadyH.cons rfl (fun K9 hK9 => ?_) AllReadyH.nil)
     go_simp
     go_at_call 150
     refine (behind_any (S := S₁) n trigW ⟨[exprP E], some (exprP E), []⟩ _ _ (by simp [trigW]) (fun b e => by have := HS1.out b e; have := HZ7.out; first | omega | (simp; omega)) (HR7.out.below (Below.refl _ _)) (by simp) (by simp)).mono ?_
     rintro e w8 ⟨vf8, vi8, ve8, rfl, hx, hB⟩
     obtain ⟨K8, c8, K8', c8', rfl, rfl, rfl⟩ := hx.vals1 rfl
     have hb := up (Below.refl _ _) hB
     have HC8 := Lib.hid (up HC7.out hb)
     have HZ8 := Lib.hid (Nat.le_trans HZ7.out hb.size)
     have He_8 := Lib.hid (He_7.out.below hb)
     have Hr2_8 := Lib.hid (Hr2_7.out.below hb)
     have HR8 := Lib.hid hx
     have HMl2_8 := Lib.hid ((hb.block _ (lt_of_block HMl2_7.out)).trans HMl2_7.out)
     clear hb hx hB
     go_wp2_with fail
     refine hK9.out _ _ (HY.out _ HC8.out) (fun hHeld => ?_)
     clear hK9 K9
     try simp only [Act.put, put_a]
     refine wpAnyH_ready (rs := [9]) (by kernel_rfl) (by simp) ?_
     refine (AllReadyH.cons rfl (fun K9 hK9 => ?_) AllReadyH.nil)
     go_simp
     go_at_call 93
     refine (any_any (S := S₁) n _ _ _ _ _ (behindP trigW ⟨[exprP E], some (exprP E), []⟩) _ (fun b e => by have := HS1.out b e; have := HZ8.out; first | omega | (simp; omega)) (Hr2_8.out.below (Below.refl _ _)) (HR8.out.below (Below.refl _ _))).mono ?_
     rintro e w9 ⟨v9, rfl, hx, hB⟩
     have hb := up (Below.refl _ _) hB
     have HC9 := Lib.hid (up HC8.out hb)
     have He_9 := Lib.hid (He_8.out.below hb)
     have HR9 := Lib.hid hx
     have HMl2_9 := Lib.hid ((hb.block _ (lt_of_block HMl2_8.out)).trans HMl2_8.out)
     clear hb hx hB
     go_wp2_with fail
     refine hK9.out _ _ (HY.out _ HC9.out) (fun hHeld => ?_)
     clear hK9 K9
     try simp only [Act.put, put_a]
     refine wpAnyH_ready (rs := [12]) (by kernel_rfl) (by simp) ?_
     refine (AllReadyH.cons rfl (fun K9 hK9 => ?_) AllReadyH.nil)
     go_simp
     go_at_call 147
     refine (end_any (S := S₁) n _ _ _ [exprP E] _ _ (HR9.out.below (Below.refl _ _)) (parts1 ((((Below.refl _ _) : Below w9.heap.size w9 _).block _ (lt_of_block HMl2_9.out)).trans HMl2_9.out) (fun e => absurd (HS1.out _ e) (by have := HB_l2.out; omega)) (He_9.out.below (Below.refl _ _)))).mono ?_
     rintro e w10 ⟨v10, rfl, hx, hB⟩
     obtain ⟨fa, fl, fc, ba, bl, bc, m, rfl⟩ := hx.vals
     have hb := up (Below.refl _ _) hB
     have HC10 := Lib.hid (up HC9.out hb)
     have HR10 := Lib.hid hx
     clear hb hx hB
     have HRL := HR10
     have HBL := Lib.hid (up HB2.out HC10.out)
     obtain ⟨⟨z0, z1, z2⟩, z3, z4, z5⟩ := cells3 ((HBL.out.block (w.heap.size + 1) (by simp)).trans (heap2 _ _ _))
     go_wp2_with fail
     refine hK9.out _ _ (HY.out _ HC10.out) (fun hHeld => ?_)
     clear hK9 K9
     try simp only [Act.put, put_a]
     refine wpAnyH_ready (rs := [13]) (by kernel_rfl) (by simp) ?_
     refine (AllReadyH.cons rfl (fun K9 hK9 => ?_) AllReadyH.nil)
     go_simp
     refine hK9.out _ _ (by obtain ⟨u0, u1, u2⟩ := HY.out _ HC10.out; simp [World.cell?_setCell_other, hne1, u0, u1, u2]) (fun hHeld => ?_)
     clear hK9 K9
     try simp only [Act.put, put_a]
     refine wpAnyH_done (by kernel_rfl) ?_ _
     go_wp2_with fail
     refine bodyPost_ret (v := .agg #[.slice fa fl fc, .slice ba bl bc, .pointer m]) (by simp [results, Tryz.results99, go_sem, cell_set, z0, z1, z2]) rfl (row_close3 (k := 1) (B0 := w.heap.size + 1) (Nat.le_succ _) (Nat.le_refl _) (Nat.lt_succ_self _) (up (bel2 _ _ _) HBL.out) ?_ _ _ _)
     have hp := HRL.out
     rw [HE.out] at hp
     exact hp
    ·skip
     go_simp
     refine hK9.out _ _ (HY.out _ (up HC3.out (bel2 _ _ _))) (fun hHeld => ?_)
     clear hK9 K9
     try simp only [Act.put, put_a]
     refine wpAnyH_ready (rs := [1]) (by kernel_rfl) (by simp) ?_
     refine (AllReadyH.cons rfl (fun K9 hK9 => ?_) AllReadyH.nil)
     go_simp
     go_at_call 97
     refine (some_any (S := S₁) n _ _ _ typedP _ (fun b e => by have := HS1.out b e; have := HZ3.out; first | omega | (simp; omega)) ((HR3.out.below (bel2 _ _ _)).re (andFrom_re (Nat.le_refl _)))).mono ?_
     rintro e w4 ⟨v4, rfl, hx, hB⟩
     have hb := up (bel2 _ _ _) hB
     have HC4 := Lib.hid (up HC3.out hb)
     have HZ4 := Lib.hid (Nat.le_trans HZ3.out hb.size)
     have He_4 := Lib.hid (He_3.out.below hb)
     have HR4 := Lib.hid hx
     have HMl2_4 := Lib.hid ((hB.block _ (lt_of_block (hp2a _ _ _))).trans (hp2a _ _ _))
     have HB_l2 := Lib.hid (show w.heap.size + 1 + 1 ≤ w3.heap.size by have := HZ3.out; omega)
     have HMd_4 := Lib.hid ((hB.block _ (lt_of_block (hp2b _ _ _))).trans (hp2b _ _ _))
     have HB_d := Lib.hid (show w.heap.size + 1 + 1 ≤ w3.heap.size + 1 by have := HZ3.out; omega)
     clear hb hx hB
     go_wp2_with fail
     refine hK9.out _ _ (HY.out _ HC4.out) (fun hHeld => ?_)
     clear hK9 K9
     try simp only [Act.put, put_a]
     refine wpAnyH_ready (rs := [3]) (by kernel_rfl) (by simp) ?_
     refine (AllReadyH.cons rfl (fun K9 hK9 => ?_) AllReadyH.nil)
     go_simp
     go_at_call 94
     refine (aList_differ (S := S₁) n ⟨[typedP], some typedP, []⟩ _ _ _ _ (fun b e => by have := HS1.out b e; have := HZ4.out; first | omega | (simp; omega)) (HR4.out.below (Below.refl _ _)) (by simp) (by simp) preD_typed ⟨lt_of_block ((((Below.refl _ _) : Below w4.heap.size w4 _).block _ (lt_of_block HMd_4.out)).trans HMd_4.out), (fun e => absurd (HS1.out _ e) (by have := HB_d.out; omega)), cell_block ((((Below.refl _ _) : Below w4.heap.size w4 _).block _ (lt_of_block HMd_4.out)).trans HMd_4.out) rfl⟩).mono ?_
     rintro e w5 ⟨vf5, vi5, ve5, rfl, hx, hB⟩
     obtain ⟨K5, c5, K5', c5', rfl, rfl, rfl⟩ := hx.vals1 rfl
     have hb := up (Below.refl _ _) hB
     have HC5 := Lib.hid (up HC4.out hb)
     have HZ5 := Lib.hid (Nat.le_trans HZ4.out hb.size)
     have He_5 := Lib.hid (He_4.out.below hb)
     have HR5 := Lib.hid hx
     have HMl2_5 := Lib.hid ((hb.block _ (lt_of_block HMl2_4.out)).trans HMl2_4.out)
     clear hb hx hB
     go_wp2_with fail
     refine hK9.out _ _ (HY.out _ HC5.out) (fun hHeld => ?_)
     clear hK9 K9
     try simp only [Act.put, put_a]
     refine wpAnyH_ready (rs := [4]) (by kernel_rfl) (by simp) ?_
     refine (AllReadyH.cons rfl (fun K9 hK9 => ?_) AllReadyH.nil)
     go_simp
     refine hK9.out _ _ (HY.out _ (up HC5.out (bel1 _ _))) (fun hHeld => ?_)
     clear hK9 K9
     try simp only [Act.put, put_a]
     refine wpAnyH_ready (rs := [5]) (by kernel_rfl) (by simp) ?_
     refine (AllReadyH.cons rfl (fun K9 hK9 => ?_) AllReadyH.nil)
     go_simp
     go_at_call 82
     refine (just_any (S := S₁) n _ [(listP ⟨[typedP], some typedP, []⟩ differB)] _ _ (parts1 (hp1 _ _) (fun e => absurd (HS1.out _ e) (by have := HZ5.out; omega)) (HR5.out.below (bel1 _ _)))).mono ?_
     rintro e w6 ⟨v6, rfl, hx, hB⟩
     have hb := up (bel1 _ _) hB
     have HC6 := Lib.hid (up HC5.out hb)
     have HZ6 := Lib.hid (Nat.le_trans HZ5.out hb.size)
     have He_6 := Lib.hid (He_5.out.below hb)
     have HR6 := Lib.hid hx
     have HMl2_6 := Lib.hid ((hb.block _ (lt_of_block HMl2_5.out)).trans HMl2_5.out)
     clear hb hx hB
     go_wp2_with fail
     refine hK9.out _ _ (HY.out _ HC6.out) (fun hHeld => ?_)
     clear hK9 K9
     try simp only [Act.put, put_a]
     refine wpAnyH_ready (rs := [7]) (by kernel_rfl) (by simp) ?_
     refine (AllReadyH.cons rfl (fun K9 hK9 => ?_) AllReadyH.nil)
     go_simp
     go_at_call 97
     refine (some_any (S := S₁) n _ _ _ (exprP E) _ (fun b e => by have := HS1.out b e; have := HZ6.out; first | omega | (simp; omega)) ((He_6.out.below (Below.refl _ _)).re (andFrom_re (Nat.le_refl _)))).mono ?_
     rintro e w7 ⟨v7, rfl, hx, hB⟩
     have hb := up (Below.refl _ _) hB
     have HC7 := Lib.hid (up HC6.out hb)
     have HZ7 := Lib.hid (Nat.le_trans HZ6.out hb.size)
     have He_7 := Lib.hid (He_6.out.below hb)
     have Hr2_7 := Lib.hid (HR6.out.below hb)
     have HR7 := Lib.hid hx
     have HMl2_7 := Lib.hid ((hb.block _ (lt_of_block HMl2_6.out)).trans HMl2_6.out)
     clear hb hx hB
     go_wp2_with fail
     refine hK9.out _ _ (HY.out _ HC7.out) (fun hHeld => ?_)
     clear hK9 K9
     try simp only [Act.put, put_a]
     refine wpAnyH_ready (rs := [8]) (by kernel_rfl) (by simp) ?_
     refine (AllReadyH.cons rfl (fun K9 hK9 => ?_) AllReadyH.nil)
     go_simp
     go_at_call 150
     refine (behind_any (S := S₁) n trigW ⟨[exprP E], some (exprP E), []⟩ _ _ (by simp [trigW]) (fun b e => by have := HS1.out b e; have := HZ7.out; first | omega | (simp; omega)) (HR7.out.below (Below.refl _ _)) (by simp) (by simp)).mono ?_
     rintro e w8 ⟨vf8, vi8, ve8, rfl, hx, hB⟩
     obtain ⟨K8, c8, K8', c8', rfl, rfl, rfl⟩ := hx.vals1 rfl
     have hb := up (Below.refl _ _) hB
     have HC8 := Lib.hid (up HC7.out hb)
     have HZ8 := Lib.hid (Nat.le_trans HZ7.out hb.size)
     have He_8 := Lib.hid (He_7.out.below hb)
     have Hr2_8 := Lib.hid (Hr2_7.out.below hb)
     have HR8 := Lib.hid hx
     have HMl2_8 := Lib.hid ((hb.block _ (lt_of_block HMl2_7.out)).trans HMl2_7.out)
     clear hb hx hB
     go_wp2_with fail
     refine hK9.out _ _ (HY.out _ HC8.out) (fun hHeld => ?_)
     clear hK9 K9
     try simp only [Act.put, put_a]
     refine wpAnyH_ready (rs := [9]) (by kernel_rfl) (by simp) ?_
     refine (AllReadyH.cons rfl (fun K9 hK9 => ?_) AllReadyH.nil)
     go_simp
     go_at_call 93
     refine (any_any (S := S₁) n _ _ _ _ _ (behindP trigW ⟨[exprP E], some (exprP E), []⟩) _ (fun b e => by have := HS1.out b e; have := HZ8.out; first | omega | (simp; omega)) (Hr2_8.out.below (Below.refl _ _)) (HR8.out.below (Below.refl _ _))).mono ?_
     rintro e w9 ⟨v9, rfl, hx, hB⟩
     have hb := up (Below.refl _ _) hB
     have HC9 := Lib.hid (up HC8.out hb)
     have He_9 := Lib.hid (He_8.out.below hb)
     have HR9 := Lib.hid hx
     have HMl2_9 := Lib.hid ((hb.block _ (lt_of_block HMl2_8.out)).trans HMl2_8.out)
     clear hb hx hB
     go_wp2_with fail
     refine hK9.out _ _ (HY.out _ HC9.out) (fun hHeld => ?_)
     clear hK9 K9
     try simp only [Act.put, put_a]
     refine wpAnyH_ready (rs := [12]) (by kernel_rfl) (by simp) ?_
     refine (AllReadyH.cons rfl (fun K9 hK9 => ?_) AllReadyH.nil)
     go_simp
     go_at_call 147
     refine (end_any (S := S₁) n _ _ _ [exprP E] _ _ (HR9.out.below (Below.refl _ _)) (parts1 ((((Below.refl _ _) : Below w9.heap.size w9 _).block _ (lt_of_block HMl2_9.out)).trans HMl2_9.out) (fun e => absurd (HS1.out _ e) (by have := HB_l2.out; omega)) (He_9.out.below (Below.refl _ _)))).mono ?_
     rintro e w10 ⟨v10, rfl, hx, hB⟩
     obtain ⟨fa, fl, fc, ba, bl, bc, m, rfl⟩ := hx.vals
     have hb := up (Below.refl _ _) hB
     have HC10 := Lib.hid (up HC9.out hb)
     have HR10 := Lib.hid hx
     clear hb hx hB
     have HRL := HR10
     have HBL := Lib.hid (up HB2.out HC10.out)
     obtain ⟨⟨z0, z1, z2⟩, z3, z4, z5⟩ := cells3 ((HBL.out.block (w.heap.size + 1) (by simp)).trans (heap2 _ _ _))
     go_wp2_with fail
     refine hK9.out _ _ (HY.out _ HC10.out) (fun hHeld => ?_)
     clear hK9 K9
     try simp only [Act.put, put_a]
     refine wpAnyH_ready (rs := [13]) (by kernel_rfl) (by simp) ?_
     refine (AllReadyH.cons rfl (fun K9 hK9 => ?_) AllReadyH.nil)
     go_simp
     refine hK9.out _ _ (by obtain ⟨u0, u1, u2⟩ := HY.out _ HC10.out; simp [World.cell?_setCell_other, hne1, u0, u1, u2]) (fun hHeld => ?_)
     clear hK9 K9
     try simp only [Act.put, put_a]
     refine wpAnyH_done (by kernel_rfl) ?_ _
     go_wp2_with fail
     refine bodyPost_ret (v := .agg #[.slice fa fl fc, .slice ba bl bc, .pointer m]) (by simp [results, Tryz.results99, go_sem, cell_set, z0, z1, z2]) rfl (row_close3 (k := 1) (B0 := w.heap.size + 1) (Nat.le_succ _) (Nat.le_refl _) (Nat.lt_succ_self _) (up (bel2 _ _ _) HBL.out) ?_ _ _ _)
     have hp := HRL.out
     rw [HE.out] at hp
     exact hp
  ·skip
   go_simp
   refine hK9.out _ _ (HY.out _ ((bel1 _ _).drew)) (fun hHeld => ?_)
   clear hK9 K9
   try simp only [Act.put, put_a]
   refine wpAnyH_ready (rs := [0, 11]) (by kernel_rfl) (by simp) ?_
   refine (AllReadyH.cons rfl (fun K9 hK9 => ?_) (AllReadyH.cons rfl (fun K9 hK9 => ?_) AllReadyH.nil))
   ·skip
    go_simp
    go_at_call 84
    refine (aTyped_any (S := S₁) n _ (fun b e => by have := HS1.out b e; have := HZ2.out; first | omega | (simp; omega))).mono ?_
    rintro e w3 ⟨vf3, vi3, ve3, rfl, hx, hB⟩
    obtain ⟨K3, c3, K3', c3', rfl, rfl, rfl⟩ := hx.vals1 rfl
    have hb := up (bel1 _ _).drew hB
    have HC3 := Lib.hid (hb)
    have HZ3 := Lib.hid (Nat.le_trans HZ2.out hb.size)
    have He_3 := Lib.hid (HP2.out.below hb)
    have HR3 := Lib.hid hx
    have HMd_3 := Lib.hid ((hB.block _ (lt_of_block (hp1d _ _))).trans (hp1d _ _))
    have HB_d := Lib.hid (show w.heap.size + 1 + 1 ≤ w2.heap.size by have := HZ2.out; omega)
    clear hb hx hB
    go_wp2_with fail
    refine hK9.out _ _ (HY.out _ HC3.out) (fun hHeld => ?_)
    clear hK9 K9
    try simp only [Act.put, put_a]
    refine wpAnyH_ready (rs := [1, 11]) (by kernel_rfl) (by simp) ?_
    refine (AllReadyH.cons rfl (fun K9 hK9 => ?_) (AllReadyH.cons rfl (fun K9 hK9 => ?_) AllReadyH.nil))
    ·skip
     go_simp
     go_at_call 97
     refine (some_any (S := S₁) n _ _ _ typedP _ (fun b e => by have := HS1.out b e; have := HZ3.out; first | omega | (simp; omega)) ((HR3.out.below (Below.refl _ _)).re (andFrom_re (Nat.le_refl _)))).mono ?_
     rintro e w4 ⟨v4, rfl, hx, hB⟩
     have hb := up (Below.refl _ _) hB
     have HC4 := Lib.hid (up HC3.out hb)
     have HZ4 := Lib.hid (Nat.le_trans HZ3.out hb.size)
     have He_4 := Lib.hid (He_3.out.below hb)
     have HR4 := Lib.hid hx
     have HMd_4 := Lib.hid ((hb.block _ (lt_of_block HMd_3.out)).trans HMd_3.out)
     clear hb hx hB
     go_wp2_with fail
     refine hK9.out _ _ (HY.out _ HC4.out) (fun hHeld => ?_)
     clear hK9 K9
     try simp only [Act.put, put_a]
     refine wpAnyH_ready (rs := [3, 11]) (by kernel_rfl) (by simp) ?_
     refine (AllReadyH.cons rfl (fun K9 hK9 => ?_) (AllReadyH.cons rfl (fun K9 hK9 => ?_) AllReadyH.nil))
     ·skip
      go_simp
      go_at_call 94
      refine (aList_differ (S := S₁) n ⟨[typedP], some typedP, []⟩ _ _ _ _ (fun b e => by have := HS1.out b e; have := HZ4.out; first | omega | (simp; omega)) (HR4.out.below (Below.refl _ _)) (by simp) (by simp) preD_typed ⟨lt_of_block ((((Below.refl _ _) : Below w4.heap.size w4 _).block _ (lt_of_block HMd_4.out)).trans HMd_4.out), (fun e => absurd (HS1.out _ e) (by have := HB_d.out; omega)), cell_block ((((Below.refl _ _) : Below w4.heap.size w4 _).block _ (lt_of_block HMd_4.out)).trans HMd_4.out) rfl⟩).mono ?_
      rintro e w5 ⟨vf5, vi5, ve5, rfl, hx, hB⟩
      obtain ⟨K5, c5, K5', c5', rfl, rfl, rfl⟩ := hx.vals1 rfl
      have hb := up (Below.refl _ _) hB
      have HC5 := Lib.hid (up HC4.out hb)
      have HZ5 := Lib.hid (Nat.le_trans HZ4.out hb.size)
      have He_5 := Lib.hid (He_4.out.below hb)
      have HR5 := Lib.hid hx
      clear hb hx hB
      go_wp2_with fail
      refine hK9.out _ _ (HY.out _ HC5.out) (fun hHeld => ?_)
      clear hK9 K9
      try simp only [Act.put, put_a]
      refine wpAnyH_ready (rs := [4, 11]) (by kernel_rfl) (by simp) ?_
      refine (AllReadyH.cons rfl (fun K9 hK9 => ?_) (AllReadyH.cons rfl (fun K9 hK9 => ?_) AllReadyH.nil))
      ·skip
       go_simp
       refine hK9.out _ _ (HY.out _ (up HC5.out (bel1 _ _))) (fun hHeld => ?_)
       clear hK9 K9
       try simp only [Act.put, put_a]
       refine wpAnyH_ready (rs := [5, 11]) (by kernel_rfl) (by simp) ?_
       refine (AllReadyH.cons rfl (fun K9 hK9 => ?_) (AllReadyH.cons rfl (fun K9 hK9 => ?_) AllReadyH.nil))
       ·skip
        go_simp
        go_at_call 82
        refine (just_any (S := S₁) n _ [(listP ⟨[typedP], some typedP, []⟩ differB)] _ _ (parts1 (hp1 _ _) (fun e => absurd (HS1.out _ e) (by have := HZ5.out; omega)) (HR5.out.below (bel1 _ _)))).mono ?_
        rintro e w6 ⟨v6, rfl, hx, hB⟩
        have hb := up (bel1 _ _) hB
        have HC6 := Lib.hid (up HC5.out hb)
        have HZ6 := Lib.hid (Nat.le_trans HZ5.out hb.size)
        have He_6 := Lib.hid (He_5.out.below hb)
        have HR6 := Lib.hid hx
        clear hb hx hB
        go_wp2_with fail
        refine hK9.out _ _ (HY.out _ HC6.out) (fun hHeld => ?_)
        clear hK9 K9
        try simp only [Act.put, put_a]
        refine wpAnyH_ready (rs := [7, 11]) (by kernel_rfl) (by simp) ?_
        refine (AllReadyH.cons rfl (fun K9 hK9 => ?_) (AllReadyH.cons rfl (fun K9 hK9 => ?_) AllReadyH.nil))
        ·skip
         go_simp
         go_at_call 97
         refine (some_any (S := S₁) n _ _ _ (exprP E) _ (fun b e => by have := HS1.out b e; have := HZ6.out; first | omega | (simp; omega)) ((He_6.out.below (Below.refl _ _)).re (andFrom_re (Nat.le_refl _)))).mono ?_
         rintro e w7 ⟨v7, rfl, hx, hB⟩
         have hb := up (Below.refl _ _) hB
         have HC7 := Lib.hid (up HC6.out hb)
         have HZ7 := Lib.hid (Nat.le_trans HZ6.out hb.size)
         have He_7 := Lib.hid (He_6.out.below hb)
         have Hr2_7 := Lib.hid (HR6.out.below hb)
         have HR7 := Lib.hid hx
         clear hb hx hB
         go_wp2_with fail
         refine hK9.out _ _ (HY.out _ HC7.out) (fun hHeld => ?_)
         clear hK9 K9
         try simp only [Act.put, put_a]
         refine wpAnyH_ready (rs := [8, 11]) (by kernel_rfl) (by simp) ?_
         refine (AllReadyH.cons rfl (fun K9 hK9 => ?_) (AllReadyH.cons rfl (fun K9 hK9 => ?_) AllReadyH.nil))
         ·skip
          go_simp
          go_at_call 150
          refine (behind_any (S := S₁) n trigW ⟨[exprP E], some (exprP E), []⟩ _ _ (by simp [trigW]) (fun b e => by have := HS1.out b e; have := HZ7.out; first | omega | (simp; omega)) (HR7.out.below (Below.refl _ _)) (by simp) (by simp)).mono ?_
          rintro e w8 ⟨vf8, vi8, ve8, rfl, hx, hB⟩
          obtain ⟨K8, c8, K8', c8', rfl, rfl, rfl⟩ := hx.vals1 rfl
          have hb := up (Below.refl _ _) hB
          have HC8 := Lib.hid (up HC7.out hb)
          have HZ8 := Lib.hid (Nat.le_trans HZ7.out hb.size)
          have He_8 := Lib.hid (He_7.out.below hb)
          have Hr2_8 := Lib.hid (Hr2_7.out.below hb)
          have HR8 := Lib.hid hx
          clear hb hx hB
          go_wp2_with fail
          refine hK9.out _ _ (HY.out _ HC8.out) (fun hHeld => ?_)
          clear hK9 K9
          try simp only [Act.put, put_a]
          refine wpAnyH_ready (rs := [9, 11]) (by kernel_rfl) (by simp) ?_
          refine (AllReadyH.cons rfl (fun K9 hK9 => ?_) (AllReadyH.cons rfl (fun K9 hK9 => ?_) AllReadyH.nil))
          ·skip
           go_simp
           go_at_call 93
           refine (any_any (S := S₁) n _ _ _ _ _ (behindP trigW ⟨[exprP E], some (exprP E), []⟩) _ (fun b e => by have := HS1.out b e; have := HZ8.out; first | omega | (simp; omega)) (Hr2_8.out.below (Below.refl _ _)) (HR8.out.below (Below.refl _ _))).mono ?_
           rintro e w9 ⟨v9, rfl, hx, hB⟩
           have hb := up (Below.refl _ _) hB
           have HC9 := Lib.hid (up HC8.out hb)
           have HZ9 := Lib.hid (Nat.le_trans HZ8.out hb.size)
           have He_9 := Lib.hid (He_8.out.below hb)
           have HR9 := Lib.hid hx
           clear hb hx hB
           go_wp2_with fail
           refine hK9.out _ _ (HY.out _ HC9.out) (fun hHeld => ?_)
           clear hK9 K9
           try simp only [Act.put, put_a]
           refine wpAnyH_ready (rs := [11]) (by kernel_rfl) (by simp) ?_
           refine (AllReadyH.cons rfl (fun K9 hK9 => ?_) AllReadyH.nil)
           go_simp
           refine hK9.out _ _ (HY.out _ (up HC9.out (bel1 _ _))) (fun hHeld => ?_)
           clear hK9 K9
           try simp only [Act.put, put_a]
           refine wpAnyH_ready (rs := [12]) (by kernel_rfl) (by simp) ?_
           refine (AllReadyH.cons rfl (fun K9 hK9 => ?_) AllReadyH.nil)
           go_simp
           go_at_call 147
           refine (end_any (S := S₁) n _ _ _ [exprP E] _ _ (HR9.out.below (bel1 _ _)) (parts1 (hp1 _ _) (fun e => absurd (HS1.out _ e) (by have := HZ9.out; omega)) (He_9.out.below (bel1 _ _)))).mono ?_
           rintro e w10 ⟨v10, rfl, hx, hB⟩
           obtain ⟨fa, fl, fc, ba, bl, bc, m, rfl⟩ := hx.vals
           have hb := up (bel1 _ _) hB
           have HC10 := Lib.hid (up HC9.out hb)
           have HR10 := Lib.hid hx
           clear hb hx hB
           have HRL := HR10
           have HBL := Lib.hid (up HB2.out HC10.out)
           obtain ⟨⟨z0, z1, z2⟩, z3, z4, z5⟩ := cells3 ((HBL.out.block (w.heap.size + 1) (by simp)).trans (heap2 _ _ _))
           go_wp2_with fail
           refine hK9.out _ _ (HY.out _ HC10.out) (fun hHeld => ?_)
           clear hK9 K9
           try simp only [Act.put, put_a]
           refine wpAnyH_ready (rs := [13]) (by kernel_rfl) (by simp) ?_
           refine (AllReadyH.cons rfl (fun K9 hK9 => ?_) AllReadyH.nil)
           go_simp
           refine hK9.out _ _ (by obtain ⟨u0, u1, u2⟩ := HY.out _ HC10.out; simp [World.cell?_setCell_other, hne1, u0, u1, u2]) (fun hHeld => ?_)
           clear hK9 K9
           try simp only [Act.put, put_a]
           refine wpAnyH_done (by kernel_rfl) ?_ _
           go_wp2_with fail
           refine bodyPost_ret (v := .agg #[.slice fa fl fc, .slice ba bl bc, .pointer m]) (by simp [results, Tryz.results99, go_sem, cell_set, z0, z1, z2]) rfl (row_close3 (k := 1) (B0 := w.heap.size + 1) (Nat.le_succ _) (Nat.le_refl _) (Nat.lt_succ_self _) (up (bel2 _ _ _) HBL.out) ?_ _ _ _)
           have hp := HRL.out
           rw [HE.out] at hp
           exact hp
          ·skip
           go_simp
           refine hK9.out _ _ (HY.out _ (up HC8.out (bel1 _ _))) (fun hHeld => ?_)
           clear hK9 K9
           try simp only [Act.put, put_a]
           refine wpAnyH_ready (rs := [9]) (by kernel_rfl) (by simp) ?_
           refine (AllReadyH.cons rfl (fun K9 hK9 => ?_) AllReadyH.nil)
           go_simp
           go_at_call 93
           refine (any_any (S := S₁) n _ _ _ _ _ (behindP trigW ⟨[exprP E], some (exprP E), []⟩) _ (fun b e => by have := HS1.out b e; have := HZ8.out; first | omega | (simp; omega)) (Hr2_8.out.below (bel1 _ _)) (HR8.out.below (bel1 _ _))).mono ?_
           rintro e w9 ⟨v9, rfl, hx, hB⟩
           have hb := up (bel1 _ _) hB
           have HC9 := Lib.hid (up HC8.out hb)
           have He_9 := Lib.hid (He_8.out.below hb)
           have HR9 := Lib.hid hx
           have HMl2_9 := Lib.hid ((hB.block _ (lt_of_block (hp1 _ _))).trans (hp1 _ _))
           have HB_l2 := Lib.hid (show w.heap.size + 1 + 1 ≤ w8.heap.size by have := HZ8.out; omega)
           clear hb hx hB
           go_wp2_with fail
           refine hK9.out _ _ (HY.out _ HC9.out) (fun hHeld => ?_)
           clear hK9 K9
           try simp only [Act.put, put_a]
           refine wpAnyH_ready (rs := [12]) (by kernel_rfl) (by simp) ?_
           refine (AllReadyH.cons rfl (fun K9 hK9 => ?_) AllReadyH.nil)
           go_simp
           go_at_call 147
           refine (end_any (S := S₁) n _ _ _ [exprP E] _ _ (HR9.out.below (Below.refl _ _)) (parts1 ((((Below.refl _ _) : Below w9.heap.size w9 _).block _ (lt_of_block HMl2_9.out)).trans HMl2_9.out) (fun e => absurd (HS1.out _ e) (by have := HB_l2.out; omega)) (He_9.out.below (Below.refl _ _)))).mono ?_
           rintro e w10 ⟨v10, rfl, hx, hB⟩
           obtain ⟨fa, fl, fc, ba, bl, bc, m, rfl⟩ := hx.vals
           have hb := up (Below.refl _ _) hB
           have HC10 := Lib.hid (up HC9.out hb)
           have HR10 := Lib.hid hx
           clear hb hx hB
           have HRL := HR10
           have HBL := Lib.hid (up HB2.out HC10.out)
           obtain ⟨⟨z0, z1, z2⟩, z3, z4, z5⟩ := cells3 ((HBL.out.block (w.heap.size + 1) (by simp)).trans (heap2 _ _ _))
           go_wp2_with fail
           refine hK9.out _ _ (HY.out _ HC10.out) (fun hHeld => ?_)
           clear hK9 K9
           try simp only [Act.put, put_a]
           refine wpAnyH_ready (rs := [13]) (by kernel_rfl) (by simp) ?_
           refine (AllReadyH.cons rfl (fun K9 hK9 => ?_) AllReadyH.nil)
           go_simp
           refine hK9.out _ _ (by obtain ⟨u0, u1, u2⟩ := HY.out _ HC10.out; simp [World.cell?_setCell_other, hne1, u0, u1, u2]) (fun hHeld => ?_)
           clear hK9 K9
           try simp only [Act.put, put_a]
           refine wpAnyH_done (by kernel_rfl) ?_ _
           go_wp2_with fail
           refine bodyPost_ret (v := .agg #[.slice fa fl fc, .slice ba bl bc, .pointer m]) (by simp [results, Tryz.results99, go_sem, cell_set, z0, z1, z2]) rfl (row_close3 (k := 1) (B0 := w.heap.size + 1) (Nat.le_succ _) (Nat.le_refl _) (Nat.lt_succ_self _) (up (bel2 _ _ _) HBL.out) ?_ _ _ _)
           have hp := HRL.out
           rw [HE.out] at hp
           exact hp
         ·skip
          go_simp
          refine hK9.out _ _ (HY.out _ (up HC7.out (bel1 _ _))) (fun hHeld => ?_)
          clear hK9 K9
          try simp only [Act.put, put_a]
          refine wpAnyH_ready (rs := [8]) (by kernel_rfl) (by simp) ?_
          refine (AllReadyH.cons rfl (fun K9 hK9 => ?_) AllReadyH.nil)
          go_simp
          go_at_call 150
          refine (behind_any (S := S₁) n trigW ⟨[exprP E], some (exprP E), []⟩ _ _ (by simp [trigW]) (fun b e => by have := HS1.out b e; have := HZ7.out; first | omega | (simp; omega)) (HR7.out.below (bel1 _ _)) (by simp) (by simp)).mono ?_
          rintro e w8 ⟨vf8, vi8, ve8, rfl, hx, hB⟩
          obtain ⟨K8, c8, K8', c8', rfl, rfl, rfl⟩ := hx.vals1 rfl
          have hb := up (bel1 _ _) hB
          have HC8 := Lib.hid (up HC7.out hb)
          have HZ8 := Lib.hid (Nat.le_trans HZ7.out hb.size)
          have He_8 := Lib.hid (He_7.out.below hb)
          have Hr2_8 := Lib.hid (Hr2_7.out.below hb)
          have HR8 := Lib.hid hx
          have HMl2_8 := Lib.hid ((hB.block _ (lt_of_block (hp1 _ _))).trans (hp1 _ _))
          have HB_l2 := Lib.hid (show w.heap.size + 1 + 1 ≤ w7.heap.size by have := HZ7.out; omega)
          clear hb hx hB
          go_wp2_with fail
          refine hK9.out _ _ (HY.out _ HC8.out) (fun hHeld => ?_)
          clear hK9 K9
          try simp only [Act.put, put_a]
          refine wpAnyH_ready (rs := [9]) (by kernel_rfl) (by simp) ?_
          refine (AllReadyH.cons rfl (fun K9 hK9 => ?_) AllReadyH.nil)
          go_simp
          go_at_call 93
          refine (any_any (S := S₁) n _ _ _ _ _ (behindP trigW ⟨[exprP E], some (exprP E), []⟩) _ (fun b e => by have := HS1.out b e; have := HZ8.out; first | omega | (simp; omega)) (Hr2_8.out.below (Below.refl _ _)) (HR8.out.below (Below.refl _ _))).mono ?_
          rintro e w9 ⟨v9, rfl, hx, hB⟩
          have hb := up (Below.refl _ _) hB
          have HC9 := Lib.hid (up HC8.out hb)
          have He_9 := Lib.hid (He_8.out.below hb)
          have HR9 := Lib.hid hx
          have HMl2_9 := Lib.hid ((hb.block _ (lt_of_block HMl2_8.out)).trans HMl2_8.out)
          clear hb hx hB
          go_wp2_with fail
          refine hK9.out _ _ (HY.out _ HC9.out) (fun hHeld => ?_)
          clear hK9 K9
          try simp only [Act.put, put_a]
          refine wpAnyH_ready (rs := [12]) (by kernel_rfl) (by simp) ?_
          refine (AllReadyH.cons rfl (fun K9 hK9 => ?_) AllReadyH.nil)
          go_simp
          go_at_call 147
          refine (end_any (S := S₁) n _ _ _ [exprP E] _ _ (HR9.out.below (Below.refl _ _)) (parts1 ((((Below.refl _ _) : Below w9.heap.size w9 _).block _ (lt_of_block HMl2_9.out)).trans HMl2_9.out) (fun e => absurd (HS1.out _ e) (by have := HB_l2.out; omega)) (He_9.out.below (Below.refl _ _)))).mono ?_
          rintro e w10 ⟨v10, rfl, hx, hB⟩
          obtain ⟨fa, fl, fc, ba, bl, bc, m, rfl⟩ := hx.vals
          have hb := up (Below.refl _ _) hB
          have HC10 := Lib.hid (up HC9.out hb)
          have HR10 := Lib.hid hx
          clear hb hx hB
          have HRL := HR10
          have HBL := Lib.hid (up HB2.out HC10.out)
          obtain ⟨⟨z0, z1, z2⟩, z3, z4, z5⟩ := cells3 ((HBL.out.block (w.heap.size + 1) (by simp)).trans (heap2 _ _ _))
          go_wp2_with fail
          refine hK9.out _ _ (HY.out _ HC10.out) (fun hHeld => ?_)
          clear hK9 K9
          try simp only [Act.put, put_a]
          refine wpAnyH_ready (rs := [13]) (by kernel_rfl) (by simp) ?_
          refine (AllReadyH.cons rfl (fun K9 hK9 => ?_) AllReadyH.nil)
          go_simp
          refine hK9.out _ _ (by obtain ⟨u0, u1, u2⟩ := HY.out _ HC10.out; simp [World.cell?_setCell_other, hne1, u0, u1, u2]) (fun hHeld => ?_)
          clear hK9 K9
          try simp only [Act.put, put_a]
          refine wpAnyH_done (by kernel_rfl) ?_ _
          go_wp2_with fail
          refine bodyPost_ret (v := .agg #[.slice fa fl fc, .slice ba bl bc, .pointer m]) (by simp [results, Tryz.results99, go_sem, cell_set, z0, z1, z2]) rfl (row_close3 (k := 1) (B0 := w.heap.size + 1) (Nat.le_succ _) (Nat.le_refl _) (Nat.lt_succ_self _) (up (bel2 _ _ _) HBL.out) ?_ _ _ _)
          have hp := HRL.out
          rw [HE.out] at hp
          exact hp
        ·skip
         go_simp
         refine hK9.out _ _ (HY.out _ (up HC6.out (bel1 _ _))) (fun hHeld => ?_)
         clear hK9 K9
         try simp only [Act.put, put_a]
         refine wpAnyH_ready (rs := [7]) (by kernel_rfl) (by simp) ?_
         refine (AllReadyH.cons rfl (fun K9 hK9 => ?_) AllReadyH.nil)
         go_simp
         go_at_call 97
         refine (some_any (S := S₁) n _ _ _ (exprP E) _ (fun b e => by have := HS1.out b e; have := HZ6.out; first | omega | (simp; omega)) ((He_6.out.below (bel1 _ _)).re (andFrom_re (Nat.le_refl _)))).mono ?_
         rintro e w7 ⟨v7, rfl, hx, hB⟩
         have hb := up (bel1 _ _) hB
         have HC7 := Lib.hid (up HC6.out hb)
         have HZ7 := Lib.hid (Nat.le_trans HZ6.out hb.size)
         have He_7 := Lib.hid (He_6.out.below hb)
         have Hr2_7 := Lib.hid (HR6.out.below hb)
         have HR7 := Lib.hid hx
         have HMl2_7 := Lib.hid ((hB.block _ (lt_of_block (hp1 _ _))).trans (hp1 _ _))
         have HB_l2 := Lib.hid (show w.heap.size + 1 + 1 ≤ w6.heap.size by have := HZ6.out; omega)
         clear hb hx hB
         go_wp2_with fail
         refine hK9.out _ _ (HY.out _ HC7.out) (fun hHeld => ?_)
         clear hK9 K9
         try simp only [Act.put, put_a]
         refine wpAnyH_ready (rs := [8]) (by kernel_rfl) (by simp) ?_
         refine (AllReadyH.cons rfl (fun K9 hK9 => ?_) AllReadyH.nil)
         go_simp
         go_at_call 150
         refine (behind_any (S := S₁) n trigW ⟨[exprP E], some (exprP E), []⟩ _ _ (by simp [trigW]) (fun b e => by have := HS1.out b e; have := HZ7.out; first | omega | (simp; omega)) (HR7.out.below (Below.refl _ _)) (by simp) (by simp)).mono ?_
         rintro e w8 ⟨vf8, vi8, ve8, rfl, hx, hB⟩
         obtain ⟨K8, c8, K8', c8', rfl, rfl, rfl⟩ := hx.vals1 rfl
         have hb := up (Below.refl _ _) hB
         have HC8 := Lib.hid (up HC7.out hb)
         have HZ8 := Lib.hid (Nat.le_trans HZ7.out hb.size)
         have He_8 := Lib.hid (He_7.out.below hb)
         have Hr2_8 := Lib.hid (Hr2_7.out.below hb)
         have HR8 := Lib.hid hx
         have HMl2_8 := Lib.hid ((hb.block _ (lt_of_block HMl2_7.out)).trans HMl2_7.out)
         clear hb hx hB
         go_wp2_with fail
         refine hK9.out _ _ (HY.out _ HC8.out) (fun hHeld => ?_)
         clear hK9 K9
         try simp only [Act.put, put_a]
         refine wpAnyH_ready (rs := [9]) (by kernel_rfl) (by simp) ?_
         refine (AllReadyH.cons rfl (fun K9 hK9 => ?_) AllReadyH.nil)
         go_simp
         go_at_call 93
         refine (any_any (S := S₁) n _ _ _ _ _ (behindP trigW ⟨[exprP E], some (exprP E), []⟩) _ (fun b e => by have := HS1.out b e; have := HZ8.out; first | omega | (simp; omega)) (Hr2_8.out.below (Below.refl _ _)) (HR8.out.below (Below.refl _ _))).mono ?_
         rintro e w9 ⟨v9, rfl, hx, hB⟩
         have hb := up (Below.refl _ _) hB
         have HC9 := Lib.hid (up HC8.out hb)
         have He_9 := Lib.hid (He_8.out.below hb)
         have HR9 := Lib.hid hx
         have HMl2_9 := Lib.hid ((hb.block _ (lt_of_block HMl2_8.out)).trans HMl2_8.out)
         clear hb hx hB
         go_wp2_with fail
         refine hK9.out _ _ (HY.out _ HC9.out) (fun hHeld => ?_)
         clear hK9 K9
         try simp only [Act.put, put_a]
         refine wpAnyH_ready (rs := [12]) (by kernel_rfl) (by simp) ?_
         refine (AllReadyH.cons rfl (fun K9 hK9 => ?_) AllReadyH.nil)
         go_simp
         go_at_call 147
         refine (end_any (S := S₁) n _ _ _ [exprP E] _ _ (HR9.out.below (Below.refl _ _)) (parts1 ((((Below.refl _ _) : Below w9.heap.size w9 _).block _ (lt_of_block HMl2_9.out)).trans HMl2_9.out) (fun e => absurd (HS1.out _ e) (by have := HB_l2.out; omega)) (He_9.out.below (Below.refl _ _)))).mono ?_
         rintro e w10 ⟨v10, rfl, hx, hB⟩
         obtain ⟨fa, fl, fc, ba, bl, bc, m, rfl⟩ := hx.vals
         have hb := up (Below.refl _ _) hB
         have HC10 := Lib.hid (up HC9.out hb)
         have HR10 := Lib.hid hx
         clear hb hx hB
         have HRL := HR10
         have HBL := Lib.hid (up HB2.out HC10.out)
         obtain ⟨⟨z0, z1, z2⟩, z3, z4, z5⟩ := cells3 ((HBL.out.block (w.heap.size + 1) (by simp)).trans (heap2 _ _ _))
         go_wp2_with fail
         refine hK9.out _ _ (HY.out _ HC10.out) (fun hHeld => ?_)
         clear hK9 K9
         try simp only [Act.put, put_a]
         refine wpAnyH_ready (rs := [13]) (by kernel_rfl) (by simp) ?_
         refine (AllReadyH.cons rfl (fun K9 hK9 => ?_) AllReadyH.nil)
         go_simp
         refine hK9.out _ _ (by obtain ⟨u0, u1, u2⟩ := HY.out _ HC10.out; simp [World.cell?_setCell_other, hne1, u0, u1, u2]) (fun hHeld => ?_)
         clear hK9 K9
         try simp only [Act.put, put_a]
         refine wpAnyH_done (by kernel_rfl) ?_ _
         go_wp2_with fail
         refine bodyPost_ret (v := .agg #[.slice fa fl fc, .slice ba bl bc, .pointer m]) (by simp [results, Tryz.results99, go_sem, cell_set, z0, z1, z2]) rfl (row_close3 (k := 1) (B0 := w.heap.size + 1) (Nat.le_succ _) (Nat.le_refl _) (Nat.lt_succ_self _) (up (bel2 _ _ _) HBL.out) ?_ _ _ _)
         have hp := HRL.out
         rw [HE.out] at hp
         exact hp
       ·skip
        go_simp
        refine hK9.out _ _ (HY.out _ (up HC5.out (bel2 _ _ _))) (fun hHeld => ?_)
        clear hK9 K9
        try simp only [Act.put, put_a]
        refine wpAnyH_ready (rs := [5]) (by kernel_rfl) (by simp) ?_
        refine (AllReadyH.cons rfl (fun K9 hK9 => ?_) AllReadyH.nil)
        go_simp
        go_at_call 82
        refine (just_any (S := S₁) n _ [(listP ⟨[typedP], some typedP, []⟩ differB)] _ _ (parts1 (hp2a _ _ _) (fun e => absurd (HS1.out _ e) (by have := HZ5.out; omega)) (HR5.out.below (bel2 _ _ _)))).mono ?_
        rintro e w6 ⟨v6, rfl, hx, hB⟩
        have hb := up (bel2 _ _ _) hB
        have HC6 := Lib.hid (up HC5.out hb)
        have HZ6 := Lib.hid (Nat.le_trans HZ5.out hb.size)
        have He_6 := Lib.hid (He_5.out.below hb)
        have HR6 := Lib.hid hx
        have HMl2_6 := Lib.hid ((hB.block _ (lt_of_block (hp2b _ _ _))).trans (hp2b _ _ _))
        have HB_l2 := Lib.hid (show w.heap.size + 1 + 1 ≤ w5.heap.size + 1 by have := HZ5.out; omega)
        clear hb hx hB
        go_wp2_with fail
        refine hK9.out _ _ (HY.out _ HC6.out) (fun hHeld => ?_)
        clear hK9 K9
        try simp only [Act.put, put_a]
        refine wpAnyH_ready (rs := [7]) (by kernel_rfl) (by simp) ?_
        refine (AllReadyH.cons rfl (fun K9 hK9 => ?_) AllReadyH.nil)
        go_simp
        go_at_call 97
        refine (some_any (S := S₁) n _ _ _ (exprP E) _ (fun b e => by have := HS1.out b e; have := HZ6.out; first | omega | (simp; omega)) ((He_6.out.below (Below.refl _ _)).re (andFrom_re (Nat.le_refl _)))).mono ?_
        rintro e w7 ⟨v7, rfl, hx, hB⟩
        have hb := up (Below.refl _ _) hB
        have HC7 := Lib.hid (up HC6.out hb)
        have HZ7 := Lib.hid (Nat.le_trans HZ6.out hb.size)
        have He_7 := Lib.hid (He_6.out.below hb)
        have Hr2_7 := Lib.hid (HR6.out.below hb)
        have HR7 := Lib.hid hx
        have HMl2_7 := Lib.hid ((hb.block _ (lt_of_block HMl2_6.out)).trans HMl2_6.out)
        clear hb hx hB
        go_wp2_with fail
        refine hK9.out _ _ (HY.out _ HC7.out) (fun hHeld => ?_)
        clear hK9 K9
        try simp only [Act.put, put_a]
        refine wpAnyH_ready (rs := [8]) (by kernel_rfl) (by simp) ?_
        refine (AllReadyH.cons rfl (fun K9 hK9 => ?_) AllReadyH.nil)
        go_simp
        go_at_call 150
        refine (behind_any (S := S₁) n trigW ⟨[exprP E], some (exprP E), []⟩ _ _ (by simp [trigW]) (fun b e => by have := HS1.out b e; have := HZ7.out; first | omega | (simp; omega)) (HR7.out.below (Below.refl _ _)) (by simp) (by simp)).mono ?_
        rintro e w8 ⟨vf8, vi8, ve8, rfl, hx, hB⟩
        obtain ⟨K8, c8, K8', c8', rfl, rfl, rfl⟩ := hx.vals1 rfl
        have hb := up (Below.refl _ _) hB
        have HC8 := Lib.hid (up HC7.out hb)
        have HZ8 := Lib.hid (Nat.le_trans HZ7.out hb.size)
        have He_8 := Lib.hid (He_7.out.below hb)
        have Hr2_8 := Lib.hid (Hr2_7.out.below hb)
        have HR8 := Lib.hid hx
        have HMl2_8 := Lib.hid ((hb.block _ (lt_of_block HMl2_7.out)).trans HMl2_7.out)
        clear hb hx hB
        go_wp2_with fail
        refine hK9.out _ _ (HY.out _ HC8.out) (fun hHeld => ?_)
        clear hK9 K9
        try simp only [Act.put, put_a]
        refine wpAnyH_ready (rs := [9]) (by kernel_rfl) (by simp) ?_
        refine (AllReadyH.cons rfl (fun K9 hK9 => ?_) AllReadyH.nil)
        go_simp
        go_at_call 93
        refine (any_any (S := S₁) n _ _ _ _ _ (behindP trigW ⟨[exprP E], some (exprP E), []⟩) _ (fun b e => by have := HS1.out b e; have := HZ8.out; first | omega | (simp; omega)) (Hr2_8.out.below (Below.refl _ _)) (HR8.out.below (Below.refl _ _))).mono ?_
        rintro e w9 ⟨v9, rfl, hx, hB⟩
        have hb := up (Below.refl _ _) hB
        have HC9 := Lib.hid (up HC8.out hb)
        have He_9 := Lib.hid (He_8.out.below hb)
        have HR9 := Lib.hid hx
        have HMl2_9 := Lib.hid ((hb.block _ (lt_of_block HMl2_8.out)).trans HMl2_8.out)
        clear hb hx hB
        go_wp2_with fail
        refine hK9.out _ _ (HY.out _ HC9.out) (fun hHeld => ?_)
        clear hK9 K9
        try simp only [Act.put, put_a]
        refine wpAnyH_ready (rs := [12]) (by kernel_rfl) (by simp) ?_
        refine (AllReadyH.cons rfl (fun K9 hK9 => ?_) AllReadyH.nil)
        go_simp
        go_at_call 147
        refine (end_any (S := S₁) n _ _ _ [exprP E] _ _ (HR9.out.below (Below.refl _ _)) (parts1 ((((Below.refl _ _) : Below w9.heap.size w9 _).block _ (lt_of_block HMl2_9.out)).trans HMl2_9.out) (fun e => absurd (HS1.out _ e) (by have := HB_l2.out; omega)) (He_9.out.below (Below.refl _ _)))).mono ?_
        rintro e w10 ⟨v10, rfl, hx, hB⟩
        obtain ⟨fa, fl, fc, ba, bl, bc, m, rfl⟩ := hx.vals
        have hb := up (Below.refl _ _) hB
        have HC10 := Lib.hid (up HC9.out hb)
        have HR10 := Lib.hid hx
        clear hb hx hB
        have HRL := HR10
        have HBL := Lib.hid (up HB2.out HC10.out)
        obtain ⟨⟨z0, z1, z2⟩, z3, z4, z5⟩ := cells3 ((HBL.out.block (w.heap.size + 1) (by simp)).trans (heap2 _ _ _))
        go_wp2_with fail
        refine hK9.out _ _ (HY.out _ HC10.out) (fun hHeld => ?_)
        clear hK9 K9
        try simp only [Act.put, put_a]
        refine wpAnyH_ready (rs := [13]) (by kernel_rfl) (by simp) ?_
        refine (AllReadyH.cons rfl (fun K9 hK9 => ?_) AllReadyH.nil)
        go_simp
        refine hK9.out _ _ (by obtain ⟨u0, u1, u2⟩ := HY.out _ HC10.out; simp [World.cell?_setCell_other, hne1, u0, u1, u2]) (fun hHeld => ?_)
        clear hK9 K9
        try simp only [Act.put, put_a]
        refine wpAnyH_done (by kernel_rfl) ?_ _
        go_wp2_with fail
        refine bodyPost_ret (v := .agg #[.slice fa fl fc, .slice ba bl bc, .pointer m]) (by simp [results, Tryz.results99, go_sem, cell_set, z0, z1, z2]) rfl (row_close3 (k := 1) (B0 := w.heap.size + 1) (Nat.le_succ _) (Nat.le_refl _) (Nat.lt_succ_self _) (up (bel2 _ _ _) HBL.out) ?_ _ _ _)
        have hp := HRL.out
        rw [HE.out] at hp
        exact hp
      ·skip
       go_simp
       refine hK9.out _ _ (HY.out _ (up HC5.out (bel1 _ _))) (fun hHeld => ?_)
       clear hK9 K9
       try simp only [Act.put, put_a]
       refine wpAnyH_ready (rs := [4]) (by kernel_rfl) (by simp) ?_
       refine (AllReadyH.cons rfl (fun K9 hK9 => ?_) AllReadyH.nil)
       go_simp
       refine hK9.out _ _ (HY.out _ (up HC5.out (bel2 _ _ _))) (fun hHeld => ?_)
       clear hK9 K9
       try simp only [Act.put, put_a]
       refine wpAnyH_ready (rs := [5]) (by kernel_rfl) (by simp) ?_
       refine (AllReadyH.cons rfl (fun K9 hK9 => ?_) AllReadyH.nil)
       go_simp
       go_at_call 82
       refine (just_any (S := S₁) n _ [(listP ⟨[typedP], some typedP, []⟩ differB)] _ _ (parts1 (hp2b _ _ _) (fun e => absurd (HS1.out _ e) (by have := HZ5.out; omega)) (HR5.out.below (bel2 _ _ _)))).mono ?_
       rintro e w6 ⟨v6, rfl, hx, hB⟩
       have hb := up (bel2 _ _ _) hB
       have HC6 := Lib.hid (up HC5.out hb)
       have HZ6 := Lib.hid (Nat.le_trans HZ5.out hb.size)
       have He_6 := Lib.hid (He_5.out.below hb)
       have HR6 := Lib.hid hx
       have HMl2_6 := Lib.hid ((hB.block _ (lt_of_block (hp2a _ _ _))).trans (hp2a _ _ _))
       have HB_l2 := Lib.hid (show w.heap.size + 1 + 1 ≤ w5.heap.size by have := HZ5.out; omega)
       clear hb hx hB
       go_wp2_with fail
       refine hK9.out _ _ (HY.out _ HC6.out) (fun hHeld => ?_)
       clear hK9 K9
       try simp only [Act.put, put_a]
       refine wpAnyH_ready (rs := [7]) (by kernel_rfl) (by simp) ?_
       refine (AllReadyH.cons rfl (fun K9 hK9 => ?_) AllReadyH.nil)
       go_simp
       go_at_call 97
       refine (some_any (S := S₁) n _ _ _ (exprP E) _ (fun b e => by have := HS1.out b e; have := HZ6.out; first | omega | (simp; omega)) ((He_6.out.below (Below.refl _ _)).re (andFrom_re (Nat.le_refl _)))).mono ?_
       rintro e w7 ⟨v7, rfl, hx, hB⟩
       have hb := up (Below.refl _ _) hB
       have HC7 := Lib.hid (up HC6.out hb)
       have HZ7 := Lib.hid (Nat.le_trans HZ6.out hb.size)
       have He_7 := Lib.hid (He_6.out.below hb)
       have Hr2_7 := Lib.hid (HR6.out.below hb)
       have HR7 := Lib.hid hx
       have HMl2_7 := Lib.hid ((hb.block _ (lt_of_block HMl2_6.out)).trans HMl2_6.out)
       clear hb hx hB
       go_wp2_with fail
       refine hK9.out _ _ (HY.out _ HC7.out) (fun hHeld => ?_)
       clear hK9 K9
       try simp only [Act.put, put_a]
       refine wpAnyH_ready (rs := [8]) (by kernel_rfl) (by simp) ?_
       refine (AllReadyH.cons rfl (fun K9 hK9 => ?_) AllReadyH.nil)
       go_simp
       go_at_call 150
       refine (behind_any (S := S₁) n trigW ⟨[exprP E], some (exprP E), []⟩ _ _ (by simp [trigW]) (fun b e => by have := HS1.out b e; have := HZ7.out; first | omega | (simp; omega)) (HR7.out.below (Below.refl _ _)) (by simp) (by simp)).mono ?_
       rintro e w8 ⟨vf8, vi8, ve8, rfl, hx, hB⟩
       obtain ⟨K8, c8, K8', c8', rfl, rfl, rfl⟩ := hx.vals1 rfl
       have hb := up (Below.refl _ _) hB
       have HC8 := Lib.hid (up HC7.out hb)
       have HZ8 := Lib.hid (Nat.le_trans HZ7.out hb.size)
       have He_8 := Lib.hid (He_7.out.below hb)
       have Hr2_8 := Lib.hid (Hr2_7.out.below hb)
       have HR8 := Lib.hid hx
       have HMl2_8 := Lib.hid ((hb.block _ (lt_of_block HMl2_7.out)).trans HMl2_7.out)
       clear hb hx hB
       go_wp2_with fail
       refine hK9.out _ _ (HY.out _ HC8.out) (fun hHeld => ?_)
       clear hK9 K9
       try simp only [Act.put, put_a]
       refine wpAnyH_ready (rs := [9]) (by kernel_rfl) (by simp) ?_
       refine (AllReadyH.cons rfl (fun K9 hK9 => ?_) AllReadyH.nil)
       go_simp
       go_at_call 93
       refine (any_any (S := S₁) n _ _ _ _ _ (behindP trigW ⟨[exprP E], some (exprP E), []⟩) _ (fun b e => by have := HS1.out b e; have := HZ8.out; first | omega | (simp; omega)) (Hr2_8.out.below (Below.refl _ _)) (HR8.out.below (Below.refl _ _))).mono ?_
       rintro e w9 ⟨v9, rfl, hx, hB⟩
       have hb := up (Below.refl _ _) hB
       have HC9 := Lib.hid (up HC8.out hb)
       have He_9 := Lib.hid (He_8.out.below hb)
       have HR9 := Lib.hid hx
       have HMl2_9 := Lib.hid ((hb.block _ (lt_of_block HMl2_8.out)).trans HMl2_8.out)
       clear hb hx hB
       go_wp2_with fail
       refine hK9.out _ _ (HY.out _ HC9.out) (fun hHeld => ?_)
       clear hK9 K9
       try simp only [Act.put, put_a]
       refine wpAnyH_ready (rs := [12]) (by kernel_rfl) (by simp) ?_
       refine (AllReadyH.cons rfl (fun K9 hK9 => ?_) AllReadyH.nil)
       go_simp
       go_at_call 147
       refine (end_any (S := S₁) n _ _ _ [exprP E] _ _ (HR9.out.below (Below.refl _ _)) (parts1 ((((Below.refl _ _) : Below w9.heap.size w9 _).block _ (lt_of_block HMl2_9.out)).trans HMl2_9.out) (fun e => absurd (HS1.out _ e) (by have := HB_l2.out; omega)) (He_9.out.below (Below.refl _ _)))).mono ?_
       rintro e w10 ⟨v10, rfl, hx, hB⟩
       obtain ⟨fa, fl, fc, ba, bl, bc, m, rfl⟩ := hx.vals
       have hb := up (Below.refl _ _) hB
       have HC10 := Lib.hid (up HC9.out hb)
       have HR10 := Lib.hid hx
       clear hb hx hB
       have HRL := HR10
       have HBL := Lib.hid (up HB2.out HC10.out)
       obtain ⟨⟨z0, z1, z2⟩, z3, z4, z5⟩ := cells3 ((HBL.out.block (w.heap.size + 1) (by simp)).trans (heap2 _ _ _))
       go_wp2_with fail
       refine hK9.out _ _ (HY.out _ HC10.out) (fun hHeld => ?_)
       clear hK9 K9
       try simp only [Act.put, put_a]
       refine wpAnyH_ready (rs := [13]) (by kernel_rfl) (by simp) ?_
       refine (AllReadyH.cons rfl (fun K9 hK9 => ?_) AllReadyH.nil)
       go_simp
       refine hK9.out _ _ (by obtain ⟨u0, u1, u2⟩ := HY.out _ HC10.out; simp [World.cell?_setCell_other, hne1, u0, u1, u2]) (fun hHeld => ?_)
       clear hK9 K9
       try simp only [Act.put, put_a]
       refine wpAnyH_done (by kernel_rfl) ?_ _
       go_wp2_with fail
       refine bodyPost_ret (v := .agg #[.slice fa fl fc, .slice ba bl bc, .pointer m]) (by simp [results, Tryz.results99, go_sem, cell_set, z0, z1, z2]) rfl (row_close3 (k := 1) (B0 := w.heap.size + 1) (Nat.le_succ _) (Nat.le_refl _) (Nat.lt_succ_self _) (up (bel2 _ _ _) HBL.out) ?_ _ _ _)
       have hp := HRL.out
       rw [HE.out] at hp
       exact hp
     ·skip
      go_simp
      refine hK9.out _ _ (HY.out _ (up HC4.out (bel1 _ _))) (fun hHeld => ?_)
      clear hK9 K9
      try simp only [Act.put, put_a]
      refine wpAnyH_ready (rs := [3]) (by kernel_rfl) (by simp) ?_
      refine (AllReadyH.cons rfl (fun K9 hK9 => ?_) AllReadyH.nil)
      go_simp
      go_at_call 94
      refine (aList_differ (S := S₁) n ⟨[typedP], some typedP, []⟩ _ _ _ _ (fun b e => by have := HS1.out b e; have := HZ4.out; first | omega | (simp; omega)) (HR4.out.below (bel1 _ _)) (by simp) (by simp) preD_typed ⟨lt_of_block ((((bel1 _ _) : Below w4.heap.size w4 _).block _ (lt_of_block HMd_4.out)).trans HMd_4.out), (fun e => absurd (HS1.out _ e) (by have := HB_d.out; omega)), cell_block ((((bel1 _ _) : Below w4.heap.size w4 _).block _ (lt_of_block HMd_4.out)).trans HMd_4.out) rfl⟩).mono ?_
      rintro e w5 ⟨vf5, vi5, ve5, rfl, hx, hB⟩
      obtain ⟨K5, c5, K5', c5', rfl, rfl, rfl⟩ := hx.vals1 rfl
      have hb := up (bel1 _ _) hB
      have HC5 := Lib.hid (up HC4.out hb)
      have HZ5 := Lib.hid (Nat.le_trans HZ4.out hb.size)
      have He_5 := Lib.hid (He_4.out.below hb)
      have HR5 := Lib.hid hx
      have HMl2_5 := Lib.hid ((hB.block _ (lt_of_block (hp1 _ _))).trans (hp1 _ _))
      have HB_l2 := Lib.hid (show w.heap.size + 1 + 1 ≤ w4.heap.size by have := HZ4.out; omega)
      clear hb hx hB
      go_wp2_with fail
      refine hK9.out _ _ (HY.out _ HC5.out) (fun hHeld => ?_)
      clear hK9 K9
      try simp only [Act.put, put_a]
      refine wpAnyH_ready (rs := [4]) (by kernel_rfl) (by simp) ?_
      refine (AllReadyH.cons rfl (fun K9 hK9 => ?_) AllReadyH.nil)
      go_simp
      refine hK9.out _ _ (HY.out _ (up HC5.out (bel1 _ _))) (fun hHeld => ?_)
      clear hK9 K9
      try simp only [Act.put, put_a]
      refine wpAnyH_ready (rs := [5]) (by kernel_rfl) (by simp) ?_
      refine (AllReadyH.cons rfl (fun K9 hK9 => ?_) AllReadyH.nil)
      go_simp
      go_at_call 82
      refine (just_any (S := S₁) n _ [(listP ⟨[typedP], some typedP, []⟩ differB)] _ _ (parts1 (hp1 _ _) (fun e => absurd (HS1.out _ e) (by have := HZ5.out; omega)) (HR5.out.below (bel1 _ _)))).mono ?_
      rintro e w6 ⟨v6, rfl, hx, hB⟩
      have hb := up (bel1 _ _) hB
      have HC6 := Lib.hid (up HC5.out hb)
      have HZ6 := Lib.hid (Nat.le_trans HZ5.out hb.size)
      have He_6 := Lib.hid (He_5.out.below hb)
      have HR6 := Lib.hid hx
      have HMl2_6 := Lib.hid ((hb.block _ (lt_of_block HMl2_5.out)).trans HMl2_5.out)
      clear hb hx hB
      go_wp2_with fail
      refine hK9.out _ _ (HY.out _ HC6.out) (fun hHeld => ?_)
      clear hK9 K9
      try simp only [Act.put, put_a]
      refine wpAnyH_ready (rs := [7]) (by kernel_rfl) (by simp) ?_
      refine (AllReadyH.cons rfl (fun K9 hK9 => ?_) AllReadyH.nil)
      go_simp
      go_at_call 97
      refine (some_any (S := S₁) n _ _ _ (exprP E) _ (fun b e => by have := HS1.out b e; have := HZ6.out; first | omega | (simp; omega)) ((He_6.out.below (Below.refl _ _)).re (andFrom_re (Nat.le_refl _)))).mono ?_
      rintro e w7 ⟨v7, rfl, hx, hB⟩
      have hb := up (Below.refl _ _) hB
      have HC7 := Lib.hid (up HC6.out hb)
      have HZ7 := Lib.hid (Nat.le_trans HZ6.out hb.size)
      have He_7 := Lib.hid (He_6.out.below hb)
      have Hr2_7 := Lib.hid (HR6.out.below hb)
      have HR7 := Lib.hid hx
      have HMl2_7 := Lib.hid ((hb.block _ (lt_of_block HMl2_6.out)).trans HMl2_6.out)
      clear hb hx hB
      go_wp2_with fail
      refine hK9.out _ _ (HY.out _ HC7.out) (fun hHeld => ?_)
      clear hK9 K9
      try simp only [Act.put, put_a]
      refine wpAnyH_ready (rs := [8]) (by kernel_rfl) (by simp) ?_
      refine (AllReadyH.cons rfl (fun K9 hK9 => ?_) AllReadyH.nil)
      go_simp
      go_at_call 150
      refine (behind_any (S := S₁) n trigW ⟨[exprP E], some (exprP E), []⟩ _ _ (by simp [trigW]) (fun b e => by have := HS1.out b e; have := HZ7.out; first | omega | (simp; omega)) (HR7.out.below (Below.refl _ _)) (by simp) (by simp)).mono ?_
      rintro e w8 ⟨vf8, vi8, ve8, rfl, hx, hB⟩
      obtain ⟨K8, c8, K8', c8', rfl, rfl, rfl⟩ := hx.vals1 rfl
      have hb := up (Below.refl _ _) hB
      have HC8 := Lib.hid (up HC7.out hb)
      have HZ8 := Lib.hid (Nat.le_trans HZ7.out hb.size)
      have He_8 := Lib.hid (He_7.out.below hb)
      have Hr2_8 := Lib.hid (Hr2_7.out.below hb)
      have HR8 := Lib.hid hx
      have HMl2_8 := Lib.hid ((hb.block _ (lt_of_block HMl2_7.out)).trans HMl2_7.out)
      clear hb hx hB
      go_wp2_with fail
      refine hK9.out _ _ (HY.out _ HC8.out) (fun hHeld => ?_)
      clear hK9 K9
      try simp only [Act.put, put_a]
      refine wpAnyH_ready (rs := [9]) (by kernel_rfl) (by simp) ?_
      refine (AllReadyH.cons rfl (fun K9 hK9 => ?_) AllReadyH.nil)
      go_simp
      go_at_call 93
      refine (any_any (S := S₁) n _ _ _ _ _ (behindP trigW ⟨[exprP E], some (exprP E), []⟩) _ (fun b e => by have := HS1.out b e; have := HZ8.out; first | omega | (simp; omega)) (Hr2_8.out.below (Below.refl _ _)) (HR8.out.below (Below.refl _ _))).mono ?_
      rintro e w9 ⟨v9, rfl, hx, hB⟩
      have hb := up (Below.refl _ _) hB
      have HC9 := Lib.hid (up HC8.out hb)
      have He_9 := Lib.hid (He_8.out.below hb)
      have HR9 := Lib.hid hx
      have HMl2_9 := Lib.hid ((hb.block _ (lt_of_block HMl2_8.out)).trans HMl2_8.out)
      clear hb hx hB
      go_wp2_with fail
      refine hK9.out _ _ (HY.out _ HC9.out) (fun hHeld => ?_)
      clear hK9 K9
      try simp only [Act.put, put_a]
      refine wpAnyH_ready (rs := [12]) (by kernel_rfl) (by simp) ?_
      refine (AllReadyH.cons rfl (fun K9 hK9 => ?_) AllReadyH.nil)
      go_simp
      go_at_call 147
      refine (end_any (S := S₁) n _ _ _ [exprP E] _ _ (HR9.out.below (Below.refl _ _)) (parts1 ((((Below.refl _ _) : Below w9.heap.size w9 _).block _ (lt_of_block HMl2_9.out)).trans HMl2_9.out) (fun e => absurd (HS1.out _ e) (by have := HB_l2.out; omega)) (He_9.out.below (Below.refl _ _)))).mono ?_
      rintro e w10 ⟨v10, rfl, hx, hB⟩
      obtain ⟨fa, fl, fc, ba, bl, bc, m, rfl⟩ := hx.vals
      have hb := up (Below.refl _ _) hB
      have HC10 := Lib.hid (up HC9.out hb)
      have HR10 := Lib.hid hx
      clear hb hx hB
      have HRL := HR10
      have HBL := Lib.hid (up HB2.out HC10.out)
      obtain ⟨⟨z0, z1, z2⟩, z3, z4, z5⟩ := cells3 ((HBL.out.block (w.heap.size + 1) (by simp)).trans (heap2 _ _ _))
      go_wp2_with fail
      refine hK9.out _ _ (HY.out _ HC10.out) (fun hHeld => ?_)
      clear hK9 K9
      try simp only [Act.put, put_a]
      refine wpAnyH_ready (rs := [13]) (by kernel_rfl) (by simp) ?_
      refine (AllReadyH.cons rfl (fun K9 hK9 => ?_) AllReadyH.nil)
      go_simp
      refine hK9.out _ _ (by obtain ⟨u0, u1, u2⟩ := HY.out _ HC10.out; simp [World.cell?_setCell_other, hne1, u0, u1, u2]) (fun hHeld => ?_)
      clear hK9 K9
      try simp only [Act.put, put_a]
      refine wpAnyH_done (by kernel_rfl) ?_ _
      go_wp2_with fail
      refine bodyPost_ret (v := .agg #[.slice fa fl fc, .slice ba bl bc, .pointer m]) (by simp [results, Tryz.results99, go_sem, cell_set, z0, z1, z2]) rfl (row_close3 (k := 1) (B0 := w.heap.size + 1) (Nat.le_succ _) (Nat.le_refl _) (Nat.lt_succ_self _) (up (bel2 _ _ _) HBL.out) ?_ _ _ _)
      have hp := HRL.out
      rw [HE.out] at hp
      exact hp
    ·skip
     go_simp
     refine hK9.out _ _ (HY.out _ (up HC3.out (bel1 _ _))) (fun hHeld => ?_)
     clear hK9 K9
     try simp only [Act.put, put_a]
     refine wpAnyH_ready (rs := [1]) (by kernel_rfl) (by simp) ?_
     refine (AllReadyH.cons rfl (fun K9 hK9 => ?_) AllReadyH.nil)
     go_simp
     go_at_call 97
     refine (some_any (S := S₁) n _ _ _ typedP _ (fun b e => by have := HS1.out b e; have := HZ3.out; first | omega | (simp; omega)) ((HR3.out.below (bel1 _ _)).re (andFrom_re (Nat.le_refl _)))).mono ?_
     rintro e w4 ⟨v4, rfl, hx, hB⟩
     have hb := up (bel1 _ _) hB
     have HC4 := Lib.hid (up HC3.out hb)
     have HZ4 := Lib.hid (Nat.le_trans HZ3.out hb.size)
     have He_4 := Lib.hid (He_3.out.below hb)
     have HR4 := Lib.hid hx
     have HMd_4 := Lib.hid ((hb.block _ (lt_of_block HMd_3.out)).trans HMd_3.out)
     have HMl2_4 := Lib.hid ((hB.block _ (lt_of_block (hp1 _ _))).trans (hp1 _ _))
     have HB_l2 := Lib.hid (show w.heap.size + 1 + 1 ≤ w3.heap.size by have := HZ3.out; omega)
     clear hb hx hB
     go_wp2_with fail
     refine hK9.out _ _ (HY.out _ HC4.out) (fun hHeld => ?_)
     clear hK9 K9
     try simp only [Act.put, put_a]
     refine wpAnyH_ready (rs := [3]) (by kernel_rfl) (by simp) ?_
     refine (AllReadyH.cons rfl (fun K9 hK9 => ?_) AllReadyH.nil)
     go_simp
     go_at_call 94
     refine (aList_differ (S := S₁) n ⟨[typedP], some typedP, []⟩ _ _ _ _ (fun b e => by have := HS1.out b e; have := HZ4.out; first | omega | (simp; omega)) (HR4.out.below (Below.refl _ _)) (by simp) (by simp) preD_typed ⟨lt_of_block ((((Below.refl _ _) : Below w4.heap.size w4 _).block _ (lt_of_block HMd_4.out)).trans HMd_4.out), (fun e => absurd (HS1.out _ e) (by have := HB_d.out; omega)), cell_block ((((Below.refl _ _) : Below w4.heap.size w4 _).block _ (lt_of_block HMd_4.out)).trans HMd_4.out) rfl⟩).mono ?_
     rintro e w5 ⟨vf5, vi5, ve5, rfl, hx, hB⟩
     obtain ⟨K5, c5, K5', c5', rfl, rfl, rfl⟩ := hx.vals1 rfl
     have hb := up (Below.refl _ _) hB
     have HC5 := Lib.hid (up HC4.out hb)
     have HZ5 := Lib.hid (Nat.le_trans HZ4.out hb.size)
     have He_5 := Lib.hid (He_4.out.below hb)
     have HR5 := Lib.hid hx
     have HMl2_5 := Lib.hid ((hb.block _ (lt_of_block HMl2_4.out)).trans HMl2_4.out)
     clear hb hx hB
     go_wp2_with fail
     refine hK9.out _ _ (HY.out _ HC5.out) (fun hHeld => ?_)
     clear hK9 K9
     try simp only [Act.put, put_a]
     refine wpAnyH_ready (rs := [4]) (by kernel_rfl) (by simp) ?_
     refine (AllReadyH.cons rfl (fun K9 hK9 => ?_) AllReadyH.nil)
     go_simp
     refine hK9.out _ _ (HY.out _ (up HC5.out (bel1 _ _))) (fun hHeld => ?_)
     clear hK9 K9
     try simp only [Act.put, put_a]
     refine wpAnyH_ready (rs := [5]) (by kernel_rfl) (by simp) ?_
     refine (AllReadyH.cons rfl (fun K9 hK9 => ?_) AllReadyH.nil)
     go_simp
     go_at_call 82
     refine (just_any (S := S₁) n _ [(listP ⟨[typedP], some typedP, []⟩ differB)] _ _ (parts1 (hp1 _ _) (fun e => absurd (HS1.out _ e) (by have := HZ5.out; omega)) (HR5.out.below (bel1 _ _)))).mono ?_
     rintro e w6 ⟨v6, rfl, hx, hB⟩
     have hb := up (bel1 _ _) hB
     have HC6 := Lib.hid (up HC5.out hb)
     have HZ6 := Lib.hid (Nat.le_trans HZ5.out hb.size)
     have He_6 := Lib.hid (He_5.out.below hb)
     have HR6 := Lib.hid hx
     have HMl2_6 := Lib.hid ((hb.block _ (lt_of_block HMl2_5.out)).trans HMl2_5.out)
     clear hb hx hB
     go_wp2_with fail
     refine hK9.out _ _ (HY.out _ HC6.out) (fun hHeld => ?_)
     clear hK9 K9
     try simp only [Act.put, put_a]
     refine wpAnyH_ready (rs := [7]) (by kernel_rfl) (by simp) ?_
     refine (AllReadyH.cons rfl (fun K9 hK9 => ?_) AllReadyH.nil)
     go_simp
     go_at_call 97
     refine (some_any (S := S₁) n _ _ _ (exprP E) _ (fun b e => by have := HS1.out b e; have := HZ6.out; first | omega | (simp; omega)) ((He_6.out.below (Below.refl _ _)).re (andFrom_re (Nat.le_refl _)))).mono ?_
     rintro e w7 ⟨v7, rfl, hx, hB⟩
     have hb := up (Below.refl _ _) hB
     have HC7 := Lib.hid (up HC6.out hb)
     have HZ7 := Lib.hid (Nat.le_trans HZ6.out hb.size)
     have He_7 := Lib.hid (He_6.out.below hb)
     have Hr2_7 := Lib.hid (HR6.out.below hb)
     have HR7 := Lib.hid hx
     have HMl2_7 := Lib.hid ((hb.block _ (lt_of_block HMl2_6.out)).trans HMl2_6.out)
     clear hb hx hB
     go_wp2_with fail
     refine hK9.out _ _ (HY.out _ HC7.out) (fun hHeld => ?_)
     clear hK9 K9
     try simp only [Act.put, put_a]
     refine wpAnyH_ready (rs := [8]) (by kernel_rfl) (by simp) ?_
     refine (AllReadyH.cons rfl (fun K9 hK9 => ?_) AllReadyH.nil)
     go_simp
     go_at_call 150
     refine (behind_any (S := S₁) n trigW ⟨[exprP E], some (exprP E), []⟩ _ _ (by simp [trigW]) (fun b e => by have := HS1.out b e; have := HZ7.out; first | omega | (simp; omega)) (HR7.out.below (Below.refl _ _)) (by simp) (by simp)).mono ?_
     rintro e w8 ⟨vf8, vi8, ve8, rfl, hx, hB⟩
     obtain ⟨K8, c8, K8', c8', rfl, rfl, rfl⟩ := hx.vals1 rfl
     have hb := up (Below.refl _ _) hB
     have HC8 := Lib.hid (up HC7.out hb)
     have HZ8 := Lib.hid (Nat.le_trans HZ7.out hb.size)
     have He_8 := Lib.hid (He_7.out.below hb)
     have Hr2_8 := Lib.hid (Hr2_7.out.below hb)
     have HR8 := Lib.hid hx
     have HMl2_8 := Lib.hid ((hb.block _ (lt_of_block HMl2_7.out)).trans HMl2_7.out)
     clear hb hx hB
     go_wp2_with fail
     refine hK9.out _ _ (HY.out _ HC8.out) (fun hHeld => ?_)
     clear hK9 K9
     try simp only [Act.put, put_a]
     refine wpAnyH_ready (rs := [9]) (by kernel_rfl) (by simp) ?_
     refine (AllReadyH.cons rfl (fun K9 hK9 => ?_) AllReadyH.nil)
     go_simp
     go_at_call 93
     refine (any_any (S := S₁) n _ _ _ _ _ (behindP trigW ⟨[exprP E], some (exprP E), []⟩) _ (fun b e => by have := HS1.out b e; have := HZ8.out; first | omega | (simp; omega)) (Hr2_8.out.below (Below.refl _ _)) (HR8.out.below (Below.refl _ _))).mono ?_
     rintro e w9 ⟨v9, rfl, hx, hB⟩
     have hb := up (Below.refl _ _) hB
     have HC9 := Lib.hid (up HC8.out hb)
     have He_9 := Lib.hid (He_8.out.below hb)
     have HR9 := Lib.hid hx
     have HMl2_9 := Lib.hid ((hb.block _ (lt_of_block HMl2_8.out)).trans HMl2_8.out)
     clear hb hx hB
     go_wp2_with fail
     refine hK9.out _ _ (HY.out _ HC9.out) (fun hHeld => ?_)
     clear hK9 K9
     try simp only [Act.put, put_a]
     refine wpAnyH_ready (rs := [12]) (by kernel_rfl) (by simp) ?_
     refine (AllReadyH.cons rfl (fun K9 hK9 => ?_) AllReadyH.nil)
     go_simp
     go_at_call 147
     refine (end_any (S := S₁) n _ _ _ [exprP E] _ _ (HR9.out.below (Below.refl _ _)) (parts1 ((((Below.refl _ _) : Below w9.heap.size w9 _).block _ (lt_of_block HMl2_9.out)).trans HMl2_9.out) (fun e => absurd (HS1.out _ e) (by have := HB_l2.out; omega)) (He_9.out.below (Below.refl _ _)))).mono ?_
     rintro e w10 ⟨v10, rfl, hx, hB⟩
     obtain ⟨fa, fl, fc, ba, bl, bc, m, rfl⟩ := hx.vals
     have hb := up (Below.refl _ _) hB
     have HC10 := Lib.hid (up HC9.out hb)
     have HR10 := Lib.hid hx
     clear hb hx hB
     have HRL := HR10
     have HBL := Lib.hid (up HB2.out HC10.out)
     obtain ⟨⟨z0, z1, z2⟩, z3, z4, z5⟩ := cells3 ((HBL.out.block (w.heap.size + 1) (by simp)).trans (heap2 _ _ _))
     go_wp2_with fail
     refine hK9.out _ _ (HY.out _ HC10.out) (fun hHeld => ?_)
     clear hK9 K9
     try simp only [Act.put, put_a]
     refine wpAnyH_ready (rs := [13]) (by kernel_rfl) (by simp) ?_
     refine (AllReadyH.cons rfl (fun K9 hK9 => ?_) AllReadyH.nil)
     go_simp
     refine hK9.out _ _ (by obtain ⟨u0, u1, u2⟩ := HY.out _ HC10.out; simp [World.cell?_setCell_other, hne1, u0, u1, u2]) (fun hHeld => ?_)
     clear hK9 K9
     try simp only [Act.put, put_a]
     refine wpAnyH_done (by kernel_rfl) ?_ _
     go_wp2_with fail
     refine bodyPost_ret (v := .agg #[.slice fa fl fc, .slice ba bl bc, .pointer m]) (by simp [results, Tryz.results99, go_sem, cell_set, z0, z1, z2]) rfl (row_close3 (k := 1) (B0 := w.heap.size + 1) (Nat.le_succ _) (Nat.le_refl _) (Nat.lt_succ_self _) (up (bel2 _ _ _) HBL.out) ?_ _ _ _)
     have hp := HRL.out
     rw [HE.out] at hp
     exact hp
   ·skip
    go_simp
    refine hK9.out _ _ (HY.out _ ((bel2 _ _ _).drew)) (fun hHeld => ?_)
    clear hK9 K9
    try simp only [Act.put, put_a]
    refine wpAnyH_ready (rs := [0]) (by kernel_rfl) (by simp) ?_
    refine (AllReadyH.cons rfl (fun K9 hK9 => ?_) AllReadyH.nil)
    go_simp
    go_at_call 84
    refine (aTyped_any (S := S₁) n _ (fun b e => by have := HS1.out b e; have := HZ2.out; first | omega | (simp; omega))).mono ?_
    rintro e w3 ⟨vf3, vi3, ve3, rfl, hx, hB⟩
    obtain ⟨K3, c3, K3', c3', rfl, rfl, rfl⟩ := hx.vals1 rfl
    have hb := up (bel2 _ _ _).drew hB
    have HC3 := Lib.hid (hb)
    have HZ3 := Lib.hid (Nat.le_trans HZ2.out hb.size)
    have He_3 := Lib.hid (HP2.out.below hb)
    have HR3 := Lib.hid hx
    have HMd_3 := Lib.hid ((hB.block _ (lt_of_block (hp2ad _ _ _))).trans (hp2ad _ _ _))
    have HB_d := Lib.hid (show w.heap.size + 1 + 1 ≤ w2.heap.size by have := HZ2.out; omega)
    have HMl2_3 := Lib.hid ((hB.block _ (lt_of_block (hp2bd _ _ _))).trans (hp2bd _ _ _))
    have HB_l2 := Lib.hid (show w.heap.size + 1 + 1 ≤ w2.heap.size + 1 by have := HZ2.out; omega)
    clear hb hx hB
    go_wp2_with fail
    refine hK9.out _ _ (HY.out _ HC3.out) (fun hHeld => ?_)
    clear hK9 K9
    try simp only [Act.put, put_a]
    refine wpAnyH_ready (rs := [1]) (by kernel_rfl) (by simp) ?_
    refine (AllReadyH.cons rfl (fun K9 hK9 => ?_) AllReadyH.nil)
    go_simp
    go_at_call 97
    refine (some_any (S := S₁) n _ _ _ typedP _ (fun b e => by have := HS1.out b e; have := HZ3.out; first | omega | (simp; omega)) ((HR3.out.below (Below.refl _ _)).re (andFrom_re (Nat.le_refl _)))).mono ?_
    rintro e w4 ⟨v4, rfl, hx, hB⟩
    have hb := up (Below.refl _ _) hB
    have HC4 := Lib.hid (up HC3.out hb)
    have HZ4 := Lib.hid (Nat.le_trans HZ3.out hb.size)
    have He_4 := Lib.hid (He_3.out.below hb)
    have HR4 := Lib.hid hx
    have HMd_4 := Lib.hid ((hb.block _ (lt_of_block HMd_3.out)).trans HMd_3.out)
    have HMl2_4 := Lib.hid ((hb.block _ (lt_of_block HMl2_3.out)).trans HMl2_3.out)
    clear hb hx hB
    go_wp2_with fail
    refine hK9.out _ _ (HY.out _ HC4.out) (fun hHeld => ?_)
    clear hK9 K9
    try simp only [Act.put, put_a]
    refine wpAnyH_ready (rs := [3]) (by kernel_rfl) (by simp) ?_
    refine (AllReadyH.cons rfl (fun K9 hK9 => ?_) AllReadyH.nil)
    go_simp
    go_at_call 94
    refine (aList_differ (S := S₁) n ⟨[typedP], some typedP, []⟩ _ _ _ _ (fun b e => by have := HS1.out b e; have := HZ4.out; first | omega | (simp; omega)) (HR4.out.below (Below.refl _ _)) (by simp) (by simp) preD_typed ⟨lt_of_block ((((Below.refl _ _) : Below w4.heap.size w4 _).block _ (lt_of_block HMd_4.out)).trans HMd_4.out), (fun e => absurd (HS1.out _ e) (by have := HB_d.out; omega)), cell_block ((((Below.refl _ _) : Below w4.heap.size w4 _).block _ (lt_of_block HMd_4.out)).trans HMd_4.out) rfl⟩).mono ?_
    rintro e w5 ⟨vf5, vi5, ve5, rfl, hx, hB⟩
    obtain ⟨K5, c5, K5', c5', rfl, rfl, rfl⟩ := hx.vals1 rfl
    have hb := up (Below.refl _ _) hB
    have HC5 := Lib.hid (up HC4.out hb)
    have HZ5 := Lib.hid (Nat.le_trans HZ4.out hb.size)
    have He_5 := Lib.hid (He_4.out.below hb)
    have HR5 := Lib.hid hx
    have HMl2_5 := Lib.hid ((hb.block _ (lt_of_block HMl2_4.out)).trans HMl2_4.out)
    clear hb hx hB
    go_wp2_with fail
    refine hK9.out _ _ (HY.out _ HC5.out) (fun hHeld => ?_)
    clear hK9 K9
    try simp only [Act.put, put_a]
    refine wpAnyH_ready (rs := [4]) (by kernel_rfl) (by simp) ?_
    refine (AllReadyH.cons rfl (fun K9 hK9 => ?_) AllReadyH.nil)
    go_simp
    refine hK9.out _ _ (HY.out _ (up HC5.out (bel1 _ _))) (fun hHeld => ?_)
    clear hK9 K9
    try simp only [Act.put, put_a]
    refine wpAnyH_ready (rs := [5]) (by kernel_rfl) (by simp) ?_
    refine (AllReadyH.cons rfl (fun K9 hK9 => ?_) AllReadyH.nil)
    go_simp
    go_at_call 82
    refine (just_any (S := S₁) n _ [(listP ⟨[typedP], some typedP, []⟩ differB)] _ _ (parts1 (hp1 _ _) (fun e => absurd (HS1.out _ e) (by have := HZ5.out; omega)) (HR5.out.below (bel1 _ _)))).mono ?_
    rintro e w6 ⟨v6, rfl, hx, hB⟩
    have hb := up (bel1 _ _) hB
    have HC6 := Lib.hid (up HC5.out hb)
    have HZ6 := Lib.hid (Nat.le_trans HZ5.out hb.size)
    have He_6 := Lib.hid (He_5.out.below hb)
    have HR6 := Lib.hid hx
    have HMl2_6 := Lib.hid ((hb.block _ (lt_of_block HMl2_5.out)).trans HMl2_5.out)
    clear hb hx hB
    go_wp2_with fail
    refine hK9.out _ _ (HY.out _ HC6.out) (fun hHeld => ?_)
    clear hK9 K9
    try simp only [Act.put, put_a]
    refine wpAnyH_ready (rs := [7]) (by kernel_rfl) (by simp) ?_
    refine (AllReadyH.cons rfl (fun K9 hK9 => ?_) AllReadyH.nil)
    go_simp
    go_at_call 97
    refine (some_any (S := S₁) n _ _ _ (exprP E) _ (fun b e => by have := HS1.out b e; have := HZ6.out; first | omega | (simp; omega)) ((He_6.out.below (Below.refl _ _)).re (andFrom_re (Nat.le_refl _)))).mono ?_
    rintro e w7 ⟨v7, rfl, hx, hB⟩
    have hb := up (Below.refl _ _) hB
    have HC7 := Lib.hid (up HC6.out hb)
    have HZ7 := Lib.hid (Nat.le_trans HZ6.out hb.size)
    have He_7 := Lib.hid (He_6.out.below hb)
    have Hr2_7 := Lib.hid (HR6.out.below hb)
    have HR7 := Lib.hid hx
    have HMl2_7 := Lib.hid ((hb.block _ (lt_of_block HMl2_6.out)).trans HMl2_6.out)
    clear hb hx hB
    go_wp2_with fail
    refine hK9.out _ _ (HY.out _ HC7.out) (fun hHeld => ?_)
    clear hK9 K9
    try simp only [Act.put, put_a]
    refine wpAnyH_ready (rs := [8]) (by kernel_rfl) (by simp) ?_
    refine (AllReadyH.cons rfl (fun K9 hK9 => ?_) AllReadyH.nil)
    go_simp
    go_at_call 150
    refine (behind_any (S := S₁) n trigW ⟨[exprP E], some (exprP E), []⟩ _ _ (by simp [trigW]) (fun b e => by have := HS1.out b e; have := HZ7.out; first | omega | (simp; omega)) (HR7.out.below (Below.refl _ _)) (by simp) (by simp)).mono ?_
    rintro e w8 ⟨vf8, vi8, ve8, rfl, hx, hB⟩
    obtain ⟨K8, c8, K8', c8', rfl, rfl, rfl⟩ := hx.vals1 rfl
    have hb := up (Below.refl _ _) hB
    have HC8 := Lib.hid (up HC7.out hb)
    have HZ8 := Lib.hid (Nat.le_trans HZ7.out hb.size)
    have He_8 := Lib.hid (He_7.out.below hb)
    have Hr2_8 := Lib.hid (Hr2_7.out.below hb)
    have HR8 := Lib.hid hx
    have HMl2_8 := Lib.hid ((hb.block _ (lt_of_block HMl2_7.out)).trans HMl2_7.out)
    clear hb hx hB
    go_wp2_with fail
    refine hK9.out _ _ (HY.out _ HC8.out) (fun hHeld => ?_)
    clear hK9 K9
    try simp only [Act.put, put_a]
    refine wpAnyH_ready (rs := [9]) (by kernel_rfl) (by simp) ?_
    refine (AllReadyH.cons rfl (fun K9 hK9 => ?_) AllReadyH.nil)
    go_simp
    go_at_call 93
    refine (any_any (S := S₁) n _ _ _ _ _ (behindP trigW ⟨[exprP E], some (exprP E), []⟩) _ (fun b e => by have := HS1.out b e; have := HZ8.out; first | omega | (simp; omega)) (Hr2_8.out.below (Below.refl _ _)) (HR8.out.below (Below.refl _ _))).mono ?_
    rintro e w9 ⟨v9, rfl, hx, hB⟩
    have hb := up (Below.refl _ _) hB
    have HC9 := Lib.hid (up HC8.out hb)
    have He_9 := Lib.hid (He_8.out.below hb)
    have HR9 := Lib.hid hx
    have HMl2_9 := Lib.hid ((hb.block _ (lt_of_block HMl2_8.out)).trans HMl2_8.out)
    clear hb hx hB
    go_wp2_with fail
    refine hK9.out _ _ (HY.out _ HC9.out) (fun hHeld => ?_)
    clear hK9 K9
    try simp only [Act.put, put_a]
    refine wpAnyH_ready (rs := [12]) (by kernel_rfl) (by simp) ?_
    refine (AllReadyH.cons rfl (fun K9 hK9 => ?_) AllReadyH.nil)
    go_simp
    go_at_call 147
    refine (end_any (S := S₁) n _ _ _ [exprP E] _ _ (HR9.out.below (Below.refl _ _)) (parts1 ((((Below.refl _ _) : Below w9.heap.size w9 _).block _ (lt_of_block HMl2_9.out)).trans HMl2_9.out) (fun e => absurd (HS1.out _ e) (by have := HB_l2.out; omega)) (He_9.out.below (Below.refl _ _)))).mono ?_
    rintro e w10 ⟨v10, rfl, hx, hB⟩
    obtain ⟨fa, fl, fc, ba, bl, bc, m, rfl⟩ := hx.vals
    have hb := up (Below.refl _ _) hB
    have HC10 := Lib.hid (up HC9.out hb)
    have HR10 := Lib.hid hx
    clear hb hx hB
    have HRL := HR10
    have HBL := Lib.hid (up HB2.out HC10.out)
    obtain ⟨⟨z0, z1, z2⟩, z3, z4, z5⟩ := cells3 ((HBL.out.block (w.heap.size + 1) (by simp)).trans (heap2 _ _ _))
    go_wp2_with fail
    refine hK9.out _ _ (HY.out _ HC10.out) (fun hHeld => ?_)
    clear hK9 K9
    try simp only [Act.put, put_a]
    refine wpAnyH_ready (rs := [13]) (by kernel_rfl) (by simp) ?_
    refine (AllReadyH.cons rfl (fun K9 hK9 => ?_) AllReadyH.nil)
    go_simp
    refine hK9.out _ _ (by obtain ⟨u0, u1, u2⟩ := HY.out _ HC10.out; simp [World.cell?_setCell_other, hne1, u0, u1, u2]) (fun hHeld => ?_)
    clear hK9 K9
    try simp only [Act.put, put_a]
    refine wpAnyH_done (by kernel_rfl) ?_ _
    go_wp2_with fail
    refine bodyPost_ret (v := .agg #[.slice fa fl fc, .slice ba bl bc, .pointer m]) (by simp [results, Tryz.results99, go_sem, cell_set, z0, z1, z2]) rfl (row_close3 (k := 1) (B0 := w.heap.size + 1) (Nat.le_succ _) (Nat.le_refl _) (Nat.lt_succ_self _) (up (bel2 _ _ _) HBL.out) ?_ _ _ _)
    have hp := HRL.out
    rw [HE.out] at hp
    exact hp
  ·skip
   go_simp
   refine hK9.out _ _ (HY.out _ ((bel1 _ _).drew)) (fun hHeld => ?_)
   clear hK9 K9
   try simp only [Act.put, put_a]
   refine wpAnyH_ready (rs := [0, 2]) (by kernel_rfl) (by simp) ?_
   refine (AllReadyH.cons rfl (fun K9 hK9 => ?_) (AllReadyH.cons rfl (fun K9 hK9 => ?_) AllReadyH.nil))
   ·skip
    go_simp
    go_at_call 84
    refine (aTyped_any (S := S₁) n _ (fun b e => by have := HS1.out b e; have := HZ2.out; first | omega | (simp; omega))).mono ?_
    rintro e w3 ⟨vf3, vi3, ve3, rfl, hx, hB⟩
    obtain ⟨K3, c3, K3', c3', rfl, rfl, rfl⟩ := hx.vals1 rfl
    have hb := up (bel1 _ _).drew hB
    have HC3 := Lib.hid (hb)
    have HZ3 := Lib.hid (Nat.le_trans HZ2.out hb.size)
    have He_3 := Lib.hid (HP2.out.below hb)
    have HR3 := Lib.hid hx
    have HMl2_3 := Lib.hid ((hB.block _ (lt_of_block (hp1d _ _))).trans (hp1d _ _))
    have HB_l2 := Lib.hid (show w.heap.size + 1 + 1 ≤ w2.heap.size by have := HZ2.out; omega)
    clear hb hx hB
    go_wp2_with fail
    refine hK9.out _ _ (HY.out _ HC3.out) (fun hHeld => ?_)
    clear hK9 K9
    try simp only [Act.put, put_a]
    refine wpAnyH_ready (rs := [1, 2]) (by kernel_rfl) (by simp) ?_
    refine (AllReadyH.cons rfl (fun K9 hK9 => ?_) (AllReadyH.cons rfl (fun K9 hK9 => ?_) AllReadyH.nil))
    ·skip
     go_simp
     go_at_call 97
     refine (some_any (S := S₁) n _ _ _ typedP _ (fun b e => by have := HS1.out b e; have := HZ3.out; first | omega | (simp; omega)) ((HR3.out.below (Below.refl _ _)).re (andFrom_re (Nat.le_refl _)))).mono ?_
     rintro e w4 ⟨v4, rfl, hx, hB⟩
     have hb := up (Below.refl _ _) hB
     have HC4 := Lib.hid (up HC3.out hb)
     have HZ4 := Lib.hid (Nat.le_trans HZ3.out hb.size)
     have He_4 := Lib.hid (He_3.out.below hb)
     have HR4 := Lib.hid hx
     have HMl2_4 := Lib.hid ((hb.block _ (lt_of_block HMl2_3.out)).trans HMl2_3.out)
     clear hb hx hB
     go_wp2_with fail
     refine hK9.out _ _ (HY.out _ HC4.out) (fun hHeld => ?_)
     clear hK9 K9
     try simp only [Act.put, put_a]
     refine wpAnyH_ready (rs := [2]) (by kernel_rfl) (by simp) ?_
     refine (AllReadyH.cons rfl (fun K9 hK9 => ?_) AllReadyH.nil)
     go_simp
     refine hK9.out _ _ (HY.out _ (up HC4.out (bel1 _ _))) (fun hHeld => ?_)
     clear hK9 K9
     try simp only [Act.put, put_a]
     refine wpAnyH_ready (rs := [3]) (by kernel_rfl) (by simp) ?_
     refine (AllReadyH.cons rfl (fun K9 hK9 => ?_) AllReadyH.nil)
     go_simp
     go_at_call 94
     refine (aList_differ (S := S₁) n ⟨[typedP], some typedP, []⟩ _ _ _ _ (fun b e => by have := HS1.out b e; have := HZ4.out; first | omega | (simp; omega)) (HR4.out.below (bel1 _ _)) (by simp) (by simp) preD_typed ⟨lt_of_block (hp1 _ _), (fun e => absurd (HS1.out _ e) (by have := HZ4.out; omega)), cell_block (hp1 _ _) rfl⟩).mono ?_
     rintro e w5 ⟨vf5, vi5, ve5, rfl, hx, hB⟩
     obtain ⟨K5, c5, K5', c5', rfl, rfl, rfl⟩ := hx.vals1 rfl
     have hb := up (bel1 _ _) hB
     have HC5 := Lib.hid (up HC4.out hb)
     have HZ5 := Lib.hid (Nat.le_trans HZ4.out hb.size)
     have He_5 := Lib.hid (He_4.out.below hb)
     have HR5 := Lib.hid hx
     have HMl2_5 := Lib.hid ((hb.block _ (lt_of_block HMl2_4.out)).trans HMl2_4.out)
     clear hb hx hB
     go_wp2_with fail
     refine hK9.out _ _ (HY.out _ HC5.out) (fun hHeld => ?_)
     clear hK9 K9
     try simp only [Act.put, put_a]
     refine wpAnyH_ready (rs := [4]) (by kernel_rfl) (by simp) ?_
     refine (AllReadyH.cons rfl (fun K9 hK9 => ?_) AllReadyH.nil)
     go_simp
     refine hK9.out _ _ (HY.out _ (up HC5.out (bel1 _ _))) (fun hHeld => ?_)
     clear hK9 K9
     try simp only [Act.put, put_a]
     refine wpAnyH_ready (rs := [5]) (by kernel_rfl) (by simp) ?_
     refine (AllReadyH.cons rfl (fun K9 hK9 => ?_) AllReadyH.nil)
     go_simp
     go_at_call 82
     refine (just_any (S := S₁) n _ [(listP ⟨[typedP], some typedP, []⟩ differB)] _ _ (parts1 (hp1 _ _) (fun e => absurd (HS1.out _ e) (by have := HZ5.out; omega)) (HR5.out.below (bel1 _ _)))).mono ?_
     rintro e w6 ⟨v6, rfl, hx, hB⟩
     have hb := up (bel1 _ _) hB
     have HC6 := Lib.hid (up HC5.out hb)
     have HZ6 := Lib.hid (Nat.le_trans HZ5.out hb.size)
     have He_6 := Lib.hid (He_5.out.below hb)
     have HR6 := Lib.hid hx
     have HMl2_6 := Lib.hid ((hb.block _ (lt_of_block HMl2_5.out)).trans HMl2_5.out)
     clear hb hx hB
     go_wp2_with fail
     refine hK9.out _ _ (HY.out _ HC6.out) (fun hHeld => ?_)
     clear hK9 K9
     try simp only [Act.put, put_a]
     refine wpAnyH_ready (rs := [7]) (by kernel_rfl) (by simp) ?_
     refine (AllReadyH.cons rfl (fun K9 hK9 => ?_) AllReadyH.nil)
     go_simp
     go_at_call 97
     refine (some_any (S := S₁) n _ _ _ (exprP E) _ (fun b e => by have := HS1.out b e; have := HZ6.out; first | omega | (simp; omega)) ((He_6.out.below (Below.refl _ _)).re (andFrom_re (Nat.le_refl _)))).mono ?_
     rintro e w7 ⟨v7, rfl, hx, hB⟩
     have hb := up (Below.refl _ _) hB
     have HC7 := Lib.hid (up HC6.out hb)
     have HZ7 := Lib.hid (Nat.le_trans HZ6.out hb.size)
     have He_7 := Lib.hid (He_6.out.below hb)
     have Hr2_7 := Lib.hid (HR6.out.below hb)
     have HR7 := Lib.hid hx
     have HMl2_7 := Lib.hid ((hb.block _ (lt_of_block HMl2_6.out)).trans HMl2_6.out)
     clear hb hx hB
     go_wp2_with fail
     refine hK9.out _ _ (HY.out _ HC7.out) (fun hHeld => ?_)
     clear hK9 K9
     try simp only [Act.put, put_a]
     refine wpAnyH_ready (rs := [8]) (by kernel_rfl) (by simp) ?_
     refine (AllReadyH.cons rfl (fun K9 hK9 => ?_) AllReadyH.nil)
     go_simp
     go_at_call 150
     refine (behind_any (S := S₁) n trigW ⟨[exprP E], some (exprP E), []⟩ _ _ (by simp [trigW]) (fun b e => by have := HS1.out b e; have := HZ7.out; first | omega | (simp; omega)) (HR7.out.below (Below.refl _ _)) (by simp) (by simp)).mono ?_
     rintro e w8 ⟨vf8, vi8, ve8, rfl, hx, hB⟩
     obtain ⟨K8, c8, K8', c8', rfl, rfl, rfl⟩ := hx.vals1 rfl
     have hb := up (Below.refl _ _) hB
     have HC8 := Lib.hid (up HC7.out hb)
     have HZ8 := Lib.hid (Nat.le_trans HZ7.out hb.size)
     have He_8 := Lib.hid (He_7.out.below hb)
     have Hr2_8 := Lib.hid (Hr2_7.out.below hb)
     have HR8 := Lib.hid hx
     have HMl2_8 := Lib.hid ((hb.block _ (lt_of_block HMl2_7.out)).trans HMl2_7.out)
     clear hb hx hB
     go_wp2_with fail
     refine hK9.out _ _ (HY.out _ HC8.out) (fun hHeld => ?_)
     clear hK9 K9
     try simp only [Act.put, put_a]
     refine wpAnyH_ready (rs := [9]) (by kernel_rfl) (by simp) ?_
     refine (AllReadyH.cons rfl (fun K9 hK9 => ?_) AllReadyH.nil)
     go_simp
     go_at_call 93
     refine (any_any (S := S₁) n _ _ _ _ _ (behindP trigW ⟨[exprP E], some (exprP E), []⟩) _ (fun b e => by have := HS1.out b e; have := HZ8.out; first | omega | (simp; omega)) (Hr2_8.out.below (Below.refl _ _)) (HR8.out.below (Below.refl _ _))).mono ?_
     rintro e w9 ⟨v9, rfl, hx, hB⟩
     have hb := up (Below.refl _ _) hB
     have HC9 := Lib.hid (up HC8.out hb)
     have He_9 := Lib.hid (He_8.out.below hb)
     have HR9 := Lib.hid hx
     have HMl2_9 := Lib.hid ((hb.block _ (lt_of_block HMl2_8.out)).trans HMl2_8.out)
     clear hb hx hB
     go_wp2_with fail
     refine hK9.out _ _ (HY.out _ HC9.out) (fun hHeld => ?_)
     clear hK9 K9
     try simp only [Act.put, put_a]
     refine wpAnyH_ready (rs := [12]) (by kernel_rfl) (by simp) ?_
     refine (AllReadyH.cons rfl (fun K9 hK9 => ?_) AllReadyH.nil)
     go_simp
     go_at_call 147
     refine (end_any (S := S₁) n _ _ _ [exprP E] _ _ (HR9.out.below (Below.refl _ _)) (parts1 ((((Below.refl _ _) : Below w9.heap.size w9 _).block _ (lt_of_block HMl2_9.out)).trans HMl2_9.out) (fun e => absurd (HS1.out _ e) (by have := HB_l2.out; omega)) (He_9.out.below (Below.refl _ _)))).mono ?_
     rintro e w10 ⟨v10, rfl, hx, hB⟩
     obtain ⟨fa, fl, fc, ba, bl, bc, m, rfl⟩ := hx.vals
     have hb := up (Below.refl _ _) hB
     have HC10 := Lib.hid (up HC9.out hb)
     have HR10 := Lib.hid hx
     clear hb hx hB
     have HRL := HR10
     have HBL := Lib.hid (up HB2.out HC10.out)
     obtain ⟨⟨z0, z1, z2⟩, z3, z4, z5⟩ := cells3 ((HBL.out.block (w.heap.size + 1) (by simp)).trans (heap2 _ _ _))
     go_wp2_with fail
     refine hK9.out _ _ (HY.out _ HC10.out) (fun hHeld => ?_)
     clear hK9 K9
     try simp only [Act.put, put_a]
     refine wpAnyH_ready (rs := [13]) (by kernel_rfl) (by simp) ?_
     refine (AllReadyH.cons rfl (fun K9 hK9 => ?_) AllReadyH.nil)
     go_simp
     refine hK9.out _ _ (by obtain ⟨u0, u1, u2⟩ := HY.out _ HC10.out; simp [World.cell?_setCell_other, hne1, u0, u1, u2]) (fun hHeld => ?_)
     clear hK9 K9
     try simp only [Act.put, put_a]
     refine wpAnyH_done (by kernel_rfl) ?_ _
     go_wp2_with fail
     refine bodyPost_ret (v := .agg #[.slice fa fl fc, .slice ba bl bc, .pointer m]) (by simp [results, Tryz.results99, go_sem, cell_set, z0, z1, z2]) rfl (row_close3 (k := 1) (B0 := w.heap.size + 1) (Nat.le_succ _) (Nat.le_refl _) (Nat.lt_succ_self _) (up (bel2 _ _ _) HBL.out) ?_ _ _ _)
     have hp := HRL.out
     rw [HE.out] at hp
     exact hp
    ·skip
     go_simp
     refine hK9.out _ _ (HY.out _ (up HC3.out (bel1 _ _))) (fun hHeld => ?_)
     clear hK9 K9
     try simp only [Act.put, put_a]
     refine wpAnyH_ready (rs := [1]) (by kernel_rfl) (by simp) ?_
     refine (AllReadyH.cons rfl (fun K9 hK9 => ?_) AllReadyH.nil)
     go_simp
     go_at_call 97
     refine (some_any (S := S₁) n _ _ _ typedP _ (fun b e => by have := HS1.out b e; have := HZ3.out; first | omega | (simp; omega)) ((HR3.out.below (bel1 _ _)).re (andFrom_re (Nat.le_refl _)))).mono ?_
     rintro e w4 ⟨v4, rfl, hx, hB⟩
     have hb := up (bel1 _ _) hB
     have HC4 := Lib.hid (up HC3.out hb)
     have HZ4 := Lib.hid (Nat.le_trans HZ3.out hb.size)
     have He_4 := Lib.hid (He_3.out.below hb)
     have HR4 := Lib.hid hx
     have HMl2_4 := Lib.hid ((hb.block _ (lt_of_block HMl2_3.out)).trans HMl2_3.out)
     have HMd_4 := Lib.hid ((hB.block _ (lt_of_block (hp1 _ _))).trans (hp1 _ _))
     have HB_d := Lib.hid (show w.heap.size + 1 + 1 ≤ w3.heap.size by have := HZ3.out; omega)
     clear hb hx hB
     go_wp2_with fail
     refine hK9.out _ _ (HY.out _ HC4.out) (fun hHeld => ?_)
     clear hK9 K9
     try simp only [Act.put, put_a]
     refine wpAnyH_ready (rs := [3]) (by kernel_rfl) (by simp) ?_
     refine (AllReadyH.cons rfl (fun K9 hK9 => ?_) AllReadyH.nil)
     go_simp
     go_at_call 94
     refine (aList_differ (S := S₁) n ⟨[typedP], some typedP, []⟩ _ _ _ _ (fun b e => by have := HS1.out b e; have := HZ4.out; first | omega | (simp; omega)) (HR4.out.below (Below.refl _ _)) (by simp) (by simp) preD_typed ⟨lt_of_block ((((Below.refl _ _) : Below w4.heap.size w4 _).block _ (lt_of_block HMd_4.out)).trans HMd_4.out), (fun e => absurd (HS1.out _ e) (by have := HB_d.out; omega)), cell_block ((((Below.refl _ _) : Below w4.heap.size w4 _).block _ (lt_of_block HMd_4.out)).trans HMd_4.out) rfl⟩).mono ?_
     rintro e w5 ⟨vf5, vi5, ve5, rfl, hx, hB⟩
     obtain ⟨K5, c5, K5', c5', rfl, rfl, rfl⟩ := hx.vals1 rfl
     have hb := up (Below.refl _ _) hB
     have HC5 := Lib.hid (up HC4.out hb)
     have HZ5 := Lib.hid (Nat.le_trans HZ4.out hb.size)
     have He_5 := Lib.hid (He_4.out.below hb)
     have HR5 := Lib.hid hx
     have HMl2_5 := Lib.hid ((hb.block _ (lt_of_block HMl2_4.out)).trans HMl2_4.out)
     clear hb hx hB
     go_wp2_with fail
     refine hK9.out _ _ (HY.out _ HC5.out) (fun hHeld => ?_)
     clear hK9 K9
     try simp only [Act.put, put_a]
     refine wpAnyH_ready (rs := [4]) (by kernel_rfl) (by simp) ?_
     refine (AllReadyH.cons rfl (fun K9 hK9 => ?_) AllReadyH.nil)
     go_simp
     refine hK9.out _ _ (HY.out _ (up HC5.out (bel1 _ _))) (fun hHeld => ?_)
     clear hK9 K9
     try simp only [Act.put, put_a]
     refine wpAnyH_ready (rs := [5]) (by kernel_rfl) (by simp) ?_
     refine (AllReadyH.cons rfl (fun K9 hK9 => ?_) AllReadyH.nil)
     go_simp
     go_at_call 82
     refine (just_any (S := S₁) n _ [(listP ⟨[typedP], some typedP, []⟩ differB)] _ _ (parts1 (hp1 _ _) (fun e => absurd (HS1.out _ e) (by have := HZ5.out; omega)) (HR5.out.below (bel1 _ _)))).mono ?_
     rintro e w6 ⟨v6, rfl, hx, hB⟩
     have hb := up (bel1 _ _) hB
     have HC6 := Lib.hid (up HC5.out hb)
     have HZ6 := Lib.hid (Nat.le_trans HZ5.out hb.size)
     have He_6 := Lib.hid (He_5.out.below hb)
     have HR6 := Lib.hid hx
     have HMl2_6 := Lib.hid ((hb.block _ (lt_of_block HMl2_5.out)).trans HMl2_5.out)
     clear hb hx hB
     go_wp2_with fail
     refine hK9.out _ _ (HY.out _ HC6.out) (fun hHeld => ?_)
     clear hK9 K9
     try simp only [Act.put, put_a]
     refine wpAnyH_ready (rs := [7]) (by kernel_rfl) (by simp) ?_
     refine (AllReadyH.cons rfl (fun K9 hK9 => ?_) AllReadyH.nil)
     go_simp
     go_at_call 97
     refine (some_any (S := S₁) n _ _ _ (exprP E) _ (fun b e => by have := HS1.out b e; have := HZ6.out; first | omega | (simp; omega)) ((He_6.out.below (Below.refl _ _)).re (andFrom_re (Nat.le_refl _)))).mono ?_
     rintro e w7 ⟨v7, rfl, hx, hB⟩
     have hb := up (Below.refl _ _) hB
     have HC7 := Lib.hid (up HC6.out hb)
     have HZ7 := Lib.hid (Nat.le_trans HZ6.out hb.size)
     have He_7 := Lib.hid (He_6.out.below hb)
     have Hr2_7 := Lib.hid (HR6.out.below hb)
     have HR7 := Lib.hid hx
     have HMl2_7 := Lib.hid ((hb.block _ (lt_of_block HMl2_6.out)).trans HMl2_6.out)
     clear hb hx hB
     go_wp2_with fail
     refine hK9.out _ _ (HY.out _ HC7.out) (fun hHeld => ?_)
     clear hK9 K9
     try simp only [Act.put, put_a]
     refine wpAnyH_ready (rs := [8]) (by kernel_rfl) (by simp) ?_
     refine (AllReadyH.cons rfl (fun K9 hK9 => ?_) AllReadyH.nil)
     go_simp
     go_at_call 150
     refine (behind_any (S := S₁) n trigW ⟨[exprP E], some (exprP E), []⟩ _ _ (by simp [trigW]) (fun b e => by have := HS1.out b e; have := HZ7.out; first | omega | (simp; omega)) (HR7.out.below (Below.refl _ _)) (by simp) (by simp)).mono ?_
     rintro e w8 ⟨vf8, vi8, ve8, rfl, hx, hB⟩
     obtain ⟨K8, c8, K8', c8', rfl, rfl, rfl⟩ := hx.vals1 rfl
     have hb := up (Below.refl _ _) hB
     have HC8 := Lib.hid (up HC7.out hb)
     have HZ8 := Lib.hid (Nat.le_trans HZ7.out hb.size)
     have He_8 := Lib.hid (He_7.out.below hb)
     have Hr2_8 := Lib.hid (Hr2_7.out.below hb)
     have HR8 := Lib.hid hx
     have HMl2_8 := Lib.hid ((hb.block _ (lt_of_block HMl2_7.out)).trans HMl2_7.out)
     clear hb hx hB
     go_wp2_with fail
     refine hK9.out _ _ (HY.out _ HC8.out) (fun hHeld => ?_)
     clear hK9 K9
     try simp only [Act.put, put_a]
     refine wpAnyH_ready (rs := [9]) (by kernel_rfl) (by simp) ?_
     refine (AllReadyH.cons rfl (fun K9 hK9 => ?_) AllReadyH.nil)
     go_simp
     go_at_call 93
     refine (any_any (S := S₁) n _ _ _ _ _ (behindP trigW ⟨[exprP E], some (exprP E), []⟩) _ (fun b e => by have := HS1.out b e; have := HZ8.out; first | omega | (simp; omega)) (Hr2_8.out.below (Below.refl _ _)) (HR8.out.below (Below.refl _ _))).mono ?_
     rintro e w9 ⟨v9, rfl, hx, hB⟩
     have hb := up (Below.refl _ _) hB
     have HC9 := Lib.hid (up HC8.out hb)
     have He_9 := Lib.hid (He_8.out.below hb)
     have HR9 := Lib.hid hx
     have HMl2_9 := Lib.hid ((hb.block _ (lt_of_block HMl2_8.out)).trans HMl2_8.out)
     clear hb hx hB
     go_wp2_with fail
     refine hK9.out _ _ (HY.out _ HC9.out) (fun hHeld => ?_)
     clear hK9 K9
     try simp only [Act.put, put_a]
     refine wpAnyH_ready (rs := [12]) (by kernel_rfl) (by simp) ?_
     refine (AllReadyH.cons rfl (fun K9 hK9 => ?_) AllReadyH.nil)
     go_simp
     go_at_call 147
     refine (end_any (S := S₁) n _ _ _ [exprP E] _ _ (HR9.out.below (Below.refl _ _)) (parts1 ((((Below.refl _ _) : Below w9.heap.size w9 _).block _ (lt_of_block HMl2_9.out)).trans HMl2_9.out) (fun e => absurd (HS1.out _ e) (by have := HB_l2.out; omega)) (He_9.out.below (Below.refl _ _)))).mono ?_
     rintro e w10 ⟨v10, rfl, hx, hB⟩
     obtain ⟨fa, fl, fc, ba, bl, bc, m, rfl⟩ := hx.vals
     have hb := up (Below.refl _ _) hB
     have HC10 := Lib.hid (up HC9.out hb)
     have HR10 := Lib.hid hx
     clear hb hx hB
     have HRL := HR10
     have HBL := Lib.hid (up HB2.out HC10.out)
     obtain ⟨⟨z0, z1, z2⟩, z3, z4, z5⟩ := cells3 ((HBL.out.block (w.heap.size + 1) (by simp)).trans (heap2 _ _ _))
     go_wp2_with fail
     refine hK9.out _ _ (HY.out _ HC10.out) (fun hHeld => ?_)
     clear hK9 K9
     try simp only [Act.put, put_a]
     refine wpAnyH_ready (rs := [13]) (by kernel_rfl) (by simp) ?_
     refine (AllReadyH.cons rfl (fun K9 hK9 => ?_) AllReadyH.nil)
     go_simp
     refine hK9.out _ _ (by obtain ⟨u0, u1, u2⟩ := HY.out _ HC10.out; simp [World.cell?_setCell_other, hne1, u0, u1, u2]) (fun hHeld => ?_)
     clear hK9 K9
     try simp only [Act.put, put_a]
     refine wpAnyH_done (by kernel_rfl) ?_ _
     go_wp2_with fail
     refine bodyPost_ret (v := .agg #[.slice fa fl fc, .slice ba bl bc, .pointer m]) (by simp [results, Tryz.results99, go_sem, cell_set, z0, z1, z2]) rfl (row_close3 (k := 1) (B0 := w.heap.size + 1) (Nat.le_succ _) (Nat.le_refl _) (Nat.lt_succ_self _) (up (bel2 _ _ _) HBL.out) ?_ _ _ _)
     have hp := HRL.out
     rw [HE.out] at hp
     exact hp
   ·skip
    go_simp
    refine hK9.out _ _ (HY.out _ ((bel2 _ _ _).drew)) (fun hHeld => ?_)
    clear hK9 K9
    try simp only [Act.put, put_a]
    refine wpAnyH_ready (rs := [0]) (by kernel_rfl) (by simp) ?_
    refine (AllReadyH.cons rfl (fun K9 hK9 => ?_) AllReadyH.nil)
    go_simp
    go_at_call 84
    refine (aTyped_any (S := S₁) n _ (fun b e => by have := HS1.out b e; have := HZ2.out; first | omega | (simp; omega))).mono ?_
    rintro e w3 ⟨vf3, vi3, ve3, rfl, hx, hB⟩
    obtain ⟨K3, c3, K3', c3', rfl, rfl, rfl⟩ := hx.vals1 rfl
    have hb := up (bel2 _ _ _).drew hB
    have HC3 := Lib.hid (hb)
    have HZ3 := Lib.hid (Nat.le_trans HZ2.out hb.size)
    have He_3 := Lib.hid (HP2.out.below hb)
    have HR3 := Lib.hid hx
    have HMl2_3 := Lib.hid ((hB.block _ (lt_of_block (hp2ad _ _ _))).trans (hp2ad _ _ _))
    have HB_l2 := Lib.hid (show w.heap.size + 1 + 1 ≤ w2.heap.size by have := HZ2.out; omega)
    have HMd_3 := Lib.hid ((hB.block _ (lt_of_block (hp2bd _ _ _))).trans (hp2bd _ _ _))
    have HB_d := Lib.hid (show w.heap.size + 1 + 1 ≤ w2.heap.size + 1 by have := HZ2.out; omega)
    clear hb hx hB
    go_wp2_with fail
    refine hK9.out _ _ (HY.out _ HC3.out) (fun hHeld => ?_)
    clear hK9 K9
    try simp only [Act.put, put_a]
    refine wpAnyH_ready (rs := [1]) (by kernel_rfl) (by simp) ?_
    refine (AllReadyH.cons rfl (fun K9 hK9 => ?_) AllReadyH.nil)
    go_simp
    go_at_call 97
    refine (some_any (S := S₁) n _ _ _ typedP _ (fun b e => by have := HS1.out b e; have := HZ3.out; first | omega | (simp; omega)) ((HR3.out.below (Below.refl _ _)).re (andFrom_re (Nat.le_refl _)))).mono ?_
    rintro e w4 ⟨v4, rfl, hx, hB⟩
    have hb := up (Below.refl _ _) hB
    have HC4 := Lib.hid (up HC3.out hb)
    have HZ4 := Lib.hid (Nat.le_trans HZ3.out hb.size)
    have He_4 := Lib.hid (He_3.out.below hb)
    have HR4 := Lib.hid hx
    have HMl2_4 := Lib.hid ((hb.block _ (lt_of_block HMl2_3.out)).trans HMl2_3.out)
    have HMd_4 := Lib.hid ((hb.block _ (lt_of_block HMd_3.out)).trans HMd_3.out)
    clear hb hx hB
    go_wp2_with fail
    refine hK9.out _ _ (HY.out _ HC4.out) (fun hHeld => ?_)
    clear hK9 K9
    try simp only [Act.put, put_a]
    refine wpAnyH_ready (rs := [3]) (by kernel_rfl) (by simp) ?_
    refine (AllReadyH.cons rfl (fun K9 hK9 => ?_) AllReadyH.nil)
    go_simp
    go_at_call 94
    refine (aList_differ (S := S₁) n ⟨[typedP], some typedP, []⟩ _ _ _ _ (fun b e => by have := HS1.out b e; have := HZ4.out; first | omega | (simp; omega)) (HR4.out.below (Below.refl _ _)) (by simp) (by simp) preD_typed ⟨lt_of_block ((((Below.refl _ _) : Below w4.heap.size w4 _).block _ (lt_of_block HMd_4.out)).trans HMd_4.out), (fun e => absurd (HS1.out _ e) (by have := HB_d.out; omega)), cell_block ((((Below.refl _ _) : Below w4.heap.size w4 _).block _ (lt_of_block HMd_4.out)).trans HMd_4.out) rfl⟩).mono ?_
    rintro e w5 ⟨vf5, vi5, ve5, rfl, hx, hB⟩
    obtain ⟨K5, c5, K5', c5', rfl, rfl, rfl⟩ := hx.vals1 rfl
    have hb := up (Below.refl _ _) hB
    have HC5 := Lib.hid (up HC4.out hb)
    have HZ5 := Lib.hid (Nat.le_trans HZ4.out hb.size)
    have He_5 := Lib.hid (He_4.out.below hb)
    have HR5 := Lib.hid hx
    have HMl2_5 := Lib.hid ((hb.block _ (lt_of_block HMl2_4.out)).trans HMl2_4.out)
    clear hb hx hB
    go_wp2_with fail
    refine hK9.out _ _ (HY.out _ HC5.out) (fun hHeld => ?_)
    clear hK9 K9
    try simp only [Act.put, put_a]
    refine wpAnyH_ready (rs := [4]) (by kernel_rfl) (by simp) ?_
    refine (AllReadyH.cons rfl (fun K9 hK9 => ?_) AllReadyH.nil)
    go_simp
    refine hK9.out _ _ (HY.out _ (up HC5.out (bel1 _ _))) (fun hHeld => ?_)
    clear hK9 K9
    try simp only [Act.put, put_a]
    refine wpAnyH_ready (rs := [5]) (by kernel_rfl) (by simp) ?_
    refine (AllReadyH.cons rfl (fun K9 hK9 => ?_) AllReadyH.nil)
    go_simp
    go_at_call 82
    refine (just_any (S := S₁) n _ [(listP ⟨[typedP], some typedP, []⟩ differB)] _ _ (parts1 (hp1 _ _) (fun e => absurd (HS1.out _ e) (by have := HZ5.out; omega)) (HR5.out.below (bel1 _ _)))).mono ?_
    rintro e w6 ⟨v6, rfl, hx, hB⟩
    have hb := up (bel1 _ _) hB
    have HC6 := Lib.hid (up HC5.out hb)
    have HZ6 := Lib.hid (Nat.le_trans HZ5.out hb.size)
    have He_6 := Lib.hid (He_5.out.below hb)
    have HR6 := Lib.hid hx
    have HMl2_6 := Lib.hid ((hb.block _ (lt_of_block HMl2_5.out)).trans HMl2_5.out)
    clear hb hx hB
    go_wp2_with fail
    refine hK9.out _ _ (HY.out _ HC6.out) (fun hHeld => ?_)
    clear hK9 K9
    try simp only [Act.put, put_a]
    refine wpAnyH_ready (rs := [7]) (by kernel_rfl) (by simp) ?_
    refine (AllReadyH.cons rfl (fun K9 hK9 => ?_) AllReadyH.nil)
    go_simp
    go_at_call 97
    refine (some_any (S := S₁) n _ _ _ (exprP E) _ (fun b e => by have := HS1.out b e; have := HZ6.out; first | omega | (simp; omega)) ((He_6.out.below (Below.refl _ _)).re (andFrom_re (Nat.le_refl _)))).mono ?_
    rintro e w7 ⟨v7, rfl, hx, hB⟩
    have hb := up (Below.refl _ _) hB
    have HC7 := Lib.hid (up HC6.out hb)
    have HZ7 := Lib.hid (Nat.le_trans HZ6.out hb.size)
    have He_7 := Lib.hid (He_6.out.below hb)
    have Hr2_7 := Lib.hid (HR6.out.below hb)
    have HR7 := Lib.hid hx
    have HMl2_7 := Lib.hid ((hb.block _ (lt_of_block HMl2_6.out)).trans HMl2_6.out)
    clear hb hx hB
    go_wp2_with fail
    refine hK9.out _ _ (HY.out _ HC7.out) (fun hHeld => ?_)
    clear hK9 K9
    try simp only [Act.put, put_a]
    refine wpAnyH_ready (rs := [8]) (by kernel_rfl) (by simp) ?_
    refine (AllReadyH.cons rfl (fun K9 hK9 => ?_) AllReadyH.nil)
    go_simp
    go_at_call 150
    refine (behind_any (S := S₁) n trigW ⟨[exprP E], some (exprP E), []⟩ _ _ (by simp [trigW]) (fun b e => by have := HS1.out b e; have := HZ7.out; first | omega | (simp; omega)) (HR7.out.below (Below.refl _ _)) (by simp) (by simp)).mono ?_
    rintro e w8 ⟨vf8, vi8, ve8, rfl, hx, hB⟩
    obtain ⟨K8, c8, K8', c8', rfl, rfl, rfl⟩ := hx.vals1 rfl
    have hb := up (Below.refl _ _) hB
    have HC8 := Lib.hid (up HC7.out hb)
    have HZ8 := Lib.hid (Nat.le_trans HZ7.out hb.size)
    have He_8 := Lib.hid (He_7.out.below hb)
    have Hr2_8 := Lib.hid (Hr2_7.out.below hb)
    have HR8 := Lib.hid hx
    have HMl2_8 := Lib.hid ((hb.block _ (lt_of_block HMl2_7.out)).trans HMl2_7.out)
    clear hb hx hB
    go_wp2_with fail
    refine hK9.out _ _ (HY.out _ HC8.out) (fun hHeld => ?_)
    clear hK9 K9
    try simp only [Act.put, put_a]
    refine wpAnyH_ready (rs := [9]) (by kernel_rfl) (by simp) ?_
    refine (AllReadyH.cons rfl (fun K9 hK9 => ?_) AllReadyH.nil)
    go_simp
    go_at_call 93
    refine (any_any (S := S₁) n _ _ _ _ _ (behindP trigW ⟨[exprP E], some (exprP E), []⟩) _ (fun b e => by have := HS1.out b e; have := HZ8.out; first | omega | (simp; omega)) (Hr2_8.out.below (Below.refl _ _)) (HR8.out.below (Below.refl _ _))).mono ?_
    rintro e w9 ⟨v9, rfl, hx, hB⟩
    have hb := up (Below.refl _ _) hB
    have HC9 := Lib.hid (up HC8.out hb)
    have He_9 := Lib.hid (He_8.out.below hb)
    have HR9 := Lib.hid hx
    have HMl2_9 := Lib.hid ((hb.block _ (lt_of_block HMl2_8.out)).trans HMl2_8.out)
    clear hb hx hB
    go_wp2_with fail
    refine hK9.out _ _ (HY.out _ HC9.out) (fun hHeld => ?_)
    clear hK9 K9
    try simp only [Act.put, put_a]
    refine wpAnyH_ready (rs := [12]) (by kernel_rfl) (by simp) ?_
    refine (AllReadyH.cons rfl (fun K9 hK9 => ?_) AllReadyH.nil)
    go_simp
    go_at_call 147
    refine (end_any (S := S₁) n _ _ _ [exprP E] _ _ (HR9.out.below (Below.refl _ _)) (parts1 ((((Below.refl _ _) : Below w9.heap.size w9 _).block _ (lt_of_block HMl2_9.out)).trans HMl2_9.out) (fun e => absurd (HS1.out _ e) (by have := HB_l2.out; omega)) (He_9.out.below (Below.refl _ _)))).mono ?_
    rintro e w10 ⟨v10, rfl, hx, hB⟩
    obtain ⟨fa, fl, fc, ba, bl, bc, m, rfl⟩ := hx.vals
    have hb := up (Below.refl _ _) hB
    have HC10 := Lib.hid (up HC9.out hb)
    have HR10 := Lib.hid hx
    clear hb hx hB
    have HRL := HR10
    have HBL := Lib.hid (up HB2.out HC10.out)
    obtain ⟨⟨z0, z1, z2⟩, z3, z4, z5⟩ := cells3 ((HBL.out.block (w.heap.size + 1) (by simp)).trans (heap2 _ _ _))
    go_wp2_with fail
    refine hK9.out _ _ (HY.out _ HC10.out) (fun hHeld => ?_)
    clear hK9 K9
    try simp only [Act.put, put_a]
    refine wpAnyH_ready (rs := [13]) (by kernel_rfl) (by simp) ?_
    refine (AllReadyH.cons rfl (fun K9 hK9 => ?_) AllReadyH.nil)
    go_simp
    refine hK9.out _ _ (by obtain ⟨u0, u1, u2⟩ := HY.out _ HC10.out; simp [World.cell?_setCell_other, hne1, u0, u1, u2]) (fun hHeld => ?_)
    clear hK9 K9
    try simp only [Act.put, put_a]
    refine wpAnyH_done (by kernel_rfl) ?_ _
    go_wp2_with fail
    refine bodyPost_ret (v := .agg #[.slice fa fl fc, .slice ba bl bc, .pointer m]) (by simp [results, Tryz.results99, go_sem, cell_set, z0, z1, z2]) rfl (row_close3 (k := 1) (B0 := w.heap.size + 1) (Nat.le_succ _) (Nat.le_refl _) (Nat.lt_succ_self _) (up (bel2 _ _ _) HBL.out) ?_ _ _ _)
    have hp := HRL.out
    rw [HE.out] at hp
    exact hp
end Go.Proofs.YtmlfiopbdlaaaaaGreat
