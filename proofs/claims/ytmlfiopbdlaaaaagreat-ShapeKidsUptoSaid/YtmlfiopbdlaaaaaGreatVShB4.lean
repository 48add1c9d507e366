/- The row of an expression, head by head. (Made by genrow.py.) -/
import Derived.Test.YtmlfiopbdlaaaaaGreatShR6
namespace Go.Proofs.YtmlfiopbdlaaaaaGreat
open Go.RowKit Go.Deep
variable {S : Nat → Prop}
theorem andFrom_one {X x : Nat} (h : andFrom S X 1 x) : S x ∨ x = X := by
  rcases h with h | h
  · exact .inl h
  · exact .inr (by omega)
set_option linter.unusedSimpArgs false in
set_option maxHeartbeats 40000000 in
set_option maxRecDepth 100000 in
theorem bind_match (n : Nat) (t : T) (hd : ByteArray) (w : World) (E : Fm → Bool) (hS : ∀ b, S b → b < w.heap.size) (hE : HAsk n E) (hh : ∀ W, Below w.heap.size w W → Calls Tryz.prog 50 #[t.val] W fun e w' => e = .returned (.string hd) ∧ Below W.heap.size W w') (hq : hd.toList = [109, 97, 116, 99, 104]) : Calls Tryz.prog 99 #[t.val] w (fun e w' => RowEnd n S w w' ⟨[exprP E, listP ⟨[nameP, namesP, exprP E], none, []⟩ (fun _ => true)], some (listP ⟨[nameP, namesP, exprP E], none, []⟩ (fun _ => true)), []⟩ e) := by
  have HH := Lib.hid hh
  have HEE := Lib.hid hE
  obtain ⟨S₁, hS₁⟩ : ∃ S₁, S₁ = andFrom S (w.heap.size + 1) 1 := ⟨_, rfl⟩
  have HS1 := Lib.hid (hS₁ ▸ andFrom_lt (k := 1) (fun x h => Nat.lt_succ_of_lt (hS x h)) : ∀ x, S₁ x → x < w.heap.size + 1 + 1)
  have HE := Lib.hid hS₁
  clear hh hE hS₁ hS
  have mixed : Tryz.prog.follows .mixedOrders = true := by kernel_rfl
  go_enter Tryz.func99, Tryz.ntmps99
  go_wp2_with (first
    | (go_at_call 85; refine (anExpr_any (S := S₁) n E HEE.out _).mono ?_; rintro e w1 ⟨vf1, vi1, ve1, rfl, hp1, hB⟩; obtain ⟨K1, c1, K1', c1', rfl, rfl, rfl⟩ := hp1.vals1 rfl; have HP1 := Lib.hid hp1; have HB1 := Lib.hid hB; obtain ⟨q0, q1, q2, q3⟩ := Box4.cells (w := w1) (b := w.heap.size) (t := t) ((hB.block w.heap.size (by simp; omega)).trans ((Below.heap_alloc _ _ _ (by simp)).trans (Box4.new w t))); have lq : w.heap.size < w1.heap.size := Nat.lt_of_lt_of_le (by simp; omega) hB.size; have HZ1 := Lib.hid (Nat.le_trans (by simp) hB.size : w.heap.size + 1 + 1 ≤ w1.heap.size); have hne1 : ¬ (w.heap.size + 1 = w1.heap.size) := (fun e => absurd HZ1.out (by omega)); clear hp1 hB)
    | (go_at_call 50; refine (HH.out _ (up (bel2 _ _ _) (up HB1.out (bel1 _ _)))).mono ?_; rintro e w2 ⟨rfl, hB2⟩; have HY := Lib.hid (fun (W : World) (h : Below w2.heap.size w2 W) => (cells3 ((h.block w1.heap.size (Nat.lt_of_lt_of_le (by simp) hB2.size)).trans ((hB2.block w1.heap.size (by simp)).trans (heap_alloc_new _ _)))).1); obtain ⟨y0, y1, y2⟩ := HY.out w2 (Below.refl _ _); have ly : w1.heap.size < w2.heap.size := Nat.lt_of_lt_of_le (by simp) hB2.size; have HB2 := Lib.hid (up HB1.out (up (bel1 _ _) hB2)); have HZ2 := Lib.hid (Nat.le_trans HZ1.out (Nat.le_of_lt ly)); have HP2 := Lib.hid (HP1.out.below (up (bel1 _ _) hB2)); have HQ := Lib.hid (fun (W : World) (h : Below w2.heap.size w2 W) => Box4.cells (w := W) (b := w.heap.size) (t := t) ((h.block w.heap.size (Nat.lt_trans lq ly)).trans ((hB2.block w.heap.size (by simp; omega)).trans ((Below.heap_alloc _ _ _ lq).trans ((HB1.out.block w.heap.size (by simp; omega)).trans ((Below.heap_alloc _ _ _ (by simp)).trans (Box4.new w t))))))); obtain ⟨p0, p1, p2, p3⟩ := HQ.out w2 (Below.refl _ _); clear hB2))
  refine wp_region_held_drew (S := fun W => W.cell? ⟨w1.heap.size, 0, none⟩ = some (.func (.func K1) #[] c1) ∧ W.cell? ⟨w1.heap.size, 1, none⟩ = some (.func (.func K1') #[] c1') ∧ W.cell? ⟨w1.heap.size, 2, none⟩ = some (.bool (exprP E).isE)) mixed (HY.out _ (Below.refl _ _).drew) (fun hHeld => ?_)
  try simp only [Act.put, List.setIfInBounds_toArray, List.set_cons_zero, List.set_cons_succ]
  refine wpAnyH_take (i := 2) (v := ?_) rfl (by kernel_rfl) (by kernel_rfl) (by kernel_rfl) (fun _ _ _ h => h) (Or.inl ⟨by rfl, ?_⟩) (by assumption) ?_
  rotate_left
  · intro W hSw
    obtain ⟨q0', q1', q2'⟩ := hSw
    go_simp
    try with_reducible rfl
  try simp only [Act.put, List.setIfInBounds_toArray, List.set_cons_zero, List.set_cons_succ]
  refine wpAnyH_ready (rs := [0, 6]) (by kernel_rfl) (by simp) ?_
  refine (AllReadyH.cons rfl (fun K9 hK9 => ?_) (AllReadyH.cons rfl (fun K9 hK9 => ?_) AllReadyH.nil))
  · skip
    go_simp
    go_at_call 83
    refine (aName_any (S := S₁) n _).mono ?_
    rintro e w3 ⟨vf3, vi3, ve3, rfl, hx, hB⟩
    obtain ⟨K3, c3, rfl, rfl, rfl⟩ := hx.vals0 rfl
    have hb := up (Below.refl _ _).drew hB
    have HC3 := Lib.hid (hb)
    have HZ3 := Lib.hid (Nat.le_trans HZ2.out hb.size)
    have He_3 := Lib.hid (HP2.out.below hb)
    have HR3 := Lib.hid hx
    clear hb hx hB
    go_wp2_with fail
    refine hK9.out _ _ (HY.out _ HC3.out) (fun hHeld => ?_)
    clear hK9 K9
    try simp only [Act.put, List.setIfInBounds_toArray, List.set_cons_zero, List.set_cons_succ]
    refine wpAnyH_ready (rs := [1, 6]) (by kernel_rfl) (by simp) ?_
    refine (AllReadyH.cons rfl (fun K9 hK9 => ?_) (AllReadyH.cons rfl (fun K9 hK9 => ?_) AllReadyH.nil))
    · skip
      go_simp
      go_at_call 140
      refine (names_any (S := S₁) n _ (fun b e => by have := HS1.out b e; have := HZ3.out; first | omega | (simp; omega))).mono ?_
      rintro e w4 ⟨vf4, vi4, ve4, rfl, hx, hB⟩
      obtain ⟨K4, c4, K4', c4', rfl, rfl, rfl⟩ := hx.vals1 rfl
      have hb := up (Below.refl _ _) hB
      have HC4 := Lib.hid (up HC3.out hb)
      have HZ4 := Lib.hid (Nat.le_trans HZ3.out hb.size)
      have He_4 := Lib.hid (He_3.out.below hb)
      have Ha_4 := Lib.hid (HR3.out.below hb)
      have HR4 := Lib.hid hx
      clear hb hx hB
      go_wp2_with fail
      refine hK9.out _ _ (HY.out _ HC4.out) (fun hHeld => ?_)
      clear hK9 K9
      try simp only [Act.put, List.setIfInBounds_toArray, List.set_cons_zero, List.set_cons_succ]
      refine wpAnyH_ready (rs := [3, 6]) (by kernel_rfl) (by simp) ?_
      refine (AllReadyH.cons rfl (fun K9 hK9 => ?_) (AllReadyH.cons rfl (fun K9 hK9 => ?_) AllReadyH.nil))
      · skip
        go_simp
        refine hK9.out _ _ (HY.out _ (up HC4.out (bel1 _ _))) (fun hHeld => ?_)
        clear hK9 K9
        try simp only [Act.put, List.setIfInBounds_toArray, List.set_cons_zero, List.set_cons_succ]
        refine wpAnyH_ready (rs := [4, 6]) (by kernel_rfl) (by simp) ?_
        refine (AllReadyH.cons rfl (fun K9 hK9 => ?_) (AllReadyH.cons rfl (fun K9 hK9 => ?_) AllReadyH.nil))
        · skip
          go_simp
          go_at_call 82
          refine (just_any (S := S₁) n _ [nameP, namesP, exprP E] _ _ (parts3 (hp1 _ _) (fun e => absurd (HS1.out _ e) (by have := HZ4.out; omega)) (Ha_4.out.below (bel1 _ _)) (HR4.out.below (bel1 _ _)) (He_4.out.below (bel1 _ _)))).mono ?_
          rintro e w5 ⟨v5, rfl, hx, hB⟩
          have hb := up (bel1 _ _) hB
          have HC5 := Lib.hid (up HC4.out hb)
          have HZ5 := Lib.hid (Nat.le_trans HZ4.out hb.size)
          have He_5 := Lib.hid (He_4.out.below hb)
          have HR5 := Lib.hid hx
          clear hb hx hB
          go_wp2_with fail
          refine hK9.out _ _ (HY.out _ HC5.out) (fun hHeld => ?_)
          clear hK9 K9
          try simp only [Act.put, List.setIfInBounds_toArray, List.set_cons_zero, List.set_cons_succ]
          refine wpAnyH_ready (rs := [5, 6]) (by kernel_rfl) (by simp) ?_
          refine (AllReadyH.cons rfl (fun K9 hK9 => ?_) (AllReadyH.cons rfl (fun K9 hK9 => ?_) AllReadyH.nil))
          · skip
            go_simp
            go_at_call 94
            refine (aList_none (S := S₁) n ⟨[nameP, namesP, exprP E], none, []⟩ _ _ (fun b e => by have := HS1.out b e; have := HZ5.out; first | omega | (simp; omega)) (HR5.out.below (Below.refl _ _)) (by simp) (by simp)).mono ?_
            rintro e w6 ⟨vf6, vi6, ve6, rfl, hx, hB⟩
            obtain ⟨K6, c6, K6', c6', rfl, rfl, rfl⟩ := hx.vals1 rfl
            have hb := up (Below.refl _ _) hB
            have HC6 := Lib.hid (up HC5.out hb)
            have HZ6 := Lib.hid (Nat.le_trans HZ5.out hb.size)
            have He_6 := Lib.hid (He_5.out.below hb)
            have HR6 := Lib.hid hx
            clear hb hx hB
            go_wp2_with fail
            refine hK9.out _ _ (HY.out _ HC6.out) (fun hHeld => ?_)
            clear hK9 K9
            try simp only [Act.put, List.setIfInBounds_toArray, List.set_cons_zero, List.set_cons_succ]
            refine wpAnyH_ready (rs := [6]) (by kernel_rfl) (by simp) ?_
            refine (AllReadyH.cons rfl (fun K9 hK9 => ?_) AllReadyH.nil)
            go_simp
            refine hK9.out _ _ (HY.out _ (up HC6.out (bel1 _ _))) (fun hHeld => ?_)
            clear hK9 K9
            try simp only [Act.put, List.setIfInBounds_toArray, List.set_cons_zero, List.set_cons_succ]
            obtain ⟨S₂, hS2'⟩ : ∃ S₂, S₂ = andFrom S₁ (w6.heap.size) 1 := ⟨_, rfl⟩
            have hS2 := Lib.hid hS2'
            have HN2 : Hid (∀ x, S₂ x → S₁ x ∨ x = (w6.heap.size)) := Lib.hid (fun x h => andFrom_one (hS2' ▸ h))
            clear hS2'
            have He_s := Lib.hid (He_6.out.re (S₁ := S₂) (fun x hx h => (HN2.out x h).elim id (fun h => absurd h (by omega))))
            have Hk_s := Lib.hid (HR6.out.re (S₁ := S₂) (fun x hx h => (HN2.out x h).elim id (fun h => absurd h (by omega))))
            refine wpAnyH_ready (rs := [7]) (by kernel_rfl) (by simp) ?_
            refine (AllReadyH.cons rfl (fun K9 hK9 => ?_) AllReadyH.nil)
            go_simp
            have HC7 := Lib.hid (up HC6.out (bel1 w6 (Obj.cells #[.func (.func K6) #[] c6, .func (.func K6') #[] c6', .bool (listP ⟨[nameP, namesP, exprP E], none, []⟩ (fun _ => true)).isE] 71)))
            have HA7 := Lib.hid (cells3 (hp1 w6 (Obj.cells #[.func (.func K6) #[] c6, .func (.func K6') #[] c6', .bool (listP ⟨[nameP, namesP, exprP E], none, []⟩ (fun _ => true)).isE] 71))).1
            have HPe7 := Lib.hid ((He_s.out.re (S₁ := S₁) (fun x _ h => by rw [hS2.out]; exact .inl h)).below (bel1 w6 (Obj.cells #[.func (.func K6) #[] c6, .func (.func K6') #[] c6', .bool (listP ⟨[nameP, namesP, exprP E], none, []⟩ (fun _ => true)).isE] 71)))
            have HPk7 := Lib.hid ((Hk_s.out.re (S₁ := S₁) (fun x _ h => by rw [hS2.out]; exact .inl h)).below (bel1 w6 (Obj.cells #[.func (.func K6) #[] c6, .func (.func K6') #[] c6', .bool (listP ⟨[nameP, namesP, exprP E], none, []⟩ (fun _ => true)).isE] 71)))
            refine hK9.out _ _ (HY.out _ HC7.out) (fun hHeld => ?_)
            clear hK9 K9
            try simp only [Act.put, List.setIfInBounds_toArray, List.set_cons_zero, List.set_cons_succ]
            refine wpAnyH_done (by kernel_rfl) ?_ _
            obtain ⟨w7, hw7⟩ : ∃ w7, w6.alloc (Obj.cells #[.func (.func K6) #[] c6, .func (.func K6') #[] c6', .bool (listP ⟨[nameP, namesP, exprP E], none, []⟩ (fun _ => true)).isE] 71) = w7 := ⟨_, rfl⟩
            rw [hw7] at HC7 HA7 HPe7 HPk7 ⊢
            clear hw7
            have HZ7 := Lib.hid (Nat.le_trans HZ2.out HC7.out.size)
            obtain ⟨xx, hxx⟩ : ∃ xx, (w6.heap.size) = xx := ⟨_, rfl⟩
            rw [hxx] at HA7
            have hnx : ¬ (w.heap.size + 1 = xx) := by have := HZ6.out; omega
            try rw [hxx]
            clear hxx
            obtain ⟨a0, a1, a2⟩ := HA7.out
            have lx : xx < w7.heap.size := World.block_lt_of_cell? _ _ a0
            obtain ⟨y70, y71, y72⟩ := HY.out w7 HC7.out
            have HAW := Lib.hid (fun (W : World) (h : Below w7.heap.size w7 W) => (⟨(h.cell (p := ⟨xx, 0, none⟩) lx).trans a0, (h.cell (p := ⟨xx, 1, none⟩) lx).trans a1, (h.cell (p := ⟨xx, 2, none⟩) lx).trans a2⟩ : W.cell? ⟨xx, 0, none⟩ = _ ∧ W.cell? ⟨xx, 1, none⟩ = _ ∧ W.cell? ⟨xx, 2, none⟩ = _))
            go_wp2_with fail
            go_region_held3 (fun W => (W.cell? ⟨w1.heap.size, 0, none⟩ = some (.func (.func K1) #[] c1) ∧ W.cell? ⟨w1.heap.size, 1, none⟩ = some (.func (.func K1') #[] c1') ∧ W.cell? ⟨w1.heap.size, 2, none⟩ = some (.bool (exprP E).isE)) ∧ W.cell? ⟨xx, 0, none⟩ = some (.func (.func K6) #[] c6) ∧ W.cell? ⟨xx, 1, none⟩ = some (.func (.func K6') #[] c6') ∧ W.cell? ⟨xx, 2, none⟩ = some (.bool (listP ⟨[nameP, namesP, exprP E], none, []⟩ (fun _ => true)).isE)) (go_keep)
              (first
                | (go_at_call 82; refine (just_any (S := S₁) n _ [exprP E, listP ⟨[nameP, namesP, exprP E], none, []⟩ (fun _ => true)] _ _ (parts2 (hp1d _ _) (fun e => absurd (HS1.out _ e) (by have := HZ7.out; omega)) (HPe7.out.below (bel1 _ _).drew) (HPk7.out.below (bel1 _ _).drew))).mono ?_; rintro e w8 ⟨v8, rfl, hx, hB⟩; have hb := up (bel1 _ _).drew hB; have HC8 := Lib.hid (up HC7.out hb); have HD8 := Lib.hid hb; have HZ8 := Lib.hid (Nat.le_trans HZ7.out hb.size); have HR8 := Lib.hid hx; have HPk8 := Lib.hid (HPk7.out.below hb); obtain ⟨y80, y81, y82⟩ := HY.out w8 HC8.out; obtain ⟨a80, a81, a82⟩ := HAW.out w8 hb; clear hb hx hB)
                | (go_at_call 93; refine (any_any (S := S₁) n _ _ _ _ _ (listP ⟨[nameP, namesP, exprP E], none, []⟩ (fun _ => true)) _ (fun b e => by have := HS1.out b e; have := HZ8.out; omega) HR8.out HPk8.out).mono ?_; rintro e w9 ⟨v9, rfl, hx, hB⟩; obtain ⟨fa, fl, fc, ba, bl, bc, m, rfl⟩ := hx.vals; have HC9 := Lib.hid (up HC8.out hB); have HRL := Lib.hid hx; have HBL := Lib.hid (up HB2.out HC9.out); obtain ⟨y90, y91, y92⟩ := HY.out w9 HC9.out; obtain ⟨a90, a91, a92⟩ := HAW.out w9 (up HD8.out hB); obtain ⟨⟨z0, z1, z2⟩, z3, z4, z5⟩ := cells3 ((HBL.out.block (w.heap.size + 1) (by simp)).trans (heap2 _ _ _)); clear hx hB)
                | fail)
            go_wp2_with fail
            refine bodyPost_ret (v := .agg #[.slice fa fl fc, .slice ba bl bc, .pointer m]) (by simp [results, Tryz.results99, go_sem, cell_set, z0, z1, z2]) rfl (row_close3 (k := 1) (B0 := w.heap.size + 1) (Nat.le_succ _) (Nat.le_refl _) (Nat.lt_succ_self _) (up (bel2 _ _ _) HBL.out) ?_ _ _ _)
            have hp := HRL.out
            rw [HE.out] at hp
            exact hp
          · skip
            go_simp
            refine hK9.out _ _ (HY.out _ (up HC5.out (bel1 _ _))) (fun hHeld => ?_)
            clear hK9 K9
            try simp only [Act.put, List.setIfInBounds_toArray, List.set_cons_zero, List.set_cons_succ]
            obtain ⟨S₂, hS2'⟩ : ∃ S₂, S₂ = andFrom S₁ (w5.heap.size) 1 := ⟨_, rfl⟩
            have hS2 := Lib.hid hS2'
            have HN2 : Hid (∀ x, S₂ x → S₁ x ∨ x = (w5.heap.size)) := Lib.hid (fun x h => andFrom_one (hS2' ▸ h))
            clear hS2'
            have He_s := Lib.hid (He_5.out.re (S₁ := S₂) (fun x hx h => (HN2.out x h).elim id (fun h => absurd h (by omega))))
            have Hr0_s := Lib.hid (HR5.out.re (S₁ := S₂) (fun x hx h => (HN2.out x h).elim id (fun h => absurd h (by omega))))
            refine wpAnyH_ready (rs := [5]) (by kernel_rfl) (by simp) ?_
            refine (AllReadyH.cons rfl (fun K9 hK9 => ?_) AllReadyH.nil)
            go_simp
            go_at_call 94
            refine (aList_none (S := S₂) n ⟨[nameP, namesP, exprP E], none, []⟩ _ _ (fun b e => (HN2.out b e).elim (fun h => by have := HS1.out b h; have := HZ5.out; first | omega | (simp; omega)) (fun h => by subst h; exact (by simp))) (Hr0_s.out.below (bel1 _ _)) (by simp) (by simp)).mono ?_
            rintro e w6 ⟨vf6, vi6, ve6, rfl, hx, hB⟩
            obtain ⟨K6, c6, K6', c6', rfl, rfl, rfl⟩ := hx.vals1 rfl
            have hb := up (bel1 _ _) hB
            have HC6 := Lib.hid (up HC5.out hb)
            have He_6 := Lib.hid (He_s.out.below hb)
            have HR6 := Lib.hid hx
            have HMarm_6 := Lib.hid ((hB.block _ (lt_of_block (hp1 _ _))).trans (hp1 _ _))
            clear hb hx hB
            go_wp2_with fail
            refine hK9.out _ _ (HY.out _ HC6.out) (fun hHeld => ?_)
            clear hK9 K9
            try simp only [Act.put, List.setIfInBounds_toArray, List.set_cons_zero, List.set_cons_succ]
            refine wpAnyH_ready (rs := [7]) (by kernel_rfl) (by simp) ?_
            refine (AllReadyH.cons rfl (fun K9 hK9 => ?_) AllReadyH.nil)
            obtain ⟨⟨s0, s1, s2⟩, s3, s4, s5⟩ := cells3 HMarm_6.out
            go_simp
            have hSX : w2.heap.size ≤ (w5.heap.size) := by first | omega | (have := HC5.out.size; omega)
            have HC7 := Lib.hid (((HC6.out.setCell (p := ⟨(w5.heap.size), 0, none⟩) hSX (.func (.func K6) #[] c6)).setCell (p := ⟨(w5.heap.size), 1, none⟩) hSX (.func (.func K6') #[] c6')).setCell (p := ⟨(w5.heap.size), 2, none⟩) hSX (.bool (listP ⟨[nameP, namesP, exprP E], none, []⟩ (fun _ => true)).isE))
            have HA7 : Hid ((((w6.setCell ⟨(w5.heap.size), 0, none⟩ (.func (.func K6) #[] c6)).setCell ⟨(w5.heap.size), 1, none⟩ (.func (.func K6') #[] c6')).setCell ⟨(w5.heap.size), 2, none⟩ (.bool (listP ⟨[nameP, namesP, exprP E], none, []⟩ (fun _ => true)).isE)).cell? ⟨(w5.heap.size), 0, none⟩ = some (.func (.func K6) #[] c6) ∧ (((w6.setCell ⟨(w5.heap.size), 0, none⟩ (.func (.func K6) #[] c6)).setCell ⟨(w5.heap.size), 1, none⟩ (.func (.func K6') #[] c6')).setCell ⟨(w5.heap.size), 2, none⟩ (.bool (listP ⟨[nameP, namesP, exprP E], none, []⟩ (fun _ => true)).isE)).cell? ⟨(w5.heap.size), 1, none⟩ = some (.func (.func K6') #[] c6') ∧ (((w6.setCell ⟨(w5.heap.size), 0, none⟩ (.func (.func K6) #[] c6)).setCell ⟨(w5.heap.size), 1, none⟩ (.func (.func K6') #[] c6')).setCell ⟨(w5.heap.size), 2, none⟩ (.bool (listP ⟨[nameP, namesP, exprP E], none, []⟩ (fun _ => true)).isE)).cell? ⟨(w5.heap.size), 2, none⟩ = some (.bool (listP ⟨[nameP, namesP, exprP E], none, []⟩ (fun _ => true)).isE)) := Lib.hid (by simp [World.cell?_setCell_other, cell_set, s0, s1, s2])
            have hSh : Shift S₁ S₂ w6 (((w6.setCell ⟨(w5.heap.size), 0, none⟩ (.func (.func K6) #[] c6)).setCell ⟨(w5.heap.size), 1, none⟩ (.func (.func K6') #[] c6')).setCell ⟨(w5.heap.size), 2, none⟩ (.bool (listP ⟨[nameP, namesP, exprP E], none, []⟩ (fun _ => true)).isE)) := by
              rw [hS2.out]
              exact (((Shift.start S₁ (w5.heap.size) 1 w6).set (a := ⟨(w5.heap.size), 0, none⟩) (.inr ⟨Nat.le_refl _, Nat.lt_succ_self _⟩) _).set (a := ⟨(w5.heap.size), 1, none⟩) (.inr ⟨Nat.le_refl _, Nat.lt_succ_self _⟩) _).set (a := ⟨(w5.heap.size), 2, none⟩) (.inr ⟨Nat.le_refl _, Nat.lt_succ_self _⟩) _
            have HPe7 := Lib.hid (He_6.out.shift hSh)
            have HPk7 := Lib.hid (HR6.out.shift hSh)
            clear hSh hSX s0 s1 s2 s3 s4 s5
            refine hK9.out _ _ (HY.out _ HC7.out) (fun hHeld => ?_)
            clear hK9 K9
            try simp only [Act.put, List.setIfInBounds_toArray, List.set_cons_zero, List.set_cons_succ]
            refine wpAnyH_done (by kernel_rfl) ?_ _
            obtain ⟨w7, hw7⟩ : ∃ w7, ((w6.setCell ⟨(w5.heap.size), 0, none⟩ (.func (.func K6) #[] c6)).setCell ⟨(w5.heap.size), 1, none⟩ (.func (.func K6') #[] c6')).setCell ⟨(w5.heap.size), 2, none⟩ (.bool (listP ⟨[nameP, namesP, exprP E], none, []⟩ (fun _ => true)).isE) = w7 := ⟨_, rfl⟩
            rw [hw7] at HC7 HA7 HPe7 HPk7 ⊢
            clear hw7
            have HZ7 := Lib.hid (Nat.le_trans HZ2.out HC7.out.size)
            obtain ⟨xx, hxx⟩ : ∃ xx, (w5.heap.size) = xx := ⟨_, rfl⟩
            rw [hxx] at HA7
            have hnx : ¬ (w.heap.size + 1 = xx) := by have := HZ5.out; omega
            try rw [hxx]
            clear hxx
            obtain ⟨a0, a1, a2⟩ := HA7.out
            have lx : xx < w7.heap.size := World.block_lt_of_cell? _ _ a0
            obtain ⟨y70, y71, y72⟩ := HY.out w7 HC7.out
            have HAW := Lib.hid (fun (W : World) (h : Below w7.heap.size w7 W) => (⟨(h.cell (p := ⟨xx, 0, none⟩) lx).trans a0, (h.cell (p := ⟨xx, 1, none⟩) lx).trans a1, (h.cell (p := ⟨xx, 2, none⟩) lx).trans a2⟩ : W.cell? ⟨xx, 0, none⟩ = _ ∧ W.cell? ⟨xx, 1, none⟩ = _ ∧ W.cell? ⟨xx, 2, none⟩ = _))
            go_wp2_with fail
            go_region_held3 (fun W => (W.cell? ⟨w1.heap.size, 0, none⟩ = some (.func (.func K1) #[] c1) ∧ W.cell? ⟨w1.heap.size, 1, none⟩ = some (.func (.func K1') #[] c1') ∧ W.cell? ⟨w1.heap.size, 2, none⟩ = some (.bool (exprP E).isE)) ∧ W.cell? ⟨xx, 0, none⟩ = some (.func (.func K6) #[] c6) ∧ W.cell? ⟨xx, 1, none⟩ = some (.func (.func K6') #[] c6') ∧ W.cell? ⟨xx, 2, none⟩ = some (.bool (listP ⟨[nameP, namesP, exprP E], none, []⟩ (fun _ => true)).isE)) (go_keep)
              (first
                | (go_at_call 82; refine (just_any (S := S₁) n _ [exprP E, listP ⟨[nameP, namesP, exprP E], none, []⟩ (fun _ => true)] _ _ (parts2 (hp1d _ _) (fun e => absurd (HS1.out _ e) (by have := HZ7.out; omega)) (HPe7.out.below (bel1 _ _).drew) (HPk7.out.below (bel1 _ _).drew))).mono ?_; rintro e w8 ⟨v8, rfl, hx, hB⟩; have hb := up (bel1 _ _).drew hB; have HC8 := Lib.hid (up HC7.out hb); have HD8 := Lib.hid hb; have HZ8 := Lib.hid (Nat.le_trans HZ7.out hb.size); have HR8 := Lib.hid hx; have HPk8 := Lib.hid (HPk7.out.below hb); obtain ⟨y80, y81, y82⟩ := HY.out w8 HC8.out; obtain ⟨a80, a81, a82⟩ := HAW.out w8 hb; clear hb hx hB)
                | (go_at_call 93; refine (any_any (S := S₁) n _ _ _ _ _ (listP ⟨[nameP, namesP, exprP E], none, []⟩ (fun _ => true)) _ (fun b e => by have := HS1.out b e; have := HZ8.out; omega) HR8.out HPk8.out).mono ?_; rintro e w9 ⟨v9, rfl, hx, hB⟩; obtain ⟨fa, fl, fc, ba, bl, bc, m, rfl⟩ := hx.vals; have HC9 := Lib.hid (up HC8.out hB); have HRL := Lib.hid hx; have HBL := Lib.hid (up HB2.out HC9.out); obtain ⟨y90, y91, y92⟩ := HY.out w9 HC9.out; obtain ⟨a90, a91, a92⟩ := HAW.out w9 (up HD8.out hB); obtain ⟨⟨z0, z1, z2⟩, z3, z4, z5⟩ := cells3 ((HBL.out.block (w.heap.size + 1) (by simp)).trans (heap2 _ _ _)); clear hx hB)
                | fail)
            go_wp2_with fail
            refine bodyPost_ret (v := .agg #[.slice fa fl fc, .slice ba bl bc, .pointer m]) (by simp [results, Tryz.results99, go_sem, cell_set, z0, z1, z2]) rfl (row_close3 (k := 1) (B0 := w.heap.size + 1) (Nat.le_succ _) (Nat.le_refl _) (Nat.lt_succ_self _) (up (bel2 _ _ _) HBL.out) ?_ _ _ _)
            have hp := HRL.out
            rw [HE.out] at hp
            exact hp
        · skip
          go_simp
          refine hK9.out _ _ (HY.out _ (up HC4.out (bel2 _ _ _))) (fun hHeld => ?_)
          clear hK9 K9
          try simp only [Act.put, List.setIfInBounds_toArray, List.set_cons_zero, List.set_cons_succ]
          obtain ⟨S₂, hS2'⟩ : ∃ S₂, S₂ = andFrom S₁ (w4.heap.size + 1) 1 := ⟨_, rfl⟩
          have hS2 := Lib.hid hS2'
          have HN2 : Hid (∀ x, S₂ x → S₁ x ∨ x = (w4.heap.size + 1)) := Lib.hid (fun x h => andFrom_one (hS2' ▸ h))
          clear hS2'
          have He_s := Lib.hid (He_4.out.re (S₁ := S₂) (fun x hx h => (HN2.out x h).elim id (fun h => absurd h (by omega))))
          have Ha_s := Lib.hid (Ha_4.out.re (S₁ := S₂) (fun x hx h => (HN2.out x h).elim id (fun h => absurd h (by omega))))
          have Hns_s := Lib.hid (HR4.out.re (S₁ := S₂) (fun x hx h => (HN2.out x h).elim id (fun h => absurd h (by omega))))
          refine wpAnyH_ready (rs := [4]) (by kernel_rfl) (by simp) ?_
          refine (AllReadyH.cons rfl (fun K9 hK9 => ?_) AllReadyH.nil)
          go_simp
          go_at_call 82
          refine (just_any (S := S₂) n _ [nameP, namesP, exprP E] _ _ (parts3 (hp2a _ _ _) (fun e => (HN2.out _ e).elim (fun h => absurd (HS1.out _ h) (by have := HZ4.out; omega)) (fun h => absurd h (by omega))) (Ha_s.out.below (bel2 _ _ _)) (Hns_s.out.below (bel2 _ _ _)) (He_s.out.below (bel2 _ _ _)))).mono ?_
          rintro e w5 ⟨v5, rfl, hx, hB⟩
          have hb := up (bel2 _ _ _) hB
          have HC5 := Lib.hid (up HC4.out hb)
          have HZ5 := Lib.hid (Nat.le_trans HZ4.out hb.size)
          have He_5 := Lib.hid (He_s.out.below hb)
          have HR5 := Lib.hid hx
          have HMarm_5 := Lib.hid ((hB.block _ (lt_of_block (hp2b _ _ _))).trans (hp2b _ _ _))
          have HX5 := Lib.hid (show (w4.heap.size + 1) + 1 ≤ w5.heap.size from lt_of_block HMarm_5.out)
          clear hb hx hB
          go_wp2_with fail
          refine hK9.out _ _ (HY.out _ HC5.out) (fun hHeld => ?_)
          clear hK9 K9
          try simp only [Act.put, List.setIfInBounds_toArray, List.set_cons_zero, List.set_cons_succ]
          refine wpAnyH_ready (rs := [5]) (by kernel_rfl) (by simp) ?_
          refine (AllReadyH.cons rfl (fun K9 hK9 => ?_) AllReadyH.nil)
          go_simp
          go_at_call 94
          refine (aList_none (S := S₂) n ⟨[nameP, namesP, exprP E], none, []⟩ _ _ (fun b e => (HN2.out b e).elim (fun h => by have := HS1.out b h; have := HZ5.out; first | omega | (simp; omega)) (fun h => by subst h; exact (by have := HX5.out; first | omega | (simp; omega)))) (HR5.out.below (Below.refl _ _)) (by simp) (by simp)).mono ?_
          rintro e w6 ⟨vf6, vi6, ve6, rfl, hx, hB⟩
          obtain ⟨K6, c6, K6', c6', rfl, rfl, rfl⟩ := hx.vals1 rfl
          have hb := up (Below.refl _ _) hB
          have HC6 := Lib.hid (up HC5.out hb)
          have He_6 := Lib.hid (He_5.out.below hb)
          have HR6 := Lib.hid hx
          have HMarm_6 := Lib.hid ((hb.block _ (lt_of_block HMarm_5.out)).trans HMarm_5.out)
          clear hb hx hB
          go_wp2_with fail
          refine hK9.out _ _ (HY.out _ HC6.out) (fun hHeld => ?_)
          clear hK9 K9
          try simp only [Act.put, List.setIfInBounds_toArray, List.set_cons_zero, List.set_cons_succ]
          refine wpAnyH_ready (rs := [7]) (by kernel_rfl) (by simp) ?_
          refine (AllReadyH.cons rfl (fun K9 hK9 => ?_) AllReadyH.nil)
          obtain ⟨⟨s0, s1, s2⟩, s3, s4, s5⟩ := cells3 HMarm_6.out
          go_simp
          have hSX : w2.heap.size ≤ (w4.heap.size + 1) := by first | omega | (have := HC4.out.size; omega)
          have HC7 := Lib.hid (((HC6.out.setCell (p := ⟨(w4.heap.size + 1), 0, none⟩) hSX (.func (.func K6) #[] c6)).setCell (p := ⟨(w4.heap.size + 1), 1, none⟩) hSX (.func (.func K6') #[] c6')).setCell (p := ⟨(w4.heap.size + 1), 2, none⟩) hSX (.bool (listP ⟨[nameP, namesP, exprP E], none, []⟩ (fun _ => true)).isE))
          have HA7 : Hid ((((w6.setCell ⟨(w4.heap.size + 1), 0, none⟩ (.func (.func K6) #[] c6)).setCell ⟨(w4.heap.size + 1), 1, none⟩ (.func (.func K6') #[] c6')).setCell ⟨(w4.heap.size + 1), 2, none⟩ (.bool (listP ⟨[nameP, namesP, exprP E], none, []⟩ (fun _ => true)).isE)).cell? ⟨(w4.heap.size + 1), 0, none⟩ = some (.func (.func K6) #[] c6) ∧ (((w6.setCell ⟨(w4.heap.size + 1), 0, none⟩ (.func (.func K6) #[] c6)).setCell ⟨(w4.heap.size + 1), 1, none⟩ (.func (.func K6') #[] c6')).setCell ⟨(w4.heap.size + 1), 2, none⟩ (.bool (listP ⟨[nameP, namesP, exprP E], none, []⟩ (fun _ => true)).isE)).cell? ⟨(w4.heap.size + 1), 1, none⟩ = some (.func (.func K6') #[] c6') ∧ (((w6.setCell ⟨(w4.heap.size + 1), 0, none⟩ (.func (.func K6) #[] c6)).setCell ⟨(w4.heap.size + 1), 1, none⟩ (.func (.func K6') #[] c6')).setCell ⟨(w4.heap.size + 1), 2, none⟩ (.bool (listP ⟨[nameP, namesP, exprP E], none, []⟩ (fun _ => true)).isE)).cell? ⟨(w4.heap.size + 1), 2, none⟩ = some (.bool (listP ⟨[nameP, namesP, exprP E], none, []⟩ (fun _ => true)).isE)) := Lib.hid (by simp [World.cell?_setCell_other, cell_set, s0, s1, s2])
          have hSh : Shift S₁ S₂ w6 (((w6.setCell ⟨(w4.heap.size + 1), 0, none⟩ (.func (.func K6) #[] c6)).setCell ⟨(w4.heap.size + 1), 1, none⟩ (.func (.func K6') #[] c6')).setCell ⟨(w4.heap.size + 1), 2, none⟩ (.bool (listP ⟨[nameP, namesP, exprP E], none, []⟩ (fun _ => true)).isE)) := by
            rw [hS2.out]
            exact (((Shift.start S₁ (w4.heap.size + 1) 1 w6).set (a := ⟨(w4.heap.size + 1), 0, none⟩) (.inr ⟨Nat.le_refl _, Nat.lt_succ_self _⟩) _).set (a := ⟨(w4.heap.size + 1), 1, none⟩) (.inr ⟨Nat.le_refl _, Nat.lt_succ_self _⟩) _).set (a := ⟨(w4.heap.size + 1), 2, none⟩) (.inr ⟨Nat.le_refl _, Nat.lt_succ_self _⟩) _
          have HPe7 := Lib.hid (He_6.out.shift hSh)
          have HPk7 := Lib.hid (HR6.out.shift hSh)
          clear hSh hSX s0 s1 s2 s3 s4 s5
          refine hK9.out _ _ (HY.out _ HC7.out) (fun hHeld => ?_)
          clear hK9 K9
          try simp only [Act.put, List.setIfInBounds_toArray, List.set_cons_zero, List.set_cons_succ]
          refine wpAnyH_done (by kernel_rfl) ?_ _
          obtain ⟨w7, hw7⟩ : ∃ w7, ((w6.setCell ⟨(w4.heap.size + 1), 0, none⟩ (.func (.func K6) #[] c6)).setCell ⟨(w4.heap.size + 1), 1, none⟩ (.func (.func K6') #[] c6')).setCell ⟨(w4.heap.size + 1), 2, none⟩ (.bool (listP ⟨[nameP, namesP, exprP E], none, []⟩ (fun _ => true)).isE) = w7 := ⟨_, rfl⟩
          rw [hw7] at HC7 HA7 HPe7 HPk7 ⊢
          clear hw7
          have HZ7 := Lib.hid (Nat.le_trans HZ2.out HC7.out.size)
          obtain ⟨xx, hxx⟩ : ∃ xx, (w4.heap.size + 1) = xx := ⟨_, rfl⟩
          rw [hxx] at HA7
          have hnx : ¬ (w.heap.size + 1 = xx) := by have := HZ4.out; omega
          try rw [hxx]
          clear hxx
          obtain ⟨a0, a1, a2⟩ := HA7.out
          have lx : xx < w7.heap.size := World.block_lt_of_cell? _ _ a0
          obtain ⟨y70, y71, y72⟩ := HY.out w7 HC7.out
          have HAW := Lib.hid (fun (W : World) (h : Below w7.heap.size w7 W) => (⟨(h.cell (p := ⟨xx, 0, none⟩) lx).trans a0, (h.cell (p := ⟨xx, 1, none⟩) lx).trans a1, (h.cell (p := ⟨xx, 2, none⟩) lx).trans a2⟩ : W.cell? ⟨xx, 0, none⟩ = _ ∧ W.cell? ⟨xx, 1, none⟩ = _ ∧ W.cell? ⟨xx, 2, none⟩ = _))
          go_wp2_with fail
          go_region_held3 (fun W => (W.cell? ⟨w1.heap.size, 0, none⟩ = some (.func (.func K1) #[] c1) ∧ W.cell? ⟨w1.heap.size, 1, none⟩ = some (.func (.func K1') #[] c1') ∧ W.cell? ⟨w1.heap.size, 2, none⟩ = some (.bool (exprP E).isE)) ∧ W.cell? ⟨xx, 0, none⟩ = some (.func (.func K6) #[] c6) ∧ W.cell? ⟨xx, 1, none⟩ = some (.func (.func K6') #[] c6') ∧ W.cell? ⟨xx, 2, none⟩ = some (.bool (listP ⟨[nameP, namesP, exprP E], none, []⟩ (fun _ => true)).isE)) (go_keep)
            (first
              | (go_at_call 82; refine (just_any (S := S₁) n _ [exprP E, listP ⟨[nameP, namesP, exprP E], none, []⟩ (fun _ => true)] _ _ (parts2 (hp1d _ _) (fun e => absurd (HS1.out _ e) (by have := HZ7.out; omega)) (HPe7.out.below (bel1 _ _).drew) (HPk7.out.below (bel1 _ _).drew))).mono ?_; rintro e w8 ⟨v8, rfl, hx, hB⟩; have hb := up (bel1 _ _).drew hB; have HC8 := Lib.hid (up HC7.out hb); have HD8 := Lib.hid hb; have HZ8 := Lib.hid (Nat.le_trans HZ7.out hb.size); have HR8 := Lib.hid hx; have HPk8 := Lib.hid (HPk7.out.below hb); obtain ⟨y80, y81, y82⟩ := HY.out w8 HC8.out; obtain ⟨a80, a81, a82⟩ := HAW.out w8 hb; clear hb hx hB)
              | (go_at_call 93; refine (any_any (S := S₁) n _ _ _ _ _ (listP ⟨[nameP, namesP, exprP E], none, []⟩ (fun _ => true)) _ (fun b e => by have := HS1.out b e; have := HZ8.out; omega) HR8.out HPk8.out).mono ?_; rintro e w9 ⟨v9, rfl, hx, hB⟩; obtain ⟨fa, fl, fc, ba, bl, bc, m, rfl⟩ := hx.vals; have HC9 := Lib.hid (up HC8.out hB); have HRL := Lib.hid hx; have HBL := Lib.hid (up HB2.out HC9.out); obtain ⟨y90, y91, y92⟩ := HY.out w9 HC9.out; obtain ⟨a90, a91, a92⟩ := HAW.out w9 (up HD8.out hB); obtain ⟨⟨z0, z1, z2⟩, z3, z4, z5⟩ := cells3 ((HBL.out.block (w.heap.size + 1) (by simp)).trans (heap2 _ _ _)); clear hx hB)
              | fail)
          go_wp2_with fail
          refine bodyPost_ret (v := .agg #[.slice fa fl fc, .slice ba bl bc, .pointer m]) (by simp [results, Tryz.results99, go_sem, cell_set, z0, z1, z2]) rfl (row_close3 (k := 1) (B0 := w.heap.size + 1) (Nat.le_succ _) (Nat.le_refl _) (Nat.lt_succ_self _) (up (bel2 _ _ _) HBL.out) ?_ _ _ _)
          have hp := HRL.out
          rw [HE.out] at hp
          exact hp
      · skip
        go_simp
        refine hK9.out _ _ (HY.out _ (up HC4.out (bel1 _ _))) (fun hHeld => ?_)
        clear hK9 K9
        try simp only [Act.put, List.setIfInBounds_toArray, List.set_cons_zero, List.set_cons_succ]
        obtain ⟨S₂, hS2'⟩ : ∃ S₂, S₂ = andFrom S₁ (w4.heap.size) 1 := ⟨_, rfl⟩
        have hS2 := Lib.hid hS2'
        have HN2 : Hid (∀ x, S₂ x → S₁ x ∨ x = (w4.heap.size)) := Lib.hid (fun x h => andFrom_one (hS2' ▸ h))
        clear hS2'
        have He_s := Lib.hid (He_4.out.re (S₁ := S₂) (fun x hx h => (HN2.out x h).elim id (fun h => absurd h (by omega))))
        have Ha_s := Lib.hid (Ha_4.out.re (S₁ := S₂) (fun x hx h => (HN2.out x h).elim id (fun h => absurd h (by omega))))
        have Hns_s := Lib.hid (HR4.out.re (S₁ := S₂) (fun x hx h => (HN2.out x h).elim id (fun h => absurd h (by omega))))
        refine wpAnyH_ready (rs := [3]) (by kernel_rfl) (by simp) ?_
        refine (AllReadyH.cons rfl (fun K9 hK9 => ?_) AllReadyH.nil)
        go_simp
        refine hK9.out _ _ (HY.out _ (up HC4.out (bel2 _ _ _))) (fun hHeld => ?_)
        clear hK9 K9
        try simp only [Act.put, List.setIfInBounds_toArray, List.set_cons_zero, List.set_cons_succ]
        refine wpAnyH_ready (rs := [4]) (by kernel_rfl) (by simp) ?_
        refine (AllReadyH.cons rfl (fun K9 hK9 => ?_) AllReadyH.nil)
        go_simp
        go_at_call 82
        refine (just_any (S := S₂) n _ [nameP, namesP, exprP E] _ _ (parts3 (hp2b _ _ _) (fun e => (HN2.out _ e).elim (fun h => absurd (HS1.out _ h) (by have := HZ4.out; omega)) (fun h => absurd h (by omega))) (Ha_s.out.below (bel2 _ _ _)) (Hns_s.out.below (bel2 _ _ _)) (He_s.out.below (bel2 _ _ _)))).mono ?_
        rintro e w5 ⟨v5, rfl, hx, hB⟩
        have hb := up (bel2 _ _ _) hB
        have HC5 := Lib.hid (up HC4.out hb)
        have HZ5 := Lib.hid (Nat.le_trans HZ4.out hb.size)
        have He_5 := Lib.hid (He_s.out.below hb)
        have HR5 := Lib.hid hx
        have HMarm_5 := Lib.hid ((hB.block _ (lt_of_block (hp2a _ _ _))).trans (hp2a _ _ _))
        have HX5 := Lib.hid (show (w4.heap.size) + 1 ≤ w5.heap.size from lt_of_block HMarm_5.out)
        clear hb hx hB
        go_wp2_with fail
        refine hK9.out _ _ (HY.out _ HC5.out) (fun hHeld => ?_)
        clear hK9 K9
        try simp only [Act.put, List.setIfInBounds_toArray, List.set_cons_zero, List.set_cons_succ]
        refine wpAnyH_ready (rs := [5]) (by kernel_rfl) (by simp) ?_
        refine (AllReadyH.cons rfl (fun K9 hK9 => ?_) AllReadyH.nil)
        go_simp
        go_at_call 94
        refine (aList_none (S := S₂) n ⟨[nameP, namesP, exprP E], none, []⟩ _ _ (fun b e => (HN2.out b e).elim (fun h => by have := HS1.out b h; have := HZ5.out; first | omega | (simp; omega)) (fun h => by subst h; exact (by have := HX5.out; first | omega | (simp; omega)))) (HR5.out.below (Below.refl _ _)) (by simp) (by simp)).mono ?_
        rintro e w6 ⟨vf6, vi6, ve6, rfl, hx, hB⟩
        obtain ⟨K6, c6, K6', c6', rfl, rfl, rfl⟩ := hx.vals1 rfl
        have hb := up (Below.refl _ _) hB
        have HC6 := Lib.hid (up HC5.out hb)
        have He_6 := Lib.hid (He_5.out.below hb)
        have HR6 := Lib.hid hx
        have HMarm_6 := Lib.hid ((hb.block _ (lt_of_block HMarm_5.out)).trans HMarm_5.out)
        clear hb hx hB
        go_wp2_with fail
        refine hK9.out _ _ (HY.out _ HC6.out) (fun hHeld => ?_)
        clear hK9 K9
        try simp only [Act.put, List.setIfInBounds_toArray, List.set_cons_zero, List.set_cons_succ]
        refine wpAnyH_ready (rs := [7]) (by kernel_rfl) (by simp) ?_
        refine (AllReadyH.cons rfl (fun K9 hK9 => ?_) AllReadyH.nil)
        obtain ⟨⟨s0, s1, s2⟩, s3, s4, s5⟩ := cells3 HMarm_6.out
        go_simp
        have hSX : w2.heap.size ≤ (w4.heap.size) := by first | omega | (have := HC4.out.size; omega)
        have HC7 := Lib.hid (((HC6.out.setCell (p := ⟨(w4.heap.size), 0, none⟩) hSX (.func (.func K6) #[] c6)).setCell (p := ⟨(w4.heap.size), 1, none⟩) hSX (.func (.func K6') #[] c6')).setCell (p := ⟨(w4.heap.size), 2, none⟩) hSX (.bool (listP ⟨[nameP, namesP, exprP E], none, []⟩ (fun _ => true)).isE))
        have HA7 : Hid ((((w6.setCell ⟨(w4.heap.size), 0, none⟩ (.func (.func K6) #[] c6)).setCell ⟨(w4.heap.size), 1, none⟩ (.func (.func K6') #[] c6')).setCell ⟨(w4.heap.size), 2, none⟩ (.bool (listP ⟨[nameP, namesP, exprP E], none, []⟩ (fun _ => true)).isE)).cell? ⟨(w4.heap.size), 0, none⟩ = some (.func (.func K6) #[] c6) ∧ (((w6.setCell ⟨(w4.heap.size), 0, none⟩ (.func (.func K6) #[] c6)).setCell ⟨(w4.heap.size), 1, none⟩ (.func (.func K6') #[] c6')).setCell ⟨(w4.heap.size), 2, none⟩ (.bool (listP ⟨[nameP, namesP, exprP E], none, []⟩ (fun _ => true)).isE)).cell? ⟨(w4.heap.size), 1, none⟩ = some (.func (.func K6') #[] c6') ∧ (((w6.setCell ⟨(w4.heap.size), 0, none⟩ (.func (.func K6) #[] c6)).setCell ⟨(w4.heap.size), 1, none⟩ (.func (.func K6') #[] c6')).setCell ⟨(w4.heap.size), 2, none⟩ (.bool (listP ⟨[nameP, namesP, exprP E], none, []⟩ (fun _ => true)).isE)).cell? ⟨(w4.heap.size), 2, none⟩ = some (.bool (listP ⟨[nameP, namesP, exprP E], none, []⟩ (fun _ => true)).isE)) := Lib.hid (by simp [World.cell?_setCell_other, cell_set, s0, s1, s2])
        have hSh : Shift S₁ S₂ w6 (((w6.setCell ⟨(w4.heap.size), 0, none⟩ (.func (.func K6) #[] c6)).setCell ⟨(w4.heap.size), 1, none⟩ (.func (.func K6') #[] c6')).setCell ⟨(w4.heap.size), 2, none⟩ (.bool (listP ⟨[nameP, namesP, exprP E], none, []⟩ (fun _ => true)).isE)) := by
          rw [hS2.out]
          exact (((Shift.start S₁ (w4.heap.size) 1 w6).set (a := ⟨(w4.heap.size), 0, none⟩) (.inr ⟨Nat.le_refl _, Nat.lt_succ_self _⟩) _).set (a := ⟨(w4.heap.size), 1, none⟩) (.inr ⟨Nat.le_refl _, Nat.lt_succ_self _⟩) _).set (a := ⟨(w4.heap.size), 2, none⟩) (.inr ⟨Nat.le_refl _, Nat.lt_succ_self _⟩) _
        have HPe7 := Lib.hid (He_6.out.shift hSh)
        have HPk7 := Lib.hid (HR6.out.shift hSh)
        clear hSh hSX s0 s1 s2 s3 s4 s5
        refine hK9.out _ _ (HY.out _ HC7.out) (fun hHeld => ?_)
        clear hK9 K9
        try simp only [Act.put, List.setIfInBounds_toArray, List.set_cons_zero, List.set_cons_succ]
        refine wpAnyH_done (by kernel_rfl) ?_ _
        obtain ⟨w7, hw7⟩ : ∃ w7, ((w6.setCell ⟨(w4.heap.size), 0, none⟩ (.func (.func K6) #[] c6)).setCell ⟨(w4.heap.size), 1, none⟩ (.func (.func K6') #[] c6')).setCell ⟨(w4.heap.size), 2, none⟩ (.bool (listP ⟨[nameP, namesP, exprP E], none, []⟩ (fun _ => true)).isE) = w7 := ⟨_, rfl⟩
        rw [hw7] at HC7 HA7 HPe7 HPk7 ⊢
        clear hw7
        have HZ7 := Lib.hid (Nat.le_trans HZ2.out HC7.out.size)
        obtain ⟨xx, hxx⟩ : ∃ xx, (w4.heap.size) = xx := ⟨_, rfl⟩
        rw [hxx] at HA7
        have hnx : ¬ (w.heap.size + 1 = xx) := by have := HZ4.out; omega
        try rw [hxx]
        clear hxx
        obtain ⟨a0, a1, a2⟩ := HA7.out
        have lx : xx < w7.heap.size := World.block_lt_of_cell? _ _ a0
        obtain ⟨y70, y71, y72⟩ := HY.out w7 HC7.out
        have HAW := Lib.hid (fun (W : World) (h : Below w7.heap.size w7 W) => (⟨(h.cell (p := ⟨xx, 0, none⟩) lx).trans a0, (h.cell (p := ⟨xx, 1, none⟩) lx).trans a1, (h.cell (p := ⟨xx, 2, none⟩) lx).trans a2⟩ : W.cell? ⟨xx, 0, none⟩ = _ ∧ W.cell? ⟨xx, 1, none⟩ = _ ∧ W.cell? ⟨xx, 2, none⟩ = _))
        go_wp2_with fail
        go_region_held3 (fun W => (W.cell? ⟨w1.heap.size, 0, none⟩ = some (.func (.func K1) #[] c1) ∧ W.cell? ⟨w1.heap.size, 1, none⟩ = some (.func (.func K1') #[] c1') ∧ W.cell? ⟨w1.heap.size, 2, none⟩ = some (.bool (exprP E).isE)) ∧ W.cell? ⟨xx, 0, none⟩ = some (.func (.func K6) #[] c6) ∧ W.cell? ⟨xx, 1, none⟩ = some (.func (.func K6') #[] c6') ∧ W.cell? ⟨xx, 2, none⟩ = some (.bool (listP ⟨[nameP, namesP, exprP E], none, []⟩ (fun _ => true)).isE)) (go_keep)
          (first
            | (go_at_call 82; refine (just_any (S := S₁) n _ [exprP E, listP ⟨[nameP, namesP, exprP E], none, []⟩ (fun _ => true)] _ _ (parts2 (hp1d _ _) (fun e => absurd (HS1.out _ e) (by have := HZ7.out; omega)) (HPe7.out.below (bel1 _ _).drew) (HPk7.out.below (bel1 _ _).drew))).mono ?_; rintro e w8 ⟨v8, rfl, hx, hB⟩; have hb := up (bel1 _ _).drew hB; have HC8 := Lib.hid (up HC7.out hb); have HD8 := Lib.hid hb; have HZ8 := Lib.hid (Nat.le_trans HZ7.out hb.size); have HR8 := Lib.hid hx; have HPk8 := Lib.hid (HPk7.out.below hb); obtain ⟨y80, y81, y82⟩ := HY.out w8 HC8.out; obtain ⟨a80, a81, a82⟩ := HAW.out w8 hb; clear hb hx hB)
            | (go_at_call 93; refine (any_any (S := S₁) n _ _ _ _ _ (listP ⟨[nameP, namesP, exprP E], none, []⟩ (fun _ => true)) _ (fun b e => by have := HS1.out b e; have := HZ8.out; omega) HR8.out HPk8.out).mono ?_; rintro e w9 ⟨v9, rfl, hx, hB⟩; obtain ⟨fa, fl, fc, ba, bl, bc, m, rfl⟩ := hx.vals; have HC9 := Lib.hid (up HC8.out hB); have HRL := Lib.hid hx; have HBL := Lib.hid (up HB2.out HC9.out); obtain ⟨y90, y91, y92⟩ := HY.out w9 HC9.out; obtain ⟨a90, a91, a92⟩ := HAW.out w9 (up HD8.out hB); obtain ⟨⟨z0, z1, z2⟩, z3, z4, z5⟩ := cells3 ((HBL.out.block (w.heap.size + 1) (by simp)).trans (heap2 _ _ _)); clear hx hB)
            | fail)
        go_wp2_with fail
        refine bodyPost_ret (v := .agg #[.slice fa fl fc, .slice ba bl bc, .pointer m]) (by simp [results, Tryz.results99, go_sem, cell_set, z0, z1, z2]) rfl (row_close3 (k := 1) (B0 := w.heap.size + 1) (Nat.le_succ _) (Nat.le_refl _) (Nat.lt_succ_self _) (up (bel2 _ _ _) HBL.out) ?_ _ _ _)
        have hp := HRL.out
        rw [HE.out] at hp
        exact hp
    · skip
      go_simp
      refine hK9.out _ _ (HY.out _ (up HC3.out (bel1 _ _))) (fun hHeld => ?_)
      clear hK9 K9
      try simp only [Act.put, List.setIfInBounds_toArray, List.set_cons_zero, List.set_cons_succ]
      obtain ⟨S₂, hS2'⟩ : ∃ S₂, S₂ = andFrom S₁ (w3.heap.size) 1 := ⟨_, rfl⟩
      have hS2 := Lib.hid hS2'
      have HN2 : Hid (∀ x, S₂ x → S₁ x ∨ x = (w3.heap.size)) := Lib.hid (fun x h => andFrom_one (hS2' ▸ h))
      clear hS2'
      have He_s := Lib.hid (He_3.out.re (S₁ := S₂) (fun x hx h => (HN2.out x h).elim id (fun h => absurd h (by omega))))
      have Ha_s := Lib.hid (HR3.out.re (S₁ := S₂) (fun x hx h => (HN2.out x h).elim id (fun h => absurd h (by omega))))
      refine wpAnyH_ready (rs := [1]) (by kernel_rfl) (by simp) ?_
      refine (AllReadyH.cons rfl (fun K9 hK9 => ?_) AllReadyH.nil)
      go_simp
      go_at_call 140
      refine (names_any (S := S₂) n _ (fun b e => (HN2.out b e).elim (fun h => by have := HS1.out b h; have := HZ3.out; first | omega | (simp; omega)) (fun h => by subst h; exact (by simp)))).mono ?_
      rintro e w4 ⟨vf4, vi4, ve4, rfl, hx, hB⟩
      obtain ⟨K4, c4, K4', c4', rfl, rfl, rfl⟩ := hx.vals1 rfl
      have hb := up (bel1 _ _) hB
      have HC4 := Lib.hid (up HC3.out hb)
      have HZ4 := Lib.hid (Nat.le_trans HZ3.out hb.size)
      have He_4 := Lib.hid (He_s.out.below hb)
      have Ha_4 := Lib.hid (Ha_s.out.below hb)
      have HR4 := Lib.hid hx
      have HMarm_4 := Lib.hid ((hB.block _ (lt_of_block (hp1 _ _))).trans (hp1 _ _))
      have HX4 := Lib.hid (show (w3.heap.size) + 1 ≤ w4.heap.size from lt_of_block HMarm_4.out)
      clear hb hx hB
      go_wp2_with fail
      refine hK9.out _ _ (HY.out _ HC4.out) (fun hHeld => ?_)
      clear hK9 K9
      try simp only [Act.put, List.setIfInBounds_toArray, List.set_cons_zero, List.set_cons_succ]
      refine wpAnyH_ready (rs := [3]) (by kernel_rfl) (by simp) ?_
      refine (AllReadyH.cons rfl (fun K9 hK9 => ?_) AllReadyH.nil)
      go_simp
      refine hK9.out _ _ (HY.out _ (up HC4.out (bel1 _ _))) (fun hHeld => ?_)
      clear hK9 K9
      try simp only [Act.put, List.setIfInBounds_toArray, List.set_cons_zero, List.set_cons_succ]
      refine wpAnyH_ready (rs := [4]) (by kernel_rfl) (by simp) ?_
      refine (AllReadyH.cons rfl (fun K9 hK9 => ?_) AllReadyH.nil)
      go_simp
      go_at_call 82
      refine (just_any (S := S₂) n _ [nameP, namesP, exprP E] _ _ (parts3 (hp1 _ _) (fun e => (HN2.out _ e).elim (fun h => absurd (HS1.out _ h) (by have := HZ4.out; omega)) (fun h => absurd h (by (have := HX4.out; omega)))) (Ha_4.out.below (bel1 _ _)) (HR4.out.below (bel1 _ _)) (He_4.out.below (bel1 _ _)))).mono ?_
      rintro e w5 ⟨v5, rfl, hx, hB⟩
      have hb := up (bel1 _ _) hB
      have HC5 := Lib.hid (up HC4.out hb)
      have HZ5 := Lib.hid (Nat.le_trans HZ4.out hb.size)
      have He_5 := Lib.hid (He_4.out.below hb)
      have HR5 := Lib.hid hx
      have HMarm_5 := Lib.hid ((hb.block _ (lt_of_block HMarm_4.out)).trans HMarm_4.out)
      have HX5 := Lib.hid (show (w3.heap.size) + 1 ≤ w5.heap.size from lt_of_block HMarm_5.out)
      clear hb hx hB
      go_wp2_with fail
      refine hK9.out _ _ (HY.out _ HC5.out) (fun hHeld => ?_)
      clear hK9 K9
      try simp only [Act.put, List.setIfInBounds_toArray, List.set_cons_zero, List.set_cons_succ]
      refine wpAnyH_ready (rs := [5]) (by kernel_rfl) (by simp) ?_
      refine (AllReadyH.cons rfl (fun K9 hK9 => ?_) AllReadyH.nil)
      go_simp
      go_at_call 94
      refine (aList_none (S := S₂) n ⟨[nameP, namesP, exprP E], none, []⟩ _ _ (fun b e => (HN2.out b e).elim (fun h => by have := HS1.out b h; have := HZ5.out; first | omega | (simp; omega)) (fun h => by subst h; exact (by have := HX5.out; first | omega | (simp; omega)))) (HR5.out.below (Below.refl _ _)) (by simp) (by simp)).mono ?_
      rintro e w6 ⟨vf6, vi6, ve6, rfl, hx, hB⟩
      obtain ⟨K6, c6, K6', c6', rfl, rfl, rfl⟩ := hx.vals1 rfl
      have hb := up (Below.refl _ _) hB
      have HC6 := Lib.hid (up HC5.out hb)
      have He_6 := Lib.hid (He_5.out.below hb)
      have HR6 := Lib.hid hx
      have HMarm_6 := Lib.hid ((hb.block _ (lt_of_block HMarm_5.out)).trans HMarm_5.out)
      clear hb hx hB
      go_wp2_with fail
      refine hK9.out _ _ (HY.out _ HC6.out) (fun hHeld => ?_)
      clear hK9 K9
      try simp only [Act.put, List.setIfInBounds_toArray, List.set_cons_zero, List.set_cons_succ]
      refine wpAnyH_ready (rs := [7]) (by kernel_rfl) (by simp) ?_
      refine (AllReadyH.cons rfl (fun K9 hK9 => ?_) AllReadyH.nil)
      obtain ⟨⟨s0, s1, s2⟩, s3, s4, s5⟩ := cells3 HMarm_6.out
      go_simp
      have hSX : w2.heap.size ≤ (w3.heap.size) := by first | omega | (have := HC3.out.size; omega)
      have HC7 := Lib.hid (((HC6.out.setCell (p := ⟨(w3.heap.size), 0, none⟩) hSX (.func (.func K6) #[] c6)).setCell (p := ⟨(w3.heap.size), 1, none⟩) hSX (.func (.func K6') #[] c6')).setCell (p := ⟨(w3.heap.size), 2, none⟩) hSX (.bool (listP ⟨[nameP, namesP, exprP E], none, []⟩ (fun _ => true)).isE))
      have HA7 : Hid ((((w6.setCell ⟨(w3.heap.size), 0, none⟩ (.func (.func K6) #[] c6)).setCell ⟨(w3.heap.size), 1, none⟩ (.func (.func K6') #[] c6')).setCell ⟨(w3.heap.size), 2, none⟩ (.bool (listP ⟨[nameP, namesP, exprP E], none, []⟩ (fun _ => true)).isE)).cell? ⟨(w3.heap.size), 0, none⟩ = some (.func (.func K6) #[] c6) ∧ (((w6.setCell ⟨(w3.heap.size), 0, none⟩ (.func (.func K6) #[] c6)).setCell ⟨(w3.heap.size), 1, none⟩ (.func (.func K6') #[] c6')).setCell ⟨(w3.heap.size), 2, none⟩ (.bool (listP ⟨[nameP, namesP, exprP E], none, []⟩ (fun _ => true)).isE)).cell? ⟨(w3.heap.size), 1, none⟩ = some (.func (.func K6') #[] c6') ∧ (((w6.setCell ⟨(w3.heap.size), 0, none⟩ (.func (.func K6) #[] c6)).setCell ⟨(w3.heap.size), 1, none⟩ (.func (.func K6') #[] c6')).setCell ⟨(w3.heap.size), 2, none⟩ (.bool (listP ⟨[nameP, namesP, exprP E], none, []⟩ (fun _ => true)).isE)).cell? ⟨(w3.heap.size), 2, none⟩ = some (.bool (listP ⟨[nameP, namesP, exprP E], none, []⟩ (fun _ => true)).isE)) := Lib.hid (by simp [World.cell?_setCell_other, cell_set, s0, s1, s2])
      have hSh : Shift S₁ S₂ w6 (((w6.setCell ⟨(w3.heap.size), 0, none⟩ (.func (.func K6) #[] c6)).setCell ⟨(w3.heap.size), 1, none⟩ (.func (.func K6') #[] c6')).setCell ⟨(w3.heap.size), 2, none⟩ (.bool (listP ⟨[nameP, namesP, exprP E], none, []⟩ (fun _ => true)).isE)) := by
        rw [hS2.out]
        exact (((Shift.start S₁ (w3.heap.size) 1 w6).set (a := ⟨(w3.heap.size), 0, none⟩) (.inr ⟨Nat.le_refl _, Nat.lt_succ_self _⟩) _).set (a := ⟨(w3.heap.size), 1, none⟩) (.inr ⟨Nat.le_refl _, Nat.lt_succ_self _⟩) _).set (a := ⟨(w3.heap.size), 2, none⟩) (.inr ⟨Nat.le_refl _, Nat.lt_succ_self _⟩) _
      have HPe7 := Lib.hid (He_6.out.shift hSh)
      have HPk7 := Lib.hid (HR6.out.shift hSh)
      clear hSh hSX s0 s1 s2 s3 s4 s5
      refine hK9.out _ _ (HY.out _ HC7.out) (fun hHeld => ?_)
      clear hK9 K9
      try simp only [Act.put, List.setIfInBounds_toArray, List.set_cons_zero, List.set_cons_succ]
      refine wpAnyH_done (by kernel_rfl) ?_ _
      obtain ⟨w7, hw7⟩ : ∃ w7, ((w6.setCell ⟨(w3.heap.size), 0, none⟩ (.func (.func K6) #[] c6)).setCell ⟨(w3.heap.size), 1, none⟩ (.func (.func K6') #[] c6')).setCell ⟨(w3.heap.size), 2, none⟩ (.bool (listP ⟨[nameP, namesP, exprP E], none, []⟩ (fun _ => true)).isE) = w7 := ⟨_, rfl⟩
      rw [hw7] at HC7 HA7 HPe7 HPk7 ⊢
      clear hw7
      have HZ7 := Lib.hid (Nat.le_trans HZ2.out HC7.out.size)
      obtain ⟨xx, hxx⟩ : ∃ xx, (w3.heap.size) = xx := ⟨_, rfl⟩
      rw [hxx] at HA7
      have hnx : ¬ (w.heap.size + 1 = xx) := by have := HZ3.out; omega
      try rw [hxx]
      clear hxx
      obtain ⟨a0, a1, a2⟩ := HA7.out
      have lx : xx < w7.heap.size := World.block_lt_of_cell? _ _ a0
      obtain ⟨y70, y71, y72⟩ := HY.out w7 HC7.out
      have HAW := Lib.hid (fun (W : World) (h : Below w7.heap.size w7 W) => (⟨(h.cell (p := ⟨xx, 0, none⟩) lx).trans a0, (h.cell (p := ⟨xx, 1, none⟩) lx).trans a1, (h.cell (p := ⟨xx, 2, none⟩) lx).trans a2⟩ : W.cell? ⟨xx, 0, none⟩ = _ ∧ W.cell? ⟨xx, 1, none⟩ = _ ∧ W.cell? ⟨xx, 2, none⟩ = _))
      go_wp2_with fail
      go_region_held3 (fun W => (W.cell? ⟨w1.heap.size, 0, none⟩ = some (.func (.func K1) #[] c1) ∧ W.cell? ⟨w1.heap.size, 1, none⟩ = some (.func (.func K1') #[] c1') ∧ W.cell? ⟨w1.heap.size, 2, none⟩ = some (.bool (exprP E).isE)) ∧ W.cell? ⟨xx, 0, none⟩ = some (.func (.func K6) #[] c6) ∧ W.cell? ⟨xx, 1, none⟩ = some (.func (.func K6') #[] c6') ∧ W.cell? ⟨xx, 2, none⟩ = some (.bool (listP ⟨[nameP, namesP, exprP E], none, []⟩ (fun _ => true)).isE)) (go_keep)
        (first
          | (go_at_call 82; refine (just_any (S := S₁) n _ [exprP E, listP ⟨[nameP, namesP, exprP E], none, []⟩ (fun _ => true)] _ _ (parts2 (hp1d _ _) (fun e => absurd (HS1.out _ e) (by have := HZ7.out; omega)) (HPe7.out.below (bel1 _ _).drew) (HPk7.out.below (bel1 _ _).drew))).mono ?_; rintro e w8 ⟨v8, rfl, hx, hB⟩; have hb := up (bel1 _ _).drew hB; have HC8 := Lib.hid (up HC7.out hb); have HD8 := Lib.hid hb; have HZ8 := Lib.hid (Nat.le_trans HZ7.out hb.size); have HR8 := Lib.hid hx; have HPk8 := Lib.hid (HPk7.out.below hb); obtain ⟨y80, y81, y82⟩ := HY.out w8 HC8.out; obtain ⟨a80, a81, a82⟩ := HAW.out w8 hb; clear hb hx hB)
          | (go_at_call 93; refine (any_any (S := S₁) n _ _ _ _ _ (listP ⟨[nameP, namesP, exprP E], none, []⟩ (fun _ => true)) _ (fun b e => by have := HS1.out b e; have := HZ8.out; omega) HR8.out HPk8.out).mono ?_; rintro e w9 ⟨v9, rfl, hx, hB⟩; obtain ⟨fa, fl, fc, ba, bl, bc, m, rfl⟩ := hx.vals; have HC9 := Lib.hid (up HC8.out hB); have HRL := Lib.hid hx; have HBL := Lib.hid (up HB2.out HC9.out); obtain ⟨y90, y91, y92⟩ := HY.out w9 HC9.out; obtain ⟨a90, a91, a92⟩ := HAW.out w9 (up HD8.out hB); obtain ⟨⟨z0, z1, z2⟩, z3, z4, z5⟩ := cells3 ((HBL.out.block (w.heap.size + 1) (by simp)).trans (heap2 _ _ _)); clear hx hB)
          | fail)
      go_wp2_with fail
      refine bodyPost_ret (v := .agg #[.slice fa fl fc, .slice ba bl bc, .pointer m]) (by simp [results, Tryz.results99, go_sem, cell_set, z0, z1, z2]) rfl (row_close3 (k := 1) (B0 := w.heap.size + 1) (Nat.le_succ _) (Nat.le_refl _) (Nat.lt_succ_self _) (up (bel2 _ _ _) HBL.out) ?_ _ _ _)
      have hp := HRL.out
      rw [HE.out] at hp
      exact hp
  · skip
    go_simp
    refine hK9.out _ _ (HY.out _ ((bel1 _ _).drew)) (fun hHeld => ?_)
    clear hK9 K9
    try simp only [Act.put, List.setIfInBounds_toArray, List.set_cons_zero, List.set_cons_succ]
    obtain ⟨S₂, hS2'⟩ : ∃ S₂, S₂ = andFrom S₁ (w2.heap.size) 1 := ⟨_, rfl⟩
    have hS2 := Lib.hid hS2'
    have HN2 : Hid (∀ x, S₂ x → S₁ x ∨ x = (w2.heap.size)) := Lib.hid (fun x h => andFrom_one (hS2' ▸ h))
    clear hS2'
    have He_s := Lib.hid (HP2.out.re (S₁ := S₂) (fun x hx h => (HN2.out x h).elim id (fun h => absurd h (by omega))))
    refine wpAnyH_ready (rs := [0]) (by kernel_rfl) (by simp) ?_
    refine (AllReadyH.cons rfl (fun K9 hK9 => ?_) AllReadyH.nil)
    go_simp
    go_at_call 83
    refine (aName_any (S := S₂) n _).mono ?_
    rintro e w3 ⟨vf3, vi3, ve3, rfl, hx, hB⟩
    obtain ⟨K3, c3, rfl, rfl, rfl⟩ := hx.vals0 rfl
    have hb := up (bel1 _ _).drew hB
    have HC3 := Lib.hid (hb)
    have HZ3 := Lib.hid (Nat.le_trans HZ2.out hb.size)
    have He_3 := Lib.hid (He_s.out.below hb)
    have HR3 := Lib.hid hx
    have HMarm_3 := Lib.hid ((hB.block _ (lt_of_block (hp1d _ _))).trans (hp1d _ _))
    have HX3 := Lib.hid (show (w2.heap.size) + 1 ≤ w3.heap.size from lt_of_block HMarm_3.out)
    clear hb hx hB
    go_wp2_with fail
    refine hK9.out _ _ (HY.out _ HC3.out) (fun hHeld => ?_)
    clear hK9 K9
    try simp only [Act.put, List.setIfInBounds_toArray, List.set_cons_zero, List.set_cons_succ]
    refine wpAnyH_ready (rs := [1]) (by kernel_rfl) (by simp) ?_
    refine (AllReadyH.cons rfl (fun K9 hK9 => ?_) AllReadyH.nil)
    go_simp
    go_at_call 140
    refine (names_any (S := S₂) n _ (fun b e => (HN2.out b e).elim (fun h => by have := HS1.out b h; have := HZ3.out; first | omega | (simp; omega)) (fun h => by subst h; exact (by have := HX3.out; first | omega | (simp; omega))))).mono ?_
    rintro e w4 ⟨vf4, vi4, ve4, rfl, hx, hB⟩
    obtain ⟨K4, c4, K4', c4', rfl, rfl, rfl⟩ := hx.vals1 rfl
    have hb := up (Below.refl _ _) hB
    have HC4 := Lib.hid (up HC3.out hb)
    have HZ4 := Lib.hid (Nat.le_trans HZ3.out hb.size)
    have He_4 := Lib.hid (He_3.out.below hb)
    have Ha_4 := Lib.hid (HR3.out.below hb)
    have HR4 := Lib.hid hx
    have HMarm_4 := Lib.hid ((hb.block _ (lt_of_block HMarm_3.out)).trans HMarm_3.out)
    have HX4 := Lib.hid (show (w2.heap.size) + 1 ≤ w4.heap.size from lt_of_block HMarm_4.out)
    clear hb hx hB
    go_wp2_with fail
    refine hK9.out _ _ (HY.out _ HC4.out) (fun hHeld => ?_)
    clear hK9 K9
    try simp only [Act.put, List.setIfInBounds_toArray, List.set_cons_zero, List.set_cons_succ]
    refine wpAnyH_ready (rs := [3]) (by kernel_rfl) (by simp) ?_
    refine (AllReadyH.cons rfl (fun K9 hK9 => ?_) AllReadyH.nil)
    go_simp
    refine hK9.out _ _ (HY.out _ (up HC4.out (bel1 _ _))) (fun hHeld => ?_)
    clear hK9 K9
    try simp only [Act.put, List.setIfInBounds_toArray, List.set_cons_zero, List.set_cons_succ]
    refine wpAnyH_ready (rs := [4]) (by kernel_rfl) (by simp) ?_
    refine (AllReadyH.cons rfl (fun K9 hK9 => ?_) AllReadyH.nil)
    go_simp
    go_at_call 82
    refine (just_any (S := S₂) n _ [nameP, namesP, exprP E] _ _ (parts3 (hp1 _ _) (fun e => (HN2.out _ e).elim (fun h => absurd (HS1.out _ h) (by have := HZ4.out; omega)) (fun h => absurd h (by (have := HX4.out; omega)))) (Ha_4.out.below (bel1 _ _)) (HR4.out.below (bel1 _ _)) (He_4.out.below (bel1 _ _)))).mono ?_
    rintro e w5 ⟨v5, rfl, hx, hB⟩
    have hb := up (bel1 _ _) hB
    have HC5 := Lib.hid (up HC4.out hb)
    have HZ5 := Lib.hid (Nat.le_trans HZ4.out hb.size)
    have He_5 := Lib.hid (He_4.out.below hb)
    have HR5 := Lib.hid hx
    have HMarm_5 := Lib.hid ((hb.block _ (lt_of_block HMarm_4.out)).trans HMarm_4.out)
    have HX5 := Lib.hid (show (w2.heap.size) + 1 ≤ w5.heap.size from lt_of_block HMarm_5.out)
    clear hb hx hB
    go_wp2_with fail
    refine hK9.out _ _ (HY.out _ HC5.out) (fun hHeld => ?_)
    clear hK9 K9
    try simp only [Act.put, List.setIfInBounds_toArray, List.set_cons_zero, List.set_cons_succ]
    refine wpAnyH_ready (rs := [5]) (by kernel_rfl) (by simp) ?_
    refine (AllReadyH.cons rfl (fun K9 hK9 => ?_) AllReadyH.nil)
    go_simp
    go_at_call 94
    refine (aList_none (S := S₂) n ⟨[nameP, namesP, exprP E], none, []⟩ _ _ (fun b e => (HN2.out b e).elim (fun h => by have := HS1.out b h; have := HZ5.out; first | omega | (simp; omega)) (fun h => by subst h; exact (by have := HX5.out; first | omega | (simp; omega)))) (HR5.out.below (Below.refl _ _)) (by simp) (by simp)).mono ?_
    rintro e w6 ⟨vf6, vi6, ve6, rfl, hx, hB⟩
    obtain ⟨K6, c6, K6', c6', rfl, rfl, rfl⟩ := hx.vals1 rfl
    have hb := up (Below.refl _ _) hB
    have HC6 := Lib.hid (up HC5.out hb)
    have He_6 := Lib.hid (He_5.out.below hb)
    have HR6 := Lib.hid hx
    have HMarm_6 := Lib.hid ((hb.block _ (lt_of_block HMarm_5.out)).trans HMarm_5.out)
    clear hb hx hB
    go_wp2_with fail
    refine hK9.out _ _ (HY.out _ HC6.out) (fun hHeld => ?_)
    clear hK9 K9
    try simp only [Act.put, List.setIfInBounds_toArray, List.set_cons_zero, List.set_cons_succ]
    refine wpAnyH_ready (rs := [7]) (by kernel_rfl) (by simp) ?_
    refine (AllReadyH.cons rfl (fun K9 hK9 => ?_) AllReadyH.nil)
    obtain ⟨⟨s0, s1, s2⟩, s3, s4, s5⟩ := cells3 HMarm_6.out
    go_simp
    have hSX : w2.heap.size ≤ (w2.heap.size) := Nat.le_refl _
    have HC7 := Lib.hid (((HC6.out.setCell (p := ⟨(w2.heap.size), 0, none⟩) hSX (.func (.func K6) #[] c6)).setCell (p := ⟨(w2.heap.size), 1, none⟩) hSX (.func (.func K6') #[] c6')).setCell (p := ⟨(w2.heap.size), 2, none⟩) hSX (.bool (listP ⟨[nameP, namesP, exprP E], none, []⟩ (fun _ => true)).isE))
    have HA7 : Hid ((((w6.setCell ⟨(w2.heap.size), 0, none⟩ (.func (.func K6) #[] c6)).setCell ⟨(w2.heap.size), 1, none⟩ (.func (.func K6') #[] c6')).setCell ⟨(w2.heap.size), 2, none⟩ (.bool (listP ⟨[nameP, namesP, exprP E], none, []⟩ (fun _ => true)).isE)).cell? ⟨(w2.heap.size), 0, none⟩ = some (.func (.func K6) #[] c6) ∧ (((w6.setCell ⟨(w2.heap.size), 0, none⟩ (.func (.func K6) #[] c6)).setCell ⟨(w2.heap.size), 1, none⟩ (.func (.func K6') #[] c6')).setCell ⟨(w2.heap.size), 2, none⟩ (.bool (listP ⟨[nameP, namesP, exprP E], none, []⟩ (fun _ => true)).isE)).cell? ⟨(w2.heap.size), 1, none⟩ = some (.func (.func K6') #[] c6') ∧ (((w6.setCell ⟨(w2.heap.size), 0, none⟩ (.func (.func K6) #[] c6)).setCell ⟨(w2.heap.size), 1, none⟩ (.func (.func K6') #[] c6')).setCell ⟨(w2.heap.size), 2, none⟩ (.bool (listP ⟨[nameP, namesP, exprP E], none, []⟩ (fun _ => true)).isE)).cell? ⟨(w2.heap.size), 2, none⟩ = some (.bool (listP ⟨[nameP, namesP, exprP E], none, []⟩ (fun _ => true)).isE)) := Lib.hid (by simp [World.cell?_setCell_other, cell_set, s0, s1, s2])
    have hSh : Shift S₁ S₂ w6 (((w6.setCell ⟨(w2.heap.size), 0, none⟩ (.func (.func K6) #[] c6)).setCell ⟨(w2.heap.size), 1, none⟩ (.func (.func K6') #[] c6')).setCell ⟨(w2.heap.size), 2, none⟩ (.bool (listP ⟨[nameP, namesP, exprP E], none, []⟩ (fun _ => true)).isE)) := by
      rw [hS2.out]
      exact (((Shift.start S₁ (w2.heap.size) 1 w6).set (a := ⟨(w2.heap.size), 0, none⟩) (.inr ⟨Nat.le_refl _, Nat.lt_succ_self _⟩) _).set (a := ⟨(w2.heap.size), 1, none⟩) (.inr ⟨Nat.le_refl _, Nat.lt_succ_self _⟩) _).set (a := ⟨(w2.heap.size), 2, none⟩) (.inr ⟨Nat.le_refl _, Nat.lt_succ_self _⟩) _
    have HPe7 := Lib.hid (He_6.out.shift hSh)
    have HPk7 := Lib.hid (HR6.out.shift hSh)
    clear hSh hSX s0 s1 s2 s3 s4 s5
    refine hK9.out _ _ (HY.out _ HC7.out) (fun hHeld => ?_)
    clear hK9 K9
    try simp only [Act.put, List.setIfInBounds_toArray, List.set_cons_zero, List.set_cons_succ]
    refine wpAnyH_done (by kernel_rfl) ?_ _
    obtain ⟨w7, hw7⟩ : ∃ w7, ((w6.setCell ⟨(w2.heap.size), 0, none⟩ (.func (.func K6) #[] c6)).setCell ⟨(w2.heap.size), 1, none⟩ (.func (.func K6') #[] c6')).setCell ⟨(w2.heap.size), 2, none⟩ (.bool (listP ⟨[nameP, namesP, exprP E], none, []⟩ (fun _ => true)).isE) = w7 := ⟨_, rfl⟩
    rw [hw7] at HC7 HA7 HPe7 HPk7 ⊢
    clear hw7
    have HZ7 := Lib.hid (Nat.le_trans HZ2.out HC7.out.size)
    obtain ⟨xx, hxx⟩ : ∃ xx, (w2.heap.size) = xx := ⟨_, rfl⟩
    rw [hxx] at HA7
    have hnx : ¬ (w.heap.size + 1 = xx) := by have := HZ2.out; omega
    try rw [hxx]
    clear hxx
    obtain ⟨a0, a1, a2⟩ := HA7.out
    have lx : xx < w7.heap.size := World.block_lt_of_cell? _ _ a0
    obtain ⟨y70, y71, y72⟩ := HY.out w7 HC7.out
    have HAW := Lib.hid (fun (W : World) (h : Below w7.heap.size w7 W) => (⟨(h.cell (p := ⟨xx, 0, none⟩) lx).trans a0, (h.cell (p := ⟨xx, 1, none⟩) lx).trans a1, (h.cell (p := ⟨xx, 2, none⟩) lx).trans a2⟩ : W.cell? ⟨xx, 0, none⟩ = _ ∧ W.cell? ⟨xx, 1, none⟩ = _ ∧ W.cell? ⟨xx, 2, none⟩ = _))
    go_wp2_with fail
    go_region_held3 (fun W => (W.cell? ⟨w1.heap.size, 0, none⟩ = some (.func (.func K1) #[] c1) ∧ W.cell? ⟨w1.heap.size, 1, none⟩ = some (.func (.func K1') #[] c1') ∧ W.cell? ⟨w1.heap.size, 2, none⟩ = some (.bool (exprP E).isE)) ∧ W.cell? ⟨xx, 0, none⟩ = some (.func (.func K6) #[] c6) ∧ W.cell? ⟨xx, 1, none⟩ = some (.func (.func K6') #[] c6') ∧ W.cell? ⟨xx, 2, none⟩ = some (.bool (listP ⟨[nameP, namesP, exprP E], none, []⟩ (fun _ => true)).isE)) (go_keep)
      (first
        | (go_at_call 82; refine (just_any (S := S₁) n _ [exprP E, listP ⟨[nameP, namesP, exprP E], none, []⟩ (fun _ => true)] _ _ (parts2 (hp1d _ _) (fun e => absurd (HS1.out _ e) (by have := HZ7.out; omega)) (HPe7.out.below (bel1 _ _).drew) (HPk7.out.below (bel1 _ _).drew))).mono ?_; rintro e w8 ⟨v8, rfl, hx, hB⟩; have hb := up (bel1 _ _).drew hB; have HC8 := Lib.hid (up HC7.out hb); have HD8 := Lib.hid hb; have HZ8 := Lib.hid (Nat.le_trans HZ7.out hb.size); have HR8 := Lib.hid hx; have HPk8 := Lib.hid (HPk7.out.below hb); obtain ⟨y80, y81, y82⟩ := HY.out w8 HC8.out; obtain ⟨a80, a81, a82⟩ := HAW.out w8 hb; clear hb hx hB)
        | (go_at_call 93; refine (any_any (S := S₁) n _ _ _ _ _ (listP ⟨[nameP, namesP, exprP E], none, []⟩ (fun _ => true)) _ (fun b e => by have := HS1.out b e; have := HZ8.out; omega) HR8.out HPk8.out).mono ?_; rintro e w9 ⟨v9, rfl, hx, hB⟩; obtain ⟨fa, fl, fc, ba, bl, bc, m, rfl⟩ := hx.vals; have HC9 := Lib.hid (up HC8.out hB); have HRL := Lib.hid hx; have HBL := Lib.hid (up HB2.out HC9.out); obtain ⟨y90, y91, y92⟩ := HY.out w9 HC9.out; obtain ⟨a90, a91, a92⟩ := HAW.out w9 (up HD8.out hB); obtain ⟨⟨z0, z1, z2⟩, z3, z4, z5⟩ := cells3 ((HBL.out.block (w.heap.size + 1) (by simp)).trans (heap2 _ _ _)); clear hx hB)
        | fail)
    go_wp2_with fail
    refine bodyPost_ret (v := .agg #[.slice fa fl fc, .slice ba bl bc, .pointer m]) (by simp [results, Tryz.results99, go_sem, cell_set, z0, z1, z2]) rfl (row_close3 (k := 1) (B0 := w.heap.size + 1) (Nat.le_succ _) (Nat.le_refl _) (Nat.lt_succ_self _) (up (bel2 _ _ _) HBL.out) ?_ _ _ _)
    have hp := HRL.out
    rw [HE.out] at hp
    exact hp
end Go.Proofs.YtmlfiopbdlaaaaaGreat
