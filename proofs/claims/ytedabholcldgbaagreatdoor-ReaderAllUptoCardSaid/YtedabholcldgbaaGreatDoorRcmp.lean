/- The order of forms: what the document's own Compare and its callees return. -/
import Derived.Test.YtedabholcldgbaaGreatDoorCmp
import Derived.StillTailTactics
namespace Go.Proofs.YtedabholcldgbaaGreatDoor
open Go.RowKit Go.Deep

theorem sgn_cmpI (a b : Int) : sgn (decide (a < b)) (decide (b < a)) = cmpI a b := by
  simp [sgn, cmpI]
theorem bytes_cmp : ∀ a b : List UInt8, (if Op.bytesLess a b = true then (-1 : Int) else if (!(Op.bytesLess a b || a == b)) = true then 1 else 0) = Lib.compareBytes a b
  | [], [] => by simp [Op.bytesLess, Lib.compareBytes]
  | [], _ :: _ => by simp [Op.bytesLess, Lib.compareBytes]
  | _ :: _, [] => by simp [Op.bytesLess, Lib.compareBytes]
  | a :: as', b :: bs => by
    have ih := bytes_cmp as' bs
    unfold Op.bytesLess Lib.compareBytes
    by_cases h : a < b
    · simp [h]
    · by_cases h' : b < a
      · have hne : ¬ a = b := by intro e; subst e; exact h h'
        simp [h, h', hne]
      · have e : a = b := by
          have h1 : b ≤ a := UInt8.not_lt.1 h
          have h2 : a ≤ b := UInt8.not_lt.1 h'
          exact UInt8.le_antisymm h2 h1
        subst e
        rw [if_neg h, if_neg h, ← ih]
        simp
theorem sgn_str' (s u : ByteArray) : sgn (Op.bytesLess s.toList u.toList) (!Op.bytesLess s.toList u.toList && !s.toList == u.toList) = Lib.compareBytes s.data.toList u.data.toList := by
  rw [← Bool.not_or, sgn, bytes_cmp, Lib.toList_data, Lib.toList_data]
theorem EqUpTo.ends {xs ys : List T} {k : Nat} (h : EqUpTo xs ys k) (h1 : k ≤ xs.length) (h2 : k ≤ ys.length) (he : k = xs.length ∨ k = ys.length) :
    sgn (decide (xs.length < ys.length)) (decide (ys.length < xs.length)) = cmpL (xs.map T.form) (ys.map T.form) := by
  by_cases l : xs.length < ys.length
  · rw [h.less (by omega) (by omega)]; simp [sgn, l]
  · by_cases l' : ys.length < xs.length
    · rw [h.more (by omega) (by omega)]; simp [sgn, l, l']
    · rw [h.same (by omega) (by omega)]; simp [sgn, l, l']

/-- The two boxed forms lie behind what was there. -/
structure Boxes (w : World) (t u : T) (wr : World) : Prop where
  below : Below w.heap.size w wr
  size : w.heap.size + 2 ≤ wr.heap.size
  c1 : wr.cell? ⟨w.heap.size, 3, none⟩ = some (.slice t.ad t.ks.length t.cp)
  c2 : wr.cell? ⟨w.heap.size + 1, 3, none⟩ = some (.slice u.ad u.ks.length u.cp)
theorem Boxes.next {w wr w' : World} {t u : T} (h : Boxes w t u wr) (hb : Below wr.heap.size wr w') : Boxes w t u w' :=
  ⟨upB h.below hb (Nat.le_refl _), Nat.le_trans h.size hb.size, (hb.cell (p := ⟨w.heap.size, 3, none⟩) (by have := h.size; show w.heap.size < _; omega)).trans h.c1,
    (hb.cell (p := ⟨w.heap.size + 1, 3, none⟩) (by have := h.size; show w.heap.size + 1 < _; omega)).trans h.c2⟩
theorem Boxes.start (w : World) (t u : T) : Boxes w t u ((w.alloc (.cells t.val.cells 29)).alloc (.cells u.val.cells 29)) :=
  ⟨bel2 _ _ _, by simp, by simp [Value.cells], by simp [Value.cells]⟩
theorem Boxes.drew {w wr : World} {t u : T} (h : Boxes w t u wr) : Boxes w t u wr.drew := h.next (Below.refl _ _).drew

set_option maxHeartbeats 1000000 in
set_option maxRecDepth 100000 in
/-- The document's own Compare. -/
theorem rcompare_any (n : Nat) : ∀ t u : T, SizeOf.sizeOf t < n → ∀ w, In w t → In w u →
    Calls Tryz.prog 39 #[t.val, u.val] w fun e w' => e = .returned (.int .i64 (cmpF t.form u.form)) ∧ Below w.heap.size w w' := by
  induction n with
  | zero => intro t u h; omega
  | succ n ih =>
    intro t u hn w h1 h2
    have HE := cmpT_eq t u
    by_cases hc : cmpI t.kd u.kd = 0
    · rw [if_neg (by simpa using hc)] at HE
      have hk : (t.kd != u.kd) = false := by
        have : t.kd = u.kd := by unfold cmpI at hc; split at hc; · omega
                                 · split at hc <;> omega
        simpa using this
      clear hc
      by_cases k0 : t.kd = 0
      · rw [if_pos k0] at HE
        rw [HE]
        have b0 : (t.kd == 0) = true := by simpa using k0
        clear HE k0
        go_enter Tryz.func39, Tryz.ntmps39
        go_wp2_with (go_at_call 68; refine (sign_any _ _ _).mono ?_; rintro e w2 ⟨rfl, rfl⟩)
        go_ret
        exact ⟨ret_int (sgn_cmpI _ _), bel2 _ _ _⟩
      · rw [if_neg k0] at HE
        have b0 : (t.kd == 0) = false := by simpa using k0
        by_cases k1 : t.kd = 1
        · rw [if_pos (.inl k1)] at HE
          rw [HE]
          have b1 : (t.kd == 1) = true := by simpa using k1
          clear HE k1 k0
          go_enter Tryz.func39, Tryz.ntmps39
          go_wp2_with (go_at_call 68; refine (sign_any _ _ _).mono ?_; rintro e w2 ⟨rfl, rfl⟩)
          go_ret
          exact ⟨ret_int (sgn_str' _ _), bel2 _ _ _⟩
        · have b1 : (t.kd == 1) = false := by simpa using k1
          by_cases k2 : t.kd = 2
          · rw [if_pos (.inr k2)] at HE
            rw [HE]
            have b2 : (t.kd == 2) = true := by simpa using k2
            clear HE k1 k0 k2
            go_enter Tryz.func39, Tryz.ntmps39
            go_wp2_with (go_at_call 68; refine (sign_any _ _ _).mono ?_; rintro e w2 ⟨rfl, rfl⟩)
            go_ret
            exact ⟨ret_int (sgn_str' _ _), bel2 _ _ _⟩
          · rw [if_neg (by omega)] at HE
            have b2 : (t.kd == 2) = false := by simpa using k2
            by_cases k3 : t.kd = 3
            · rw [if_pos k3] at HE
              rw [HE]
              have b3 : (t.kd == 3) = true := by simpa using k3
              clear HE k1 k0 k2 k3
              go_enter Tryz.func39, Tryz.ntmps39
              have n1 := Nat.le_trans h1.ok.le h1.ok.cp
              have n2 := Nat.le_trans h2.ok.le h2.ok.cp
              unfold maxLen at n1 n2
              have IH := Lib.hid ih
              clear ih
              go_wp2_with fail
              go_loopg [5] (t.ks.length) (fun m i wr => ∃ k : Nat, k ≤ t.ks.length ∧ k ≤ u.ks.length ∧ m = t.ks.length - k ∧ i = .int .i64 k ∧ EqUpTo t.ks u.ks k ∧ Boxes w t u wr)
              case atStart => exact ⟨0, by omega, by omega, rfl, rfl, fun i _ _ h => absurd h (by omega), Boxes.start w t u⟩
              case round =>
                obtain ⟨k, hk1, hk2, rfl, rfl, hE, hB⟩ := hrel
                have c1 := hB.c1
                have c2 := hB.c2
                by_cases hlt : k < t.ks.length
                · by_cases hlt2 : k < u.ks.length
                  · obtain ⟨⟨b, o, ha, hx0, hx1, hx2, hx3⟩, hin1⟩ := (h1.inL.below hB.below).at k hlt
                    obtain ⟨⟨b', o', ha', hy0, hy1, hy2, hy3⟩, hin2⟩ := (h2.inL.below hB.below).at k hlt2
                    rw [ha] at c1
                    rw [ha'] at c2
                    clear ha ha'
                    have HC := Lib.hid (IH.out t.ks[k] u.ks[k] (by have := T.kid_lt (List.getElem_mem hlt); omega))
                    by_cases hz : cmpF t.ks[k].form u.ks[k].form = 0
                    · rw [hz] at HC
                      have HZ := Lib.hid hz
                      clear hz
                      go_wp2_with fail
                      go_still_tail 10, (by kernel_rfl)
                      change wpList _ _ _ _ _ wr.drew
                      go_wp2_with (go_at_call 39; refine (HC.out _ hin1.drew hin2.drew).mono ?_; rintro e w2 ⟨rfl, hBn⟩)
                      go_roundg (t.ks.length - (k + 1))
                      case measure => omega
                      case rel => exact ⟨k + 1, by omega, by omega, rfl, by go_num, hE.step hlt hlt2 HZ.out, hB.drew.next hBn⟩
                    · have HP := Lib.hid (hE.part hlt hlt2 hz)
                      have hz' : (cmpF t.ks[k].form u.ks[k].form != 0) = true := by simpa using hz
                      clear hz
                      go_wp2_with fail
                      go_still_tail 10, (by kernel_rfl)
                      change wpList _ _ _ _ _ wr.drew
                      go_wp2_with (go_at_call 39; refine (HC.out _ hin1.drew hin2.drew).mono ?_; rintro e w2 ⟨rfl, hBn⟩)
                      go_ret
                      exact ⟨ret_int HP.out.symm, (hB.drew.next hBn).below⟩
                  · have HP := Lib.hid (hE.ends hk1 hk2 (.inr (by omega)))
                    go_wp2_with (go_at_call 68; refine (sign_any _ _ _).mono ?_; rintro e w2 ⟨rfl, rfl⟩)
                    go_ret
                    exact ⟨ret_int HP.out, hB.below⟩
                · have HP := Lib.hid (hE.ends hk1 hk2 (.inl (by omega)))
                  go_wp2_with (go_at_call 68; refine (sign_any _ _ _).mono ?_; rintro e w2 ⟨rfl, rfl⟩)
                  go_ret
                  exact ⟨ret_int HP.out, hB.below⟩
            · rw [if_neg k3] at HE
              rw [HE]
              have b3 : (t.kd == 3) = false := by simpa using k3
              clear HE k1 k0 k2 k3
              go_enter Tryz.func39, Tryz.ntmps39
              go_wp2_with fail
              go_ret
              exact ⟨rfl, bel2 _ _ _⟩
    · rw [if_pos hc] at HE
      rw [HE]
      have hk : (t.kd != u.kd) = true := by
        have : t.kd ≠ u.kd := by intro e; exact hc (by unfold cmpI; rw [if_neg (by omega), if_neg (by omega)])
        simpa using this
      clear hc HE
      go_enter Tryz.func39, Tryz.ntmps39
      go_wp2_with (go_at_call 68; refine (sign_any _ _ _).mono ?_; rintro e w2 ⟨rfl, rfl⟩)
      go_ret
      exact ⟨ret_int (sgn_cmpI _ _), bel2 _ _ _⟩
theorem rcompare_T (t u : T) (w : World) (h1 : In w t) (h2 : In w u) :
    Calls Tryz.prog 39 #[t.val, u.val] w fun e w' => e = .returned (.int .i64 (cmpF t.form u.form)) ∧ Below w.heap.size w w' :=
  rcompare_any _ t u (Nat.lt_succ_self _) w h1 h2
theorem requal_T (t u : T) (w : World) (h1 : In w t) (h2 : In w u) :
    Calls Tryz.prog 28 #[t.val, u.val] w fun e w' => e = .returned (.bool (cmpF t.form u.form == 0)) ∧ Below w.heap.size w w' := by
  go_enter Tryz.func28, Tryz.ntmps28
  go_wp2_with (go_at_call 39; refine (rcompare_T _ _ _ ((h1.alloc _).alloc _) ((h2.alloc _).alloc _)).mono ?_; rintro e w2 ⟨rfl, hB⟩)
  go_ret
  exact ⟨rfl, up (bel2 _ _ _) hB⟩
end Go.Proofs.YtedabholcldgbaaGreatDoor
