/- layout's spare and frontKids. -/
import Derived.Test.YtdehkgflokeodaaGreatDoorYRef
import Derived.Test.YtdehkgflokeodaaGreatDoorHead
namespace Go.Proofs.YtdehkgflokeodaaGreatDoor.Y
open Go.RowKit Go.Deep

theorem spL_next {l : List Fm} {i : Nat} {r : Int} (h : i < l.length) (hr : ¬ r < 0) : spL (l.drop i) r = spL (l.drop (i + 1)) (spF l[i] r) := by
  rw [List.drop_eq_getElem_cons h, spL, if_neg hr]
theorem spL_stop (l : List Fm) {r : Int} (hr : r < 0) : spL l r = r := by
  cases l with
  | nil => rw [spL]
  | cons a l => rw [spL, if_pos hr]
theorem spL_end {l : List Fm} {i : Nat} {r : Int} (h : l.length ≤ i) : spL (l.drop i) r = r := by rw [List.drop_of_length_le h, spL]
/-- The loop over the Kids. -/
structure SpRel (w0 wr : World) (t : T) (R : Int) (i : Nat) (r : Int) : Prop where
  le : i ≤ t.ks.length
  eq : R = spL ((t.ks.map T.form).drop i) r
  lo : -100000000 ≤ r
  hi : r ≤ 1000
  box : Boxed w0 wr t

set_option linter.unusedSimpArgs false in
set_option maxHeartbeats 4000000 in
set_option maxRecDepth 100000 in
theorem spare_any (n : Nat) : ∀ t : T, SizeOf.sizeOf t < n → ∀ (r : Int) (w : World), In w t → validF t.form = true → -2000 ≤ r → r ≤ 1000 → Tab w.heap.size w →
    Calls Tryz.prog 100 #[t.val, .int .i64 r] w fun e w' => e = .returned (.int .i64 (spF t.form r)) ∧ Below w.heap.size w w' := by
  induction n with
  | zero => intro t h; omega
  | succ n ih =>
    intro t hn r w hin hv hlo hhi htab
    have hvp := valid_parts hv
    have n1 := Nat.le_trans hin.ok.le hin.ok.cp
    unfold maxLen at n1
    have hsl : (txF t.form).length ≤ 80200000 := by have := txF_len hvp.2.2; omega
    obtain ⟨R, hR⟩ : ∃ R, spF t.form r = R := ⟨_, rfl⟩
    rw [hR]
    by_cases he : t.ks = []
    · have hl0 : t.ks.length = 0 := by rw [he]; rfl
      have HW := ((Go.Proofs.YtdehkgflokeodaaGreatDoor.write_any t (w.alloc (.cells #[.int .i64 t.kd, .int .i64 t.nn, .string t.tx, .slice t.ad t.ks.length t.cp] 29)) (hin.alloc _) (by omega) (htab.next (bel1 _ _))).mono fun e w' hh => (by rw [wrF_yes hv] at hh; exact strEnd_of hh))
      have HR : Hid (r - ((txF t.form).length : Int) = R) := Lib.hid (by rw [← hR, spF_eq, T.form_ks, he]; rfl)
      have hval : t.val = .agg #[.int .i64 t.kd, .int .i64 t.nn, .string t.tx, .slice t.ad 0 t.cp] := by rw [← hl0, T.val]
      rw [hval, hl0] at HW
      rw [hval]
      replace HW := Lib.hid HW
      clear ih hR he hl0 hval
      go_enter Tryz.func100, Tryz.ntmps100
      go_wp2_with (go_at_call 140; (with_reducible refine HW.out.mono ?_); rintro e w2 ⟨d, rfl, hd, hB⟩; have hdz := ba_size hd; have g2 : (d.size : Int) ≤ 80200000 := (by omega); have HB := Lib.hid hB; have HD := Lib.hid hdz; clear hd hB hdz)
      go_ret
      exact ⟨ret_int (by rw [← HR.out, HD.out]), up (bel1 _ _) HB.out⟩
    · have hpos : 0 < t.ks.length := List.length_pos_iff.2 he
      have hk : t.kd = 3 := by
        have := (txF_list hvp.2.2 (by rw [T.form_ks]; intro e; exact he (List.map_eq_nil_iff.1 e))).1
        rwa [T.form_kd] at this
      have hkv : ∀ i (h : i < t.ks.length), validF t.ks[i].form = true ∧ szF t.ks[i].form < szF t.form ∧ dpF t.ks[i].form < dpF t.form := fun i h =>
        valid_kid hv (by rw [T.form_kd]; exact hk) (by rw [T.form_ks]; exact List.mem_map_of_mem (List.getElem_mem h))
      have hlen : t.ks.length ≤ 20000 := by
        have h1 := szF_eq t.form
        have h2 : t.form.kids = t.ks.map T.form := by unfold Fm.kids; rw [T.form_kd, if_pos hk, T.form_ks]
        have h3 : ∀ l : List Fm, l.length ≤ szL l := by
          intro l
          induction l with
          | nil => simp
          | cons a l ihl => have := szF_eq a; simp only [List.length_cons, szL]; omega
        have h4 := h3 (t.ks.map T.form)
        rw [h2] at h1
        rw [List.length_map] at h4
        omega
      obtain ⟨a, ha⟩ : ∃ a, t.ad = a := ⟨_, rfl⟩
      have HAD := Lib.hid ha
      have HK : Hid (∀ W, Below w.heap.size w W → InL W a 0 t.ks) := Lib.hid fun W h => by rw [← ha]; exact (hin.below h).inL
      have HIH : Hid (∀ i (h : i < t.ks.length) (x : Int) W, -2000 ≤ x → x ≤ 1000 → Below w.heap.size w W → Calls Tryz.prog 100 #[t.ks[i].val, .int .i64 x] W fun e w' => e = .returned (.int .i64 (spF t.ks[i].form x)) ∧ Below W.heap.size W w') :=
        Lib.hid fun i h x W h1 h2 hB => ih t.ks[i] (by have := T.kid_lt (List.getElem_mem h); omega) x W ((HK.out W hB).at i h).2 (hkv i h).1 h1 h2 (Tab.mono (htab.on hB) hB.size)
      have HBD : Hid (∀ i (h : i < t.ks.length) (x : Int), spF t.ks[i].form x ≤ x ∧ x - 80200000 ≤ spF t.ks[i].form x) := Lib.hid fun i h x => by
        have hq := valid_parts (hkv i h).1
        have h1 := txF_len hq.2.2
        have h2 := sp_bound hq.2.2 x
        omega
      have HST : Hid (∀ wr, Boxed w wr t → SpRel w wr t R 0 (r - (2 + (t.ks.length : Int) - 1))) := Lib.hid fun wr hb => ⟨by omega, by
        rw [← hR, spF_eq, T.form_ks, if_neg (by simpa using he), List.length_map, List.drop_zero], by omega, by omega, hb⟩
      obtain ⟨b, o, rfl⟩ : ∃ b o, a = some ⟨b, o, none⟩ := by
        obtain ⟨⟨b, o, e, _⟩, _⟩ := (HK.out w (Below.refl _ _)).at 0 hpos
        exact ⟨b, o, e⟩
      have HKC : Hid (∀ W, Below w.heap.size w W → ∀ i (h : i < t.ks.length), Cells4 W b (o + i * 4) t.ks[i] ∧ b < W.heap.size) := Lib.hid fun W hB i h => by
        obtain ⟨⟨b', o', e, hc⟩, _⟩ := (HK.out W hB).at i h
        injection e with e
        injection e with e1 e2 e3
        subst e1 e2
        exact ⟨hc, World.block_lt_of_cell? _ _ hc.1⟩
      have k0 := Boxed.start w t
      rw [ha] at k0
      have K0 := Lib.hid k0
      have hval : t.val = .agg #[.int .i64 t.kd, .int .i64 t.nn, .string t.tx, .slice (some ⟨b, o, none⟩) t.ks.length t.cp] := by rw [← ha, T.val]
      rw [hval]
      have b0 : ((t.ks.length : Int) == 0) = false := by simp; exact he
      clear he hk hkv ha hv hvp ih hR hin htab hsl k0 hval HK HAD
      go_enter Tryz.func100, Tryz.ntmps100
      go_wp2_with fail
      go_loopg [26, 1] (t.ks.length) (fun m i x wr => ∃ (i0 : Nat) (r0 : Int), m = t.ks.length - i0 ∧ i = .int .i64 i0 ∧ x = .int .i64 r0 ∧ SpRel w wr t R i0 r0)
      case atStart => exact ⟨0, _, rfl, rfl, rfl, HST.out _ K0.out⟩
      case round =>
        obtain ⟨i, r0, rfl, rfl, rfl, hrl⟩ := hrel
        have q1 := hrl.lo
        have q2 := hrl.hi
        have q3 := hrl.le
        have HRL := Lib.hid hrl
        clear hrl
        by_cases hlt : i < t.ks.length
        · obtain ⟨⟨hx0, hx1, hx2, hx3⟩, lb⟩ := HKC.out _ HRL.out.box.2 i hlt
          have gi : (i : Int) < (t.ks.length : Int) := by omega
          by_cases hneg : r0 < 0
          · have HF : Hid (R = r0) := Lib.hid (by rw [HRL.out.eq, spL_stop _ hneg])
            go_wp2_with fail
            go_ret
            exact ⟨ret_int (by rw [HF.out]), up HRL.out.box.2 (bel1 _ _)⟩
          · have HC := Lib.hid (HIH.out i hlt r0 (wr.alloc (.cells #[.int .i64 t.ks[i].kd, .int .i64 t.ks[i].nn, .string t.ks[i].tx, .slice t.ks[i].ad t.ks[i].ks.length t.ks[i].cp] 29)) (by omega) q2 (up HRL.out.box.2 (bel1 _ _)))
            have hbd := HBD.out i hlt r0
            obtain ⟨r1, hr1⟩ : ∃ r1, spF t.ks[i].form r0 = r1 := ⟨_, rfl⟩
            have HNX : Hid (∀ w2, Below _ _ w2 → SpRel w w2 t R (i + 1) r1) := Lib.hid fun w2 hb => ⟨by omega, by rw [HRL.out.eq, spL_next (by simpa using hlt) hneg, ← hr1]; simp, by omega, by omega, HRL.out.box.next hb⟩
            rw [hr1] at HC hbd
            clear hr1
            go_wp2_with (go_at_call 100; (with_reducible refine HC.out.mono ?_); rintro e w2 ⟨rfl, hB⟩; have HB := Lib.hid hB; clear hB)
            go_roundg (t.ks.length - (i + 1))
            case measure => omega
            case rel => exact ⟨i + 1, r1, rfl, by go_num, rfl, HNX.out _ (up (bel1 _ _) HB.out)⟩
        · have gi : ¬ (i : Int) < (t.ks.length : Int) := by omega
          have HF : Hid (R = r0) := Lib.hid (by rw [HRL.out.eq, spL_end (by simp; omega)])
          go_wp2_with fail
          go_ret
          exact ⟨ret_int (by rw [HF.out]), HRL.out.box.2⟩

/-! ### The front -/
theorem headF_no {f a : Fm} {r : List Fm} (hk : f.kd = 3) (h : f.ks = a :: r) (ha : a.kd ≠ 1) : headF f = ⟨#[]⟩ := by
  rw [headF_cons (k := a) (r := r) (by unfold Fm.kids; rw [if_pos hk, h]), if_neg ha]
theorem headF_yes {f a : Fm} {r : List Fm} (hv : validF f = true) (hk : f.kd = 3) (h : f.ks = a :: r) (ha : a.kd = 1) : headF f ≠ ⟨#[]⟩ := by
  rw [headF_cons (k := a) (r := r) (by unfold Fm.kids; rw [if_pos hk, h]), if_pos ha]
  have h1 := (valid_parts (valid_kid hv hk (by rw [h]; simp : a ∈ f.ks)).1).2.2
  rw [fieldsF_eq, Bool.and_eq_true] at h1
  intro e
  rcases alone_cases h1.1 with ⟨h0, _⟩ | ⟨_, _, _, h0⟩ | ⟨h0, _⟩ | ⟨h0, _⟩
  · omega
  · rw [e] at h0; exact absurd h0 (by decide)
  · omega
  · omega
theorem ba_ne {d : ByteArray} (h : d ≠ ⟨#[]⟩) : d.toList.isEmpty = false := by
  rw [ByteArray.toList_eq]
  cases hl : d.data.toList with
  | nil => exact absurd (ba_list hl) h
  | cons _ _ => rfl
theorem kd_at {t : T} {l : List Fm} (h : t.ks.map T.form = l) (i : Nat) (hi : i < t.ks.length) (hl : i < l.length) : t.ks[i].kd = l[i].kd := by
  subst h
  simp [T.form_kd]
set_option maxHeartbeats 4000000 in
theorem frontKids_any (t : T) (w : World) (hin : In w t) (hv : validF t.form = true) (hk : t.kd = 3) (hne : t.ks ≠ []) :
    Calls Tryz.prog 102 #[t.val] w fun e w' => e = .returned (.int .i64 (frN t.form.ks)) ∧ Below w.heap.size w w' := by
  have n1 := Nat.le_trans hin.ok.le hin.ok.cp
  unfold maxLen at n1
  have hpos : 0 < t.ks.length := List.length_pos_iff.2 hne
  obtain ⟨a, ha⟩ : ∃ a, t.ad = a := ⟨_, rfl⟩
  have HK : Hid (∀ W, Below w.heap.size w W → InL W a 0 t.ks) := Lib.hid fun W h => by rw [← ha]; exact (hin.below h).inL
  obtain ⟨b, o, rfl⟩ : ∃ b o, a = some ⟨b, o, none⟩ := by
    obtain ⟨⟨b, o, e, _⟩, _⟩ := (HK.out w (Below.refl _ _)).at 0 hpos
    exact ⟨b, o, e⟩
  have HKC : Hid (∀ W, Below w.heap.size w W → ∀ i (h : i < t.ks.length), Cells4 W b (o + i * 4) t.ks[i] ∧ b < W.heap.size) := Lib.hid fun W hB i h => by
    obtain ⟨⟨b', o', e, hc⟩, _⟩ := (HK.out W hB).at i h
    injection e with e
    injection e with e1 e2 e3
    subst e1 e2
    exact ⟨hc, World.block_lt_of_cell? _ _ hc.1⟩
  have HH := head_any t (w.alloc (.cells #[.int .i64 t.kd, .int .i64 t.nn, .string t.tx, .slice t.ad t.ks.length t.cp] 29)) (hin.alloc _)
  have k0 := Boxed.start w t
  rw [ha] at k0
  have K0 := Lib.hid k0
  have hval : t.val = .agg #[.int .i64 t.kd, .int .i64 t.nn, .string t.tx, .slice (some ⟨b, o, none⟩) t.ks.length t.cp] := by rw [← ha, T.val]
  rw [hval, ha] at HH
  rw [hval]
  have HAD := Lib.hid ha
  have hk3 : t.form.kd = 3 := by rw [T.form_kd]; exact hk
  have hms : t.ks.map T.form = t.form.ks := (T.form_ks t).symm
  have hlen : t.ks.length = t.form.ks.length := by rw [← hms, List.length_map]
  rcases front_cases (ks := t.form.ks) (by rw [← hms]; intro e; exact hne (List.map_eq_nil_iff.1 e)) with ⟨fa, r, hks, hk1, hfn⟩ | ⟨fa, hks, hk1, hfn⟩ | ⟨fa, fb, r, hks, hk1, hkb, hfn⟩ | ⟨fa, fb, r, hks, hk1, hkb, hfn⟩
  · rw [headF_no hk3 hks hk1] at HH
    rw [hfn]
    replace HH := Lib.hid HH
    clear hks hk1 hk3 hms hlen hk hne hv hin ha hval k0 hfn HK
    go_enter Tryz.func102, Tryz.ntmps102
    go_wp2_with (go_at_call 43; (with_reducible refine HH.out.mono ?_); rintro e w2 ⟨rfl, hB⟩; have HB := Lib.hid hB; clear hB)
    go_ret
    exact ⟨rfl, up (bel1 _ _) HB.out⟩
  · have hh := headF_yes hv hk3 hks hk1
    have gl : ¬ (1 : Int) < (t.ks.length : Int) := by rw [hlen, hks]; simp
    obtain ⟨d, hd⟩ : ∃ d, headF t.form = d := ⟨_, rfl⟩
    rw [hd] at HH hh
    have gd : d.toList.isEmpty = false := ba_ne hh
    rw [hfn]
    replace HH := Lib.hid HH
    clear hks hk1 hk3 hms hlen hk hne hv hin ha hval k0 hfn HK hd hh
    go_enter Tryz.func102, Tryz.ntmps102
    go_wp2_with (go_at_call 43; (with_reducible refine HH.out.mono ?_); rintro e w2 ⟨rfl, hB⟩; obtain ⟨c0, c1, c2, c3⟩ := box_cells (K0.out.next hB).1 HAD.out; have HB := Lib.hid hB; clear hB)
    go_ret
    exact ⟨rfl, up (bel1 _ _) HB.out⟩
  · have hh := headF_yes hv hk3 hks hk1
    have h1l : 1 < t.ks.length := by rw [hlen, hks]; simp
    have gl : (1 : Int) < (t.ks.length : Int) := by omega
    have g3 : (t.ks[1].kd != 3) = false := by rw [kd_at (hms.trans hks) 1 h1l (by simp)]; simpa using hkb
    obtain ⟨d, hd⟩ : ∃ d, headF t.form = d := ⟨_, rfl⟩
    rw [hd] at HH hh
    have gd : d.toList.isEmpty = false := ba_ne hh
    rw [hfn]
    replace HH := Lib.hid HH
    clear hks hk1 hkb hk3 hms hlen hk hne hv hin ha hval k0 hfn HK hd hh
    go_enter Tryz.func102, Tryz.ntmps102
    go_wp2_with (go_at_call 43; (with_reducible refine HH.out.mono ?_); rintro e w2 ⟨rfl, hB⟩; obtain ⟨c0, c1, c2, c3⟩ := box_cells (K0.out.next hB).1 HAD.out; obtain ⟨⟨y0, y1, y2, y3⟩, lb⟩ := HKC.out w2 (up (bel1 _ _) hB) 1 h1l; simp only [Nat.one_mul] at y0 y1 y2 y3; have HB := Lib.hid hB; clear hB)
    go_ret
    exact ⟨rfl, up (bel1 _ _) HB.out⟩
  · have hh := headF_yes hv hk3 hks hk1
    have h1l : 1 < t.ks.length := by rw [hlen, hks]; simp
    have gl : (1 : Int) < (t.ks.length : Int) := by omega
    have g3 : (t.ks[1].kd != 3) = true := by rw [kd_at (hms.trans hks) 1 h1l (by simp)]; simpa using hkb
    obtain ⟨d, hd⟩ : ∃ d, headF t.form = d := ⟨_, rfl⟩
    rw [hd] at HH hh
    have gd : d.toList.isEmpty = false := ba_ne hh
    rw [hfn]
    replace HH := Lib.hid HH
    clear hks hk1 hkb hk3 hms hlen hk hne hv hin ha hval k0 hfn HK hd hh
    go_enter Tryz.func102, Tryz.ntmps102
    go_wp2_with (go_at_call 43; (with_reducible refine HH.out.mono ?_); rintro e w2 ⟨rfl, hB⟩; obtain ⟨c0, c1, c2, c3⟩ := box_cells (K0.out.next hB).1 HAD.out; obtain ⟨⟨y0, y1, y2, y3⟩, lb⟩ := HKC.out w2 (up (bel1 _ _) hB) 1 h1l; simp only [Nat.one_mul] at y0 y1 y2 y3; have HB := Lib.hid hB; clear hB)
    go_ret
    exact ⟨rfl, up (bel1 _ _) HB.out⟩
end Go.Proofs.YtdehkgflokeodaaGreatDoor.Y
