/- layout's sheet: startLine, layFront. -/
import Derived.Test.YtdehkgflokeodaaGreatDoorYSheetW
namespace Go.Proofs.YtdehkgflokeodaaGreatDoor.Y
open Go.RowKit Go.Deep

theorem blk_next' (k : Nat) : blk (k + 1) = blk k ++ [32] := by unfold blk; rw [List.replicate_succ']
set_option linter.unusedSimpArgs false in
set_option maxHeartbeats 4000000 in
set_option maxRecDepth 100000 in
theorem startLine_any (c : Nat) (hc : c ≤ 1000) (w0 w : World) (S : Nat) (ov : Value) (wd : Nat) (l : List UInt8) (h : Sh w0 w S ov wd l) (hl : l.length ≤ 1000000000) :
    Calls Tryz.prog 104 #[.pointer (some ⟨S, 0, none⟩), .int .i64 c] w fun e w' => Wrote w0 w w' S wd l (10 :: blk c) e := by
  have hc1 : (c : Int) ≤ 1000 := by omega
  obtain ⟨s0, _, s2⟩ := h.cells
  have H := Lib.hid h
  clear h
  go_enter Tryz.func104, Tryz.ntmps104
  go_wp2_with (at_builtin; (refine sh_bytes rfl _ _ 46 rfl Tryz.underlying46 rfl H.out [10] _ (by simp [bytesV]) 1 rfl 1 _ rfl rfl (by omega) ?_); intro va vn vc w1 hm; obtain ⟨m0, m1⟩ := hm.cells; have HM := Lib.hid hm; clear hm)
  go_loopg [14] (c) (fun m i wr => ∃ (k : Nat) (ov' : Value), k ≤ c ∧ m = c - k ∧ i = .int .i64 k ∧ Sh w0 wr S ov' wd (l ++ 10 :: blk k) ∧ Kept S w wr)
  case atStart => exact ⟨0, _, by omega, rfl, rfl, HM.out.store.1, HM.out.store.2⟩
  case round =>
    obtain ⟨k, ov', hk, rfl, rfl, hs, hkp⟩ := hrel
    obtain ⟨t0, _, t2⟩ := hs.cells
    have HS := Lib.hid hs
    have HKP := Lib.hid hkp
    have hlk : (l ++ 10 :: blk k).length ≤ 1000001001 := by simp [blk]; omega
    clear hs hkp
    by_cases hlt : k < c
    · have gi : (k : Int) < (c : Int) := by omega
      go_wp2_with (at_builtin; (refine sh_bytes rfl _ _ 46 rfl Tryz.underlying46 rfl HS.out [32] _ (by simp [bytesV]) 1 rfl 1 _ rfl rfl (by omega) ?_); intro va2 vn2 vc2 w2 hm; obtain ⟨m2, m3⟩ := hm.cells; have HM2 := Lib.hid hm; clear hm)
      go_roundg (c - (k + 1))
      case measure => omega
      case rel => exact ⟨k + 1, _, by omega, rfl, by go_num, by have := HM2.out.store.1; rw [blk_next']; simpa using this, HKP.out.trans HM2.out.store.2⟩
    · have gi : ¬ (k : Int) < (c : Int) := by omega
      have e : k = c := by omega
      go_wp2_with fail
      go_end0
      exact ⟨rfl, _, by rw [← e]; exact HS.out, HKP.out⟩

theorem joinB_one (x : List UInt8) : joinB [x] = x := by simp [joinB]
set_option linter.unusedSimpArgs false in
set_option maxHeartbeats 4000000 in
set_option maxRecDepth 100000 in
theorem layFront_any (xs : List T) (b o cp : Nat) (hxs : xs.length ≤ 2) (w0 w : World) (S : Nat) (ov : Value) (wd : Nat) (l : List UInt8) (h : Sh w0 w S ov wd l)
    (hc : ∀ W, Below w0.heap.size w0 W → ∀ i (h : i < xs.length), Cells4 W b (o + i * 4) xs[i] ∧ b < W.heap.size) (hin : ∀ x ∈ xs, In w0 x ∧ validF x.form = true) (htab : Tab w0.heap.size w0) (hl : l.length ≤ 500000000) :
    Calls Tryz.prog 103 #[.pointer (some ⟨S, 0, none⟩), .slice (some ⟨b, o, none⟩) xs.length cp] w fun e w' => Wrote w0 w w' S wd l (40 :: joinB (xs.map fun x => txF x.form)) e := by
  have hxs1 : (xs.length : Int) ≤ 2 := by omega
  obtain ⟨s0, _, s2⟩ := h.cells
  have H := Lib.hid h
  have HC := Lib.hid hc
  have HLN : Hid (∀ k, k ≤ xs.length → (joinB ((xs.take k).map fun x => txF x.form)).length ≤ 160400010) := Lib.hid fun k hk => by
    have hb : ∀ x ∈ xs, (txF x.form).length ≤ 80200000 := fun x hx => by
      have h1 := valid_parts (hin x hx).2
      have h2 := txF_len h1.2.2
      omega
    rcases xs with _ | ⟨x, _ | ⟨y, r⟩⟩
    · simp [joinB]
    · have h1 := hb x (by simp)
      rcases k with _ | k <;> simp [joinB] <;> omega
    · have h1 := hb x (by simp)
      have h2 := hb y (by simp)
      have : r = [] := by cases r with | nil => rfl | cons _ _ => simp at hxs
      subst this
      rcases k with _ | _ | k <;> simp [joinB] <;> omega
  have HW : Hid (∀ i (h : i < xs.length) ov' l' W, Sh w0 W S ov' wd l' → l'.length ≤ 1000000000 → Calls Tryz.prog 101 #[.pointer (some ⟨S, 0, none⟩), xs[i].val] W fun e w' => Wrote w0 W w' S wd l' (txF xs[i].form) e) := Lib.hid fun i h ov' l' W hs hl' =>
    write_any xs[i] w0 W S ov' wd l' hs ((hin _ (List.getElem_mem h)).1.below hs.below) (hin _ (List.getElem_mem h)).2 (Tab.mono (htab.on hs.below) hs.below.size) hl'
  have HJ : Hid (∀ i (h : i < xs.length), joinB ((xs.take (i + 1)).map fun x => txF x.form) = joinB ((xs.take i).map fun x => txF x.form) ++ ((if i = 0 then [] else [32]) ++ txF xs[i].form)) := Lib.hid fun i h => by
    rcases xs with _ | ⟨x, _ | ⟨y, r⟩⟩
    · simp at h
    · have : i = 0 := by simpa using h
      subst this
      simp [joinB]
    · have : r = [] := by cases r with | nil => rfl | cons _ _ => simp at hxs
      subst this
      rcases i with _ | _ | i
      · simp [joinB]
      · simp [joinB]
      · simp only [List.length_cons, List.length_nil] at h; omega
  clear h hc hin htab
  go_enter Tryz.func103, Tryz.ntmps103
  go_wp2_with (at_builtin; (refine sh_bytes rfl _ _ 46 rfl Tryz.underlying46 rfl H.out [40] _ (by simp [bytesV]) 1 rfl 1 _ rfl rfl (by omega) ?_); intro va vn vc w1 hm; obtain ⟨m0, m1⟩ := hm.cells; have HM := Lib.hid hm; clear hm)
  go_loopg [17] (xs.length) (fun m i wr => ∃ (k : Nat) (ov' : Value), k ≤ xs.length ∧ m = xs.length - k ∧ i = .int .i64 k ∧ Sh w0 wr S ov' wd (l ++ 40 :: joinB ((xs.take k).map fun x => txF x.form)) ∧ Kept S w wr)
  case atStart => exact ⟨0, _, by omega, rfl, rfl, HM.out.store.1, HM.out.store.2⟩
  case round =>
    obtain ⟨k, ov', hk, rfl, rfl, hs, hkp⟩ := hrel
    have hlk := HLN.out k hk
    have hln : (l ++ 40 :: joinB ((xs.take k).map fun x => txF x.form)).length ≤ 700000000 := by rw [List.length_append, List.length_cons]; omega
    have hS := lt_of_block hs.blk
    have HS := Lib.hid hs
    clear hlk
    have HKP := Lib.hid hkp
    clear hkp
    by_cases hlt : k < xs.length
    · have gi : (k : Int) < (xs.length : Int) := by omega
      obtain ⟨⟨x0, x1, x2, x3⟩, lb⟩ := HC.out _ hs.below k hlt
      have HA := Lib.hid (hs.alloc (.cells #[.int .i64 xs[k].kd, .int .i64 xs[k].nn, .string xs[k].tx, .slice xs[k].ad xs[k].ks.length xs[k].cp] 29))
      have hbx : Box4 (wr.alloc (.cells #[.int .i64 xs[k].kd, .int .i64 xs[k].nn, .string xs[k].tx, .slice xs[k].ad xs[k].ks.length xs[k].cp] 29)) wr.heap.size xs[k] := heap_alloc_new wr _
      have HBX := Lib.hid hbx
      obtain ⟨t0, _, t2⟩ := (hs.alloc (.cells #[.int .i64 xs[k].kd, .int .i64 xs[k].nn, .string xs[k].tx, .slice xs[k].ad xs[k].ks.length xs[k].cp] 29)).cells
      have hj := HJ.out k hlt
      clear hs hbx
      by_cases h0 : k = 0
      · subst h0
        rw [if_pos rfl, List.nil_append] at hj
        have HJ2 := Lib.hid hj
        clear hj
        simp only [Nat.zero_mul, Nat.add_zero] at x0 x1 x2 x3
        go_wp2_with (go_at_call 101; (with_reducible refine (HW.out 0 hlt _ _ _ HA.out (by omega)).mono ?_); rintro e w2 ⟨rfl, ov2, hs2, hk2⟩; have HS2 := Lib.hid hs2; have HK2 := Lib.hid hk2; clear hs2 hk2)
        go_roundg (xs.length - 1)
        case measure => omega
        case rel => exact ⟨1, ov2, by omega, rfl, by go_num, by rw [HJ2.out]; simpa using HS2.out, (HKP.out.alloc _).trans HK2.out⟩
      · have g0 : (0 : Int) < (k : Int) := by omega
        rw [if_neg h0] at hj
        have HJ2 := Lib.hid hj
        clear hj
        go_wp2_with (first
          | (at_builtin; (refine sh_bytes rfl _ _ 46 rfl Tryz.underlying46 rfl HA.out [32] _ (by simp [bytesV]) 1 rfl 1 _ rfl (by simp) (by omega) ?_); intro va2 vn2 vc2 w2 hm; obtain ⟨m2, m3⟩ := hm.cells; obtain ⟨z0, z1, z2, z3⟩ := (hm.kept.box HBX.out (by omega)).cells; obtain ⟨y0, y1, y2, y3⟩ := (hm.store.2.box HBX.out (by omega)).cells; have HM2 := Lib.hid hm.store; clear hm)
          | (go_at_call 101; (with_reducible refine (HW.out k hlt _ _ _ HM2.out.1 (by rw [List.length_append]; simp only [List.length_cons, List.length_nil]; omega)).mono ?_); rintro e w3 ⟨rfl, ov2, hs2, hk2⟩; have HS2 := Lib.hid hs2; have HK2 := Lib.hid hk2; clear hs2 hk2))
        go_roundg (xs.length - (k + 1))
        case measure => omega
        case rel => exact ⟨k + 1, ov2, by omega, rfl, by go_num, by rw [HJ2.out]; simpa using HS2.out, (HKP.out.alloc _).trans (HM2.out.2.trans HK2.out)⟩
    · have gi : ¬ (k : Int) < (xs.length : Int) := by omega
      have e : k = xs.length := by omega
      clear hs
      go_wp2_with fail
      go_end0
      exact ⟨rfl, _, by have := HS.out; rwa [e, List.take_length] at this, HKP.out⟩
end Go.Proofs.YtdehkgflokeodaaGreatDoor.Y
