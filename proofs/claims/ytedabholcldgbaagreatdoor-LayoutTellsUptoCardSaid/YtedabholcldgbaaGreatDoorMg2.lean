/- Several texts, one behind the other. -/
import Derived.Test.YtedabholcldgbaaGreatDoorMg1
import Derived.Test.YtedabholcldgbaaGreatDoorRef3
import Derived.Laws.OwnMore
import Derived.Laws.Concat
import Derived.Test.YtedabholcldgbaaGreatDoorYPure
import Derived.Test.YtedabholcldgbaaGreatDoorHead
import Derived.Deep.QuietTactic
import Derived.BigQuiet
import Derived.Test.YtedabholcldgbaaGreatDoorSize
import Derived.Test.YtedabholcldgbaaGreatDoorCmp
import Derived.Test.YtedabholcldgbaaGreatDoorRead
import Derived.Test.YtedabholcldgbaaGreatDoorTxt
import Derived.Test.YtedabholcldgbaaGreatDoorReadPure
import Derived.Lib.AtoiAllCases
import Derived.Deep.AppendLies
import Derived.Test.YtedabholcldgbaaGreatDoorShelf

/- layout's sheet: write, startLine, layFront. -/
namespace Go.Proofs.YtedabholcldgbaaGreatDoor.Y
open Go.RowKit Go.Deep

set_option linter.unusedSimpArgs false in
set_option maxHeartbeats 4000000 in
set_option maxRecDepth 100000 in
theorem write_any (t : T) (w0 w : World) (S : Nat) (ov : Value) (wd : Nat) (l : List UInt8) (h : Sh w0 w S ov wd l) (hin : In w t) (hv : validF t.form = true) (htab : Tab w.heap.size w) (hl : l.length ≤ 1000000000) :
    Calls Tryz.prog 101 #[.pointer (some ⟨S, 0, none⟩), t.val] w fun e w' => Wrote w0 w w' S wd l (txF t.form) e := by
  have hvp := valid_parts hv
  have hsl : (txF t.form).length ≤ 80200000 := by have := txF_len hvp.2.2; omega
  have HW : Hid (∀ W, Below w.heap.size w W → Calls Tryz.prog 140 #[t.val] W fun e w' => ∃ d : ByteArray, e = .returned (.string d) ∧ d.data.toList = txF t.form ∧ Below W.heap.size W w') := Lib.hid fun W hB => by
    have := Go.Proofs.YtedabholcldgbaaGreatDoor.write_any t W (hin.below hB) (by omega) (Tab.mono (htab.on hB) hB.size)
    exact this.mono fun e w' hh => (by rw [wrF_yes hv] at hh; exact ⟨_, hh.1, rfl, hh.2⟩)
  have hbx := heap_alloc_new w (.cells #[.int .i64 t.kd, .int .i64 t.nn, .string t.tx, .slice t.ad t.ks.length t.cp] 29)
  have H := Lib.hid h
  have HBX := Lib.hid hbx
  have hSw := lt_of_block h.blk
  clear h hin hv hvp htab hbx
  go_enter Tryz.func101, Tryz.ntmps101
  go_wp2_with fail
  have HD := Lib.hid ((H.out.alloc (.cells #[.int .i64 t.kd, .int .i64 t.nn, .string t.tx, .slice t.ad t.ks.length t.cp] 29)).drew)
  obtain ⟨s0, _, s2⟩ := (H.out.alloc (.cells #[.int .i64 t.kd, .int .i64 t.nn, .string t.tx, .slice t.ad t.ks.length t.cp] 29)).cells
  have HB0 : Hid (Below w.heap.size w (w.alloc (.cells #[.int .i64 t.kd, .int .i64 t.nn, .string t.tx, .slice t.ad t.ks.length t.cp] 29)).drew) := Lib.hid (bel1 _ _).drew
  have HX : Hid (Box4 (w.alloc (.cells #[.int .i64 t.kd, .int .i64 t.nn, .string t.tx, .slice t.ad t.ks.length t.cp] 29)).drew w.heap.size t) := Lib.hid HBX.out
  refine wp_region_noPanic ?_
  refine wp_region_held_drew (S := fun W => W.cell? ⟨w.heap.size, 0, none⟩ = some (.int .i64 t.kd) ∧ W.cell? ⟨w.heap.size, 1, none⟩ = some (.int .i64 t.nn) ∧ W.cell? ⟨w.heap.size, 2, none⟩ = some (.string t.tx) ∧ W.cell? ⟨w.heap.size, 3, none⟩ = some (.slice t.ad t.ks.length t.cp)) (by kernel_rfl) HX.out.cells (fun hHeld => ?_)
  refine wpAnyH_take (i := 0) (v := ?_) rfl (by kernel_rfl) (by kernel_rfl) (by kernel_rfl) (fun _ _ _ h => h) (Or.inl ⟨by rfl, ?_⟩) (by assumption) ?_
  rotate_left
  · intro W hSw
    obtain ⟨q0, q1, q2, q3⟩ := hSw
    go_simp
    try with_reducible rfl
  try simp only [Act.put, List.setIfInBounds_toArray, List.set_cons_zero, List.set_cons_succ]
  refine wpAnyH_take (i := 1) (v := ?_) rfl (by kernel_rfl) (by kernel_rfl) (by kernel_rfl) (fun _ _ _ h => h) (Or.inl ⟨by rfl, ?_⟩) (by assumption) ?_
  rotate_left
  · intro W hSw
    obtain ⟨q0, q1, q2, q3⟩ := hSw
    go_simp
    try with_reducible rfl
  try simp only [Act.put, List.setIfInBounds_toArray, List.set_cons_zero, List.set_cons_succ]
  refine wpAnyH_take (i := 2) (v := ?_) rfl (by kernel_rfl) (by kernel_rfl) (by kernel_rfl) (fun _ _ _ h => h) (Or.inl ⟨by rfl, ?_⟩) (by assumption) ?_
  rotate_left
  · intro W hSw
    obtain ⟨q0, q1, q2, q3⟩ := hSw
    go_simp
    try with_reducible rfl
  try simp only [Act.put, List.setIfInBounds_toArray, List.set_cons_zero, List.set_cons_succ]
  refine wpAnyH_take (i := 3) (v := ?_) rfl (by kernel_rfl) (by kernel_rfl) (by kernel_rfl) (fun _ _ _ h => h) (Or.inl ⟨by rfl, ?_⟩) (by assumption) ?_
  rotate_left
  · intro W hSw
    obtain ⟨q0, q1, q2, q3⟩ := hSw
    go_simp
    try with_reducible rfl
  try simp only [Act.put, List.setIfInBounds_toArray, List.set_cons_zero, List.set_cons_succ]
  refine wpAnyH_take (i := 5) (v := ?_) rfl (by kernel_rfl) (by kernel_rfl) (by kernel_rfl) (fun _ _ _ h => h) (Or.inl ⟨by rfl, ?_⟩) (by assumption) ?_
  rotate_left
  · intro W hSw
    obtain ⟨q0, q1, q2, q3⟩ := hSw
    go_simp
    try with_reducible rfl
  try simp only [Act.put, List.setIfInBounds_toArray, List.set_cons_zero, List.set_cons_succ]
  refine wpAnyH_ready (rs := [4, 6]) (by kernel_rfl) (by simp) ?_
  refine AllReadyH.cons rfl (fun K hK => ?_) (AllReadyH.cons rfl (fun K hK => ?_) AllReadyH.nil)
  · go_simp
    refine hK.out _ _ HX.out.cells (fun hHeld => ?_)
    clear hK K
    try simp only [Act.put, List.setIfInBounds_toArray, List.set_cons_zero, List.set_cons_succ]
    refine wpAnyH_ready (rs := [6]) (by kernel_rfl) (by simp) ?_
    refine AllReadyH.cons rfl (fun K hK => ?_) AllReadyH.nil
    go_simp
    go_at_call 140
    refine (HW.out _ HB0.out).mono ?_
    rintro e w3 ⟨d, rfl, hd, hB⟩
    have HB3 := Lib.hid hB
    have HX3 : Hid (Box4 w3 w.heap.size t) := Lib.hid ((hB.block _ (lt_of_block HX.out)).trans HX.out)
    have HD3 := Lib.hid (HD.out.next hB)
    have hdz : d.size ≤ 80200000 := Nat.le_trans (Nat.le_of_eq (by rw [← hd]; simp)) hsl
    have HDD := Lib.hid hd
    clear hd hB
    go_wp2_with fail
    refine hK.out _ _ HX3.out.cells (fun hHeld => ?_)
    clear hK K
    try simp only [Act.put, List.setIfInBounds_toArray, List.set_cons_zero, List.set_cons_succ]
    refine wpAnyH_ready (rs := [7]) (by kernel_rfl) (by simp) ?_
    refine AllReadyH.cons rfl (fun K hK => ?_) AllReadyH.nil
    refine step_text rfl _ _ 46 9 rfl Tryz.underlying46 Tryz.underlying9 rfl HD3.out d rfl (by omega) ?_
    intro va4 vn4 vc4 w4 hm
    have HM := Lib.hid hm
    obtain ⟨m0, m1⟩ := hm.cells
    have HX4 : Hid (Box4 w4 w.heap.size t) := Lib.hid (hm.kept.box HX3.out (by omega))
    clear hm
    refine hK.out _ _ HX4.out.cells (fun hHeld => ?_)
    clear hK K
    try simp only [Act.put, List.setIfInBounds_toArray, List.set_cons_zero, List.set_cons_succ]
    refine wpAnyH_take (i := 8) (v := ?_) rfl (by kernel_rfl) (by kernel_rfl) (by kernel_rfl) (fun _ _ _ h => h) (Or.inl ⟨by rfl, ?_⟩) (by assumption) ?_
    rotate_left
    · intro W hSw
      obtain ⟨q0, q1, q2, q3⟩ := hSw
      go_simp
      try with_reducible rfl
    try simp only [Act.put, List.setIfInBounds_toArray, List.set_cons_zero, List.set_cons_succ]
    refine wpAnyH_take (i := 9) (v := ?_) rfl (by kernel_rfl) (by kernel_rfl) (by kernel_rfl) (fun _ _ _ h => h) (Or.inl ⟨by rfl, ?_⟩) (by assumption) ?_
    rotate_left
    · intro W hSw
      obtain ⟨q0, q1, q2, q3⟩ := hSw
      go_simp
      try with_reducible rfl
    try simp only [Act.put, List.setIfInBounds_toArray, List.set_cons_zero, List.set_cons_succ]
    refine wpAnyH_ready (rs := [10]) (by kernel_rfl) (by simp) ?_
    refine AllReadyH.cons rfl (fun K hK => ?_) AllReadyH.nil
    go_simp
    refine hK.out _ _ (HM.out.store.2.box HX3.out (by omega)).cells (fun hHeld => ?_)
    clear hK K
    try simp only [Act.put, List.setIfInBounds_toArray, List.set_cons_zero, List.set_cons_succ]
    refine wpAnyH_done (by kernel_rfl) ?_ _
    refine NoPanic.normal ?_
    go_wp2_with fail
    go_end0
    have hs := HM.out.store
    refine ⟨rfl, .slice va4 vn4 vc4, ?_, ((Kept.of HB0.out).below HB3.out).trans hs.2⟩
    rw [← HDD.out]
    exact hs.1
  · go_simp
    go_at_call 140
    refine (HW.out _ HB0.out).mono ?_
    rintro e w3 ⟨d, rfl, hd, hB⟩
    have HB3 := Lib.hid hB
    have HX3 : Hid (Box4 w3 w.heap.size t) := Lib.hid ((hB.block _ (lt_of_block HX.out)).trans HX.out)
    have HD3 := Lib.hid (HD.out.next hB)
    have hdz : d.size ≤ 80200000 := Nat.le_trans (Nat.le_of_eq (by rw [← hd]; simp)) hsl
    have HDD := Lib.hid hd
    clear hd hB
    go_wp2_with fail
    refine hK.out _ _ HX3.out.cells (fun hHeld => ?_)
    clear hK K
    try simp only [Act.put, List.setIfInBounds_toArray, List.set_cons_zero, List.set_cons_succ]
    refine wpAnyH_ready (rs := [4]) (by kernel_rfl) (by simp) ?_
    refine AllReadyH.cons rfl (fun K hK => ?_) AllReadyH.nil
    obtain ⟨p0, _, _⟩ := HD3.out.cells
    go_simp
    refine hK.out _ _ HX3.out.cells (fun hHeld => ?_)
    clear hK K
    try simp only [Act.put, List.setIfInBounds_toArray, List.set_cons_zero, List.set_cons_succ]
    refine wpAnyH_ready (rs := [7]) (by kernel_rfl) (by simp) ?_
    refine AllReadyH.cons rfl (fun K hK => ?_) AllReadyH.nil
    refine step_text rfl _ _ 46 9 rfl Tryz.underlying46 Tryz.underlying9 rfl HD3.out d rfl (by omega) ?_
    intro va4 vn4 vc4 w4 hm
    have HM := Lib.hid hm
    obtain ⟨m0, m1⟩ := hm.cells
    have HX4 : Hid (Box4 w4 w.heap.size t) := Lib.hid (hm.kept.box HX3.out (by omega))
    clear hm
    refine hK.out _ _ HX4.out.cells (fun hHeld => ?_)
    clear hK K
    try simp only [Act.put, List.setIfInBounds_toArray, List.set_cons_zero, List.set_cons_succ]
    refine wpAnyH_take (i := 8) (v := ?_) rfl (by kernel_rfl) (by kernel_rfl) (by kernel_rfl) (fun _ _ _ h => h) (Or.inl ⟨by rfl, ?_⟩) (by assumption) ?_
    rotate_left
    · intro W hSw
      obtain ⟨q0, q1, q2, q3⟩ := hSw
      go_simp
      try with_reducible rfl
    try simp only [Act.put, List.setIfInBounds_toArray, List.set_cons_zero, List.set_cons_succ]
    refine wpAnyH_take (i := 9) (v := ?_) rfl (by kernel_rfl) (by kernel_rfl) (by kernel_rfl) (fun _ _ _ h => h) (Or.inl ⟨by rfl, ?_⟩) (by assumption) ?_
    rotate_left
    · intro W hSw
      obtain ⟨q0, q1, q2, q3⟩ := hSw
      go_simp
      try with_reducible rfl
    try simp only [Act.put, List.setIfInBounds_toArray, List.set_cons_zero, List.set_cons_succ]
    refine wpAnyH_ready (rs := [10]) (by kernel_rfl) (by simp) ?_
    refine AllReadyH.cons rfl (fun K hK => ?_) AllReadyH.nil
    go_simp
    refine hK.out _ _ (HM.out.store.2.box HX3.out (by omega)).cells (fun hHeld => ?_)
    clear hK K
    try simp only [Act.put, List.setIfInBounds_toArray, List.set_cons_zero, List.set_cons_succ]
    refine wpAnyH_done (by kernel_rfl) ?_ _
    refine NoPanic.normal ?_
    go_wp2_with fail
    go_end0
    have hs := HM.out.store
    refine ⟨rfl, .slice va4 vn4 vc4, ?_, ((Kept.of HB0.out).below HB3.out).trans hs.2⟩
    rw [← HDD.out]
    exact hs.1
end Go.Proofs.YtedabholcldgbaaGreatDoor.Y

/- layout's sheet: startLine, layFront. -/
namespace Go.Proofs.YtedabholcldgbaaGreatDoor.Y
open Go.RowKit Go.Deep

theorem blk_next' (k : Nat) : blk (k + 1) = blk k ++ [32] := by unfold blk; rw [List.replicate_succ']
set_option linter.unusedSimpArgs false in
set_option maxHeartbeats 4000000 in
set_option maxRecDepth 100000 in
theorem startLine_any (c : Nat) (hc : c ≤ 1000) (w0 w : World) (S : Nat) (ov : Value) (wd : Nat) (l : List UInt8) (h : Sh w0 w S ov wd l) (hl : l.length ≤ 1000000000) :
    Calls Tryz.prog 104 #[.pointer (some ⟨S, 0, none⟩), .int .i64 c] w fun e w' => Wrote w0 w w' S wd l (10 :: blk c) e := by
  have hc1 : (c : Int) ≤ 1000 := by omega
  obtain ⟨s0, _, s2⟩ := h.cells
  have H := Lib.hid h
  clear h
  go_enter Tryz.func104, Tryz.ntmps104
  go_wp2_with (at_builtin; (refine sh_bytes rfl _ _ 46 rfl Tryz.underlying46 rfl H.out [10] _ (by simp [bytesV]) 1 rfl 1 _ rfl rfl (by omega) ?_); intro va vn vc w1 hm; obtain ⟨m0, m1⟩ := hm.cells; have HM := Lib.hid hm; clear hm)
  go_loopg [14] (c) (fun m i wr => ∃ (k : Nat) (ov' : Value), k ≤ c ∧ m = c - k ∧ i = .int .i64 k ∧ Sh w0 wr S ov' wd (l ++ 10 :: blk k) ∧ Kept S w wr)
  case atStart => exact ⟨0, _, by omega, rfl, rfl, HM.out.store.1, HM.out.store.2⟩
  case round =>
    obtain ⟨k, ov', hk, rfl, rfl, hs, hkp⟩ := hrel
    obtain ⟨t0, _, t2⟩ := hs.cells
    have HS := Lib.hid hs
    have HKP := Lib.hid hkp
    have hlk : (l ++ 10 :: blk k).length ≤ 1000001001 := by simp [blk]; omega
    clear hs hkp
    by_cases hlt : k < c
    · have gi : (k : Int) < (c : Int) := by omega
      go_wp2_with (at_builtin; (refine sh_bytes rfl _ _ 46 rfl Tryz.underlying46 rfl HS.out [32] _ (by simp [bytesV]) 1 rfl 1 _ rfl rfl (by omega) ?_); intro va2 vn2 vc2 w2 hm; obtain ⟨m2, m3⟩ := hm.cells; have HM2 := Lib.hid hm; clear hm)
      go_roundg (c - (k + 1))
      case measure => omega
      case rel => exact ⟨k + 1, _, by omega, rfl, by go_num, by have := HM2.out.store.1; rw [blk_next']; simpa using this, HKP.out.trans HM2.out.store.2⟩
    · have gi : ¬ (k : Int) < (c : Int) := by omega
      have e : k = c := by omega
      go_wp2_with fail
      go_end0
      exact ⟨rfl, _, by rw [← e]; exact HS.out, HKP.out⟩

theorem joinB_one (x : List UInt8) : joinB [x] = x := by simp [joinB]
set_option linter.unusedSimpArgs false in
set_option maxHeartbeats 4000000 in
set_option maxRecDepth 100000 in
theorem layFront_any (xs : List T) (b o cp : Nat) (hxs : xs.length ≤ 2) (w0 w : World) (S : Nat) (ov : Value) (wd : Nat) (l : List UInt8) (h : Sh w0 w S ov wd l)
    (hc : ∀ W, Below w0.heap.size w0 W → ∀ i (h : i < xs.length), Cells4 W b (o + i * 4) xs[i] ∧ b < W.heap.size) (hin : ∀ x ∈ xs, In w0 x ∧ validF x.form = true) (htab : Tab w0.heap.size w0) (hl : l.length ≤ 500000000) :
    Calls Tryz.prog 103 #[.pointer (some ⟨S, 0, none⟩), .slice (some ⟨b, o, none⟩) xs.length cp] w fun e w' => Wrote w0 w w' S wd l (40 :: joinB (xs.map fun x => txF x.form)) e := by
  have hxs1 : (xs.length : Int) ≤ 2 := by omega
  obtain ⟨s0, _, s2⟩ := h.cells
  have H := Lib.hid h
  have HC := Lib.hid hc
  have HLN : Hid (∀ k, k ≤ xs.length → (joinB ((xs.take k).map fun x => txF x.form)).length ≤ 160400010) := Lib.hid fun k hk => by
    have hb : ∀ x ∈ xs, (txF x.form).length ≤ 80200000 := fun x hx => by
      have h1 := valid_parts (hin x hx).2
      have h2 := txF_len h1.2.2
      omega
    rcases xs with _ | ⟨x, _ | ⟨y, r⟩⟩
    · simp [joinB]
    · have h1 := hb x (by simp)
      rcases k with _ | k <;> simp [joinB] <;> omega
    · have h1 := hb x (by simp)
      have h2 := hb y (by simp)
      have : r = [] := by cases r with | nil => rfl | cons _ _ => simp at hxs
      subst this
      rcases k with _ | _ | k <;> simp [joinB] <;> omega
  have HW : Hid (∀ i (h : i < xs.length) ov' l' W, Sh w0 W S ov' wd l' → l'.length ≤ 1000000000 → Calls Tryz.prog 101 #[.pointer (some ⟨S, 0, none⟩), xs[i].val] W fun e w' => Wrote w0 W w' S wd l' (txF xs[i].form) e) := Lib.hid fun i h ov' l' W hs hl' =>
    write_any xs[i] w0 W S ov' wd l' hs ((hin _ (List.getElem_mem h)).1.below hs.below) (hin _ (List.getElem_mem h)).2 (Tab.mono (htab.on hs.below) hs.below.size) hl'
  have HJ : Hid (∀ i (h : i < xs.length), joinB ((xs.take (i + 1)).map fun x => txF x.form) = joinB ((xs.take i).map fun x => txF x.form) ++ ((if i = 0 then [] else [32]) ++ txF xs[i].form)) := Lib.hid fun i h => by
    rcases xs with _ | ⟨x, _ | ⟨y, r⟩⟩
    · simp at h
    · have : i = 0 := by simpa using h
      subst this
      simp [joinB]
    · have : r = [] := by cases r with | nil => rfl | cons _ _ => simp at hxs
      subst this
      rcases i with _ | _ | i
      · simp [joinB]
      · simp [joinB]
      · simp only [List.length_cons, List.length_nil] at h; omega
  clear h hc hin htab
  go_enter Tryz.func103, Tryz.ntmps103
  go_wp2_with (at_builtin; (refine sh_bytes rfl _ _ 46 rfl Tryz.underlying46 rfl H.out [40] _ (by simp [bytesV]) 1 rfl 1 _ rfl rfl (by omega) ?_); intro va vn vc w1 hm; obtain ⟨m0, m1⟩ := hm.cells; have HM := Lib.hid hm; clear hm)
  go_loopg [17] (xs.length) (fun m i wr => ∃ (k : Nat) (ov' : Value), k ≤ xs.length ∧ m = xs.length - k ∧ i = .int .i64 k ∧ Sh w0 wr S ov' wd (l ++ 40 :: joinB ((xs.take k).map fun x => txF x.form)) ∧ Kept S w wr)
  case atStart => exact ⟨0, _, by omega, rfl, rfl, HM.out.store.1, HM.out.store.2⟩
  case round =>
    obtain ⟨k, ov', hk, rfl, rfl, hs, hkp⟩ := hrel
    have hlk := HLN.out k hk
    have hln : (l ++ 40 :: joinB ((xs.take k).map fun x => txF x.form)).length ≤ 700000000 := by rw [List.length_append, List.length_cons]; omega
    have hS := lt_of_block hs.blk
    have HS := Lib.hid hs
    clear hlk
    have HKP := Lib.hid hkp
    clear hkp
    by_cases hlt : k < xs.length
    · have gi : (k : Int) < (xs.length : Int) := by omega
      obtain ⟨⟨x0, x1, x2, x3⟩, lb⟩ := HC.out _ hs.below k hlt
      have HA := Lib.hid (hs.alloc (.cells #[.int .i64 xs[k].kd, .int .i64 xs[k].nn, .string xs[k].tx, .slice xs[k].ad xs[k].ks.length xs[k].cp] 29))
      have hbx : Box4 (wr.alloc (.cells #[.int .i64 xs[k].kd, .int .i64 xs[k].nn, .string xs[k].tx, .slice xs[k].ad xs[k].ks.length xs[k].cp] 29)) wr.heap.size xs[k] := heap_alloc_new wr _
      have HBX := Lib.hid hbx
      obtain ⟨t0, _, t2⟩ := (hs.alloc (.cells #[.int .i64 xs[k].kd, .int .i64 xs[k].nn, .string xs[k].tx, .slice xs[k].ad xs[k].ks.length xs[k].cp] 29)).cells
      have hj := HJ.out k hlt
      clear hs hbx
      by_cases h0 : k = 0
      · subst h0
        rw [if_pos rfl, List.nil_append] at hj
        have HJ2 := Lib.hid hj
        clear hj
        simp only [Nat.zero_mul, Nat.add_zero] at x0 x1 x2 x3
        go_wp2_with (go_at_call 101; (with_reducible refine (HW.out 0 hlt _ _ _ HA.out (by omega)).mono ?_); rintro e w2 ⟨rfl, ov2, hs2, hk2⟩; have HS2 := Lib.hid hs2; have HK2 := Lib.hid hk2; clear hs2 hk2)
        go_roundg (xs.length - 1)
        case measure => omega
        case rel => exact ⟨1, ov2, by omega, rfl, by go_num, by rw [HJ2.out]; simpa using HS2.out, (HKP.out.alloc _).trans HK2.out⟩
      · have g0 : (0 : Int) < (k : Int) := by omega
        rw [if_neg h0] at hj
        have HJ2 := Lib.hid hj
        clear hj
        go_wp2_with (first
          | (at_builtin; (refine sh_bytes rfl _ _ 46 rfl Tryz.underlying46 rfl HA.out [32] _ (by simp [bytesV]) 1 rfl 1 _ rfl (by simp) (by omega) ?_); intro va2 vn2 vc2 w2 hm; obtain ⟨m2, m3⟩ := hm.cells; obtain ⟨z0, z1, z2, z3⟩ := (hm.kept.box HBX.out (by omega)).cells; obtain ⟨y0, y1, y2, y3⟩ := (hm.store.2.box HBX.out (by omega)).cells; have HM2 := Lib.hid hm.store; clear hm)
          | (go_at_call 101; (with_reducible refine (HW.out k hlt _ _ _ HM2.out.1 (by rw [List.length_append]; simp only [List.length_cons, List.length_nil]; omega)).mono ?_); rintro e w3 ⟨rfl, ov2, hs2, hk2⟩; have HS2 := Lib.hid hs2; have HK2 := Lib.hid hk2; clear hs2 hk2))
        go_roundg (xs.length - (k + 1))
        case measure => omega
        case rel => exact ⟨k + 1, ov2, by omega, rfl, by go_num, by rw [HJ2.out]; simpa using HS2.out, (HKP.out.alloc _).trans (HM2.out.2.trans HK2.out)⟩
    · have gi : ¬ (k : Int) < (xs.length : Int) := by omega
      have e : k = xs.length := by omega
      clear hs
      go_wp2_with fail
      go_end0
      exact ⟨rfl, _, by have := HS.out; rwa [e, List.take_length] at this, HKP.out⟩
end Go.Proofs.YtedabholcldgbaaGreatDoor.Y

/- The document's own text of a form, and Write. -/
namespace Go.Proofs.YtedabholcldgbaaGreatDoor
open Go.RowKit Go.Deep

theorem itoa_any (n : Int) (h : I64 n) (w : World) (ht : Tab w.heap.size w) :
    Calls Tryz.prog 95 #[.int .i64 n] w fun e w' => e = .returned (.string ⟨(Lib.itoa n).toArray⟩) ∧ Below w.heap.size w w' :=
  (Tryz.strconv_Itoa n h.1 h.2 w (Lib.TabBelow.here ht)).mono fun e w' ⟨he, k, os, hw⟩ => ⟨he, by rw [hw]; exact Lib.below_grow _ _ (Nat.le_refl _) _ _⟩
/-- What a slice that was just laid owns. -/
theorem Buf.lit (w : World) (l : List UInt8) (cs : Array Value) (h : cs.toList = bytesV l) (n : Nat) (hn : l.length = n) (hm : n ≤ 1000000) : Buf w.heap.size w (w.alloc (.cells cs 5)) (.slice (some ⟨w.heap.size, 0, none⟩) n n) l := by
  have hs : cs.size = n * 1 := by
    have := congrArg List.length h
    simp [bytesV] at this
    omega
  have := World.ownsRow_lit (e := 5) (base := w.heap.size) (size := 1) w cs n (Nat.le_refl _) (by unfold maxLen; omega) hs
  rw [h] at this
  exact ⟨by rw [hn]; exact this, bel1 _ _, (Lib.OthersKept.refl _ _ _).alloc _, by simp⟩
theorem ret_bytes {a b : List UInt8} (h : a = b) : Ending.returned (.string ⟨a.toArray⟩) = .returned (.string ⟨b.toArray⟩) := by rw [h]
theorem esc_next0 {s : ByteArray} {k : Nat} (h : k < s.size) {x : List UInt8} (hx : escB s[k] = x) : escL (s.data.toList.take k) ++ x = escL (s.data.toList.take (k + 1)) := by
  rw [take_byte s k h, escL_snoc, hx]
theorem esc_small0 (s : ByteArray) (k : Nat) (hs : s.size ≤ 2000) : (escL (s.data.toList.take k)).length ≤ 10000 := by
  have h1 := escL_len (s.data.toList.take k)
  have h2 : (s.data.toList.take k).length ≤ s.data.toList.length := List.length_take_le' _ _
  have e : s.data.toList.length = s.size := by simp
  omega
set_option maxHeartbeats 4000000 in
set_option maxRecDepth 100000 in
theorem rtxt_any (n : Nat) : ∀ t : T, SizeOf.sizeOf t < n → ∀ w, In w t → Tab w.heap.size w → fieldsF t.form = true → szF t.form ≤ 20000 →
    Calls Tryz.prog 62 #[t.val] w fun e w' => e = .returned (.string ⟨(txF t.form).toArray⟩) ∧ Below w.heap.size w w' := by
  induction n with
  | zero => intro t h; omega
  | succ n ih =>
    intro t hn w hin htab hf hsz
    have HF := Lib.hid hf
    have HT := Lib.hid htab
    have HI := Lib.hid hin
    rw [fieldsF_eq, Bool.and_eq_true] at hf
    have hal := alone_cases hf.1
    have htx := txF_eq t.form
    simp only [T.form_kd, T.form_nn, T.form_tx] at hal htx
    by_cases k0 : t.kd = 0
    · rw [if_pos k0] at htx
      have b0 : (t.kd == 0) = true := by simpa using k0
      have HX := Lib.hid htx
      have HA := Lib.hid fun (W : World) (h2 : Tab W.heap.size W) => itoa_any t.nn hin.ok.nn W h2
      clear hal ih k0 hf htab hin htx
      go_enter Tryz.func62, Tryz.ntmps62
      go_wp2_with (go_at_call 95; refine (HA.out _ (HT.out.next (bel1 _ _))).mono ?_; rintro e w2 ⟨rfl, hB⟩; have HB := Lib.hid (up (bel1 _ _) hB); clear hB)
      go_ret
      exact ⟨ret_bytes HX.out.symm, HB.out⟩
    · rw [if_neg k0] at htx
      have b0 : (t.kd == 0) = false := by simpa using k0
      by_cases k1 : t.kd = 1
      · rw [if_pos k1] at htx
        have b1 : (t.kd == 1) = true := by simpa using k1
        have HX := Lib.hid htx
        clear hal ih k0 k1 hf htab hin htx
        go_enter Tryz.func62, Tryz.ntmps62
        go_wp2_with fail
        go_ret
        exact ⟨ret_str (by rw [HX.out]), bel1 _ _⟩
      · rw [if_neg k1] at htx
        have b1 : (t.kd == 1) = false := by simpa using k1
        by_cases k2 : t.kd = 2
        · rw [if_pos k2] at htx
          have b2 : (t.kd == 2) = true := by simpa using k2
          have hw : t.tx.size ≤ 2000 := by
            rcases hal with h | h | h | h
            · omega
            · omega
            · exact text_size h.2.2.2
            · omega
          have HX := Lib.hid htx
          have K0 := Lib.hid (Boxed.start w t)
          clear hal ih k0 k1 k2 hf htab hin htx
          go_enter Tryz.func62, Tryz.ntmps62
          go_wp2_with fail
          go_loopg [3, 4] (t.tx.size) (fun m b i wr => ∃ k : Nat, k ≤ t.tx.size ∧ m = t.tx.size - k ∧ i = .int .i64 k ∧ Buf (w.heap.size + 1) (w.alloc (.cells #[.int .i64 t.kd, .int .i64 t.nn, .string t.tx, .slice t.ad t.ks.length t.cp] 29)) wr b (escL (t.tx.data.toList.take k)))
          case atStart => exact ⟨0, by omega, rfl, rfl, by simpa [escL] using Buf.start (B := w.heap.size + 1) (w := w.alloc (.cells #[.int .i64 t.kd, .int .i64 t.nn, .string t.tx, .slice t.ad t.ks.length t.cp] 29)) (by simp)⟩
          case round =>
            obtain ⟨k, hk, rfl, rfl, hbk⟩ := hrel
            obtain ⟨c0, c1, c2, c3⟩ := Box4.cells (w := wr) (b := w.heap.size) (t := t) ((hbk.below.block _ (by omega)).trans K0.out.1)
            have HBK := Lib.hid hbk
            have hlen := esc_small0 t.tx k hw
            clear hbk
            by_cases hlt : k < t.tx.size
            · by_cases b10 : t.tx[k].toNat = 10
              · have g10 : ((t.tx[k].toNat : Int) == 10) = true := by simp; omega
                have HX := Lib.hid (esc_next0 hlt (x := [92, 110]) (by unfold escB; rw [if_neg (by omega), if_pos b10]))
                clear b10
                go_wp2_with (at_builtin; refine buf_bytes rfl _ _ 46 rfl Tryz.underlying46 rfl HBK.out [92, 110] _ (by simp [bytesV]) 2 rfl 2 _ rfl (by simp) (by omega) ?_; intro v2 w2 hb2; have HB2 := Lib.hid hb2; clear hb2)
                go_roundg (t.tx.size - (k + 1))
                case measure => omega
                case rel => exact ⟨k + 1, by omega, rfl, by go_num, by rw [← HX.out]; exact HB2.out⟩
              · have g10 : ((t.tx[k].toNat : Int) == 10) = false := by simp; omega
                by_cases b34 : t.tx[k].toNat = 34
                · have g34 : ((t.tx[k].toNat : Int) == 34) = true := by simp; omega
                  have HX := Lib.hid (esc_next0 hlt (x := [92, t.tx[k]]) (by unfold escB; rw [if_pos (.inl b34)]))
                  clear b10 b34
                  go_wp2_with (at_builtin; refine buf_bytes rfl _ _ 46 rfl Tryz.underlying46 rfl HBK.out [92, t.tx[k]] _ (by simp [bytesV]) 2 rfl 2 _ rfl (by simp) (by omega) ?_; intro v2 w2 hb2; have HB2 := Lib.hid hb2; clear hb2)
                  go_roundg (t.tx.size - (k + 1))
                  case measure => omega
                  case rel => exact ⟨k + 1, by omega, rfl, by go_num, by rw [← HX.out]; exact HB2.out⟩
                · have g34 : ((t.tx[k].toNat : Int) == 34) = false := by simp; omega
                  by_cases b92 : t.tx[k].toNat = 92
                  · have g92 : ((t.tx[k].toNat : Int) == 92) = true := by simp; omega
                    have HX := Lib.hid (esc_next0 hlt (x := [92, t.tx[k]]) (by unfold escB; rw [if_pos (.inr b92)]))
                    clear b10 b34 b92
                    go_wp2_with (at_builtin; refine buf_bytes rfl _ _ 46 rfl Tryz.underlying46 rfl HBK.out [92, t.tx[k]] _ (by simp [bytesV]) 2 rfl 2 _ rfl (by simp) (by omega) ?_; intro v2 w2 hb2; have HB2 := Lib.hid hb2; clear hb2)
                    go_roundg (t.tx.size - (k + 1))
                    case measure => omega
                    case rel => exact ⟨k + 1, by omega, rfl, by go_num, by rw [← HX.out]; exact HB2.out⟩
                  · have g92 : ((t.tx[k].toNat : Int) == 92) = false := by simp; omega
                    have HX := Lib.hid (esc_next0 hlt (x := [t.tx[k]]) (by unfold escB; rw [if_neg (by omega), if_neg b10]))
                    clear b10 b34 b92
                    go_wp2_with (at_builtin; refine buf_bytes rfl _ _ 46 rfl Tryz.underlying46 rfl HBK.out [t.tx[k]] _ (by simp [bytesV]) 1 rfl 1 _ rfl (by simp) (by omega) ?_; intro v2 w2 hb2; have HB2 := Lib.hid hb2; clear hb2)
                    go_roundg (t.tx.size - (k + 1))
                    case measure => omega
                    case rel => exact ⟨k + 1, by omega, rfl, by go_num, by rw [← HX.out]; exact HB2.out⟩
            · have he : t.tx.data.toList.take k = t.tx.data.toList := List.take_of_length_le (by simp; omega)
              rw [he] at HBK hlen
              obtain ⟨d, hd⟩ : ∃ d : ByteArray, d = ⟨(escL t.tx.data.toList).toArray⟩ := ⟨_, rfl⟩
              have hcv := conv_buf HBK.out
              rw [← hd] at hcv
              have hds : d.size ≤ 10000 := by rw [hd]; show (escL t.tx.data.toList).toArray.size ≤ 10000; simpa using hlen
              have HD := Lib.hid hd
              clear he hd
              go_wp2_with fail
              go_ret
              exact ⟨ret_str (by rw [HX.out, HD.out]; apply ByteArray.ext; simp [quoL]), (K0.out.2.trans (HBK.out.below.mono (by omega)))⟩
        · rw [if_neg k2] at htx
          have b2 : (t.kd == 2) = false := by simpa using k2
          have k3 : t.kd = 3 := by
            rcases hal with h | h | h | h
            · omega
            · omega
            · omega
            · exact h.1
          have hks : t.form.kids = t.ks.map T.form := by unfold Fm.kids; rw [T.form_kd, if_pos k3, T.form_ks]
          have hfk : ∀ x ∈ t.ks, fieldsF x.form = true := fun x hx => fieldsL_mem hf.2 (by rw [hks]; exact List.mem_map_of_mem hx)
          have hszl : szF t.form = 1 + szL (t.ks.map T.form) := by rw [szF_eq, hks]
          rw [hszl] at hsz
          have n1 := Nat.le_trans hin.ok.le hin.ok.cp
          unfold maxLen at n1
          have HFK := Lib.hid hfk
          have IH := Lib.hid ih
          obtain ⟨a, ha⟩ : ∃ a, t.ad = a := ⟨_, rfl⟩
          have HK : Hid (∀ W, Below w.heap.size w W → InL W a 0 t.ks) := Lib.hid fun W h => by rw [← ha]; exact (hin.below h).inL
          have HAD := Lib.hid ha
          have HD := Lib.hid fun (k : Nat) (h : t.ks.length ≤ k) => upTo_done [] t k h k0 k1 k2
          have HL : Hid (∀ k, k ≤ t.ks.length → (upTo [] t.ks k).length ≤ 1 + 4010 * szL ((t.ks.map T.form).take k)) := Lib.hid fun k _ => by
            have := joinB_take t.ks k hfk
            rw [← List.map_take]
            simp only [upTo, List.length_append, List.length_cons, List.length_nil]
            omega
          have HS : Hid (∀ k (h : k < t.ks.length), szL ((t.ks.map T.form).take k) + szF t.ks[k].form ≤ szL (t.ks.map T.form)) := Lib.hid fun k h => by
            have := szL_take_le (t.ks.map T.form) k (by simpa using h)
            simpa using this
          have HS2 : Hid (∀ k, szL ((t.ks.map T.form).take k) ≤ szL (t.ks.map T.form)) := Lib.hid fun k => szL_takes _ _
          have K0 := Lib.hid (Boxed.start w t)
          have KL := Lib.hid (Buf.lit (w.alloc (.cells #[.int .i64 t.kd, .int .i64 t.nn, .string t.tx, .slice t.ad t.ks.length t.cp] 29)) [40] #[.int .u8 40] (by simp [bytesV]) 1 rfl (by omega))
          rw [show (w.alloc (.cells #[.int .i64 t.kd, .int .i64 t.nn, .string t.tx, .slice t.ad t.ks.length t.cp] 29)).heap.size = w.heap.size + 1 by simp] at KL
          clear hal ih k0 k1 k2 k3 hf htab hks hfk hin htx ha hszl
          go_enter Tryz.func62, Tryz.ntmps62
          go_wp2_with fail
          go_loopg [6, 7] (t.ks.length) (fun m b i wr => ∃ k : Nat, k ≤ t.ks.length ∧ m = t.ks.length - k ∧ i = .int .i64 k ∧ Buf (w.heap.size + 1) (w.alloc (.cells #[.int .i64 t.kd, .int .i64 t.nn, .string t.tx, .slice t.ad t.ks.length t.cp] 29)) wr b (upTo [] t.ks k))
          case atStart => exact ⟨0, by omega, rfl, rfl, by simpa [upTo, joinB] using KL.out⟩
          case round =>
            obtain ⟨k, hk, rfl, rfl, hbk⟩ := hrel
            have hbw : Below w.heap.size w wr := K0.out.2.trans (hbk.below.mono (by omega))
            obtain ⟨c0, c1, c2, c3⟩ := box_cells (W := wr) (K := w.heap.size) (t := t) ((hbk.below.block _ (by omega)).trans K0.out.1) HAD.out
            have HBW := Lib.hid hbw
            have HBK := Lib.hid hbk
            have hlk := HL.out k hk
            have hs2 := HS2.out k
            clear hbk hbw
            by_cases hlt : k < t.ks.length
            · have hsk := HS.out k hlt
              obtain ⟨⟨b, o, rfl, hx0, hx1, hx2, hx3⟩, hink⟩ := (HK.out _ HBW.out).at k hlt
              have HX := Lib.hid (upTo_next [] t.ks k hlt)
              have hmk := List.getElem_mem hlt
              have HR := Lib.hid fun (W : World) (h : Below w.heap.size w W) => IH.out t.ks[k] (by have := T.kid_lt hmk; omega) W ((HK.out _ h).at k hlt).2 (Tab.mono (HT.out.on h) h.size) (HFK.out _ hmk) (by omega)
              have hxl := txF_len (HFK.out _ hmk)
              obtain ⟨d, hd⟩ : ∃ d : ByteArray, d = ⟨(txF t.ks[k].form).toArray⟩ := ⟨_, rfl⟩
              have hdl : d.data.toList = txF t.ks[k].form := by rw [hd]
              have hds : d.size ≤ 4010 * szF t.ks[k].form := by
                have e : d.size = d.data.toList.length := by simp
                rw [e, hdl]; omega
              rw [← hd] at HR
              have HDL := Lib.hid hdl
              have lb : b < wr.heap.size := World.block_lt_of_cell? _ _ hx0
              clear hink hd hdl hxl
              by_cases hk0 : k = 0
              · subst hk0
                rw [if_pos rfl] at HX
                simp only [List.nil_append] at HX
                simp only [Nat.zero_mul, Nat.add_zero] at hx0 hx1 hx2 hx3
                go_wp2_with (first
                  | (go_at_call 62; refine (HR.out _ HBW.out).mono ?_; rintro e w2 ⟨rfl, hB⟩; have HB := Lib.hid hB; clear hB)
                  | (at_builtin; refine buf_text rfl _ _ 46 9 rfl Tryz.underlying46 Tryz.underlying9 rfl (HBK.out.next HB.out) d rfl (by omega) ?_; intro v3 w3 hb3; have HB3 := Lib.hid hb3; clear hb3))
                go_roundg (t.ks.length - 1)
                case measure => omega
                case rel => exact ⟨1, by omega, rfl, by go_num, by rw [HX.out, ← HDL.out]; exact HB3.out⟩
              · rw [if_neg hk0] at HX
                have hkp : (0 : Int) < (k : Int) := by omega
                go_wp2_with (first
                  | (at_builtin; refine buf_bytes rfl (.tmp 63) (.tmp 64) 46 rfl Tryz.underlying46 rfl HBK.out [32] _ (by simp [bytesV]) 1 rfl 1 _ rfl (by simp) (by omega) ?_; intro v1 w1 hb1; have HBM := Lib.hid hb1; have HBW1 := Lib.hid (show Below w.heap.size w w1 from K0.out.2.trans (hb1.below.mono (by omega))); obtain ⟨c0, c1, c2, c3⟩ := box_cells (W := w1) (K := w.heap.size) (t := t) ((hb1.below.block _ (by omega)).trans K0.out.1) HAD.out; obtain ⟨⟨b', o', hbo, y0, y1, y2, y3⟩, _⟩ := (HK.out _ HBW1.out).at k hlt; injection hbo with hbo; injection hbo with hb' ho' _; subst hb' ho'; clear hb1)
                  | (go_at_call 62; refine (HR.out _ HBW1.out).mono ?_; rintro e w2 ⟨rfl, hB⟩; have HB := Lib.hid hB; clear hB)
                  | (at_builtin; refine buf_text rfl (.tmp 66) (.tmp 72) 46 9 rfl Tryz.underlying46 Tryz.underlying9 rfl (HBM.out.next HB.out) d rfl (by simp only [List.length_append, List.length_cons, List.length_nil]; omega) ?_; intro v3 w3 hb3; have HB3 := Lib.hid hb3; clear hb3))
                go_roundg (t.ks.length - (k + 1))
                case measure => omega
                case rel => exact ⟨k + 1, by omega, rfl, by go_num, by rw [HX.out, ← List.append_assoc, ← HDL.out]; exact HB3.out⟩
            · have HX := Lib.hid (HD.out k (by omega))
              go_wp2_with (at_builtin; refine buf_bytes rfl _ _ 46 rfl Tryz.underlying46 rfl HBK.out [41] _ (by simp [bytesV]) 1 rfl 1 _ rfl (by simp) (by omega) ?_; intro v2 w2 hb2; have hcv := conv_buf hb2; have HB2 := Lib.hid hb2; clear hb2)
              go_ret
              exact ⟨ret_bytes (by rw [HX.out]; rfl), K0.out.2.trans (HB2.out.below.mono (by omega))⟩
theorem rtxt_T (t : T) (w : World) (hin : In w t) (ht : Tab w.heap.size w) (hf : fieldsF t.form = true) (hs : szF t.form ≤ 20000) :
    Calls Tryz.prog 62 #[t.val] w fun e w' => e = .returned (.string ⟨(txF t.form).toArray⟩) ∧ Below w.heap.size w w' := rtxt_any _ t (Nat.lt_succ_self _) w hin ht hf hs
set_option maxHeartbeats 1000000 in
theorem rwrite_any (t : T) (w : World) (hin : In w t) (hb : szF t.form ≤ 4611686018427387903) (ht : Tab w.heap.size w) :
    Calls Tryz.prog 32 #[t.val] w fun e w' => e = .returned (.string ⟨(wrF t.form).toArray⟩) ∧ Below w.heap.size w w' := by
  have HV := Lib.hid fun W (h : In W t) => rvalid_any t W h hb
  cases hv : validF t.form with
  | false =>
    rw [wrF_no hv]
    rw [hv] at HV
    clear hv
    go_enter Tryz.func32, Tryz.ntmps32
    go_wp2_with (go_at_call 46; refine (HV.out _ (hin.alloc _)).mono ?_; rintro e w2 ⟨rfl, hB⟩)
    go_ret
    exact ⟨rfl, up (bel1 _ _) hB⟩
  | true =>
    rw [wrF_yes hv]
    obtain ⟨h1, _, h3⟩ := valid_parts hv
    have HA := Lib.hid fun W (h : In W t) (h2 : Tab W.heap.size W) => rtxt_T t W h h2 h3 h1
    rw [hv] at HV
    have HI := Lib.hid hin
    have HT := Lib.hid ht
    clear hv h3 hin ht
    go_enter Tryz.func32, Tryz.ntmps32
    go_wp2_with (first
      | (go_at_call 46; refine (HV.out _ (HI.out.alloc _)).mono ?_; rintro e w2 ⟨rfl, hB⟩; obtain ⟨c0, c1, c2, c3⟩ := Box4.cells (w := w2) (b := w.heap.size) (t := t) ((hB.block _ (by simp)).trans (heap_alloc_new w _)); have HB := Lib.hid (up (bel1 _ _) hB); clear hB)
      | (go_at_call 62; refine (HA.out _ (HI.out.below HB.out) (HT.out.next HB.out)).mono ?_; rintro e w3 ⟨rfl, hB⟩; have HB3 := Lib.hid (up HB.out hB); clear hB))
    go_ret
    exact ⟨rfl, HB3.out⟩
end Go.Proofs.YtedabholcldgbaaGreatDoor

/- The document's own lines of a form: blanks and lines. -/
namespace Go.Proofs.YtedabholcldgbaaGreatDoor.Y
open Go.RowKit Go.Deep

theorem ba_list {d : ByteArray} {l : List UInt8} (h : d.data.toList = l) : d = ⟨l.toArray⟩ := by
  subst h; cases d; rfl
theorem ba_size {d : ByteArray} {l : List UInt8} (h : d.data.toList = l) : d.size = l.length := by rw [← h]; simp
theorem ba_app (a b : ByteArray) : (a ++ b).data.toList = a.data.toList ++ b.data.toList := by
  simp [ByteArray.data_append]
theorem blk_next (k : Nat) : blk (k + 1) = blk k ++ [32] := by unfold blk; rw [List.replicate_succ']
set_option maxHeartbeats 1000000 in
theorem blanks_any (n : Nat) (hn : n ≤ 1000) (w : World) :
    Calls Tryz.prog 75 #[.int .i64 n] w fun e w' => e = .returned (.string ⟨(blk n).toArray⟩) ∧ w = w' := by
  have hn0 : (n : Int) ≤ 1000 := by omega
  go_enter Tryz.func75, Tryz.ntmps75
  go_wp2_with fail
  go_loopg [3, 4] (n) (fun m s i wr => ∃ (k : Nat) (d : ByteArray), k ≤ n ∧ m = n - k ∧ i = .int .i64 k ∧ s = .string d ∧ d.data.toList = blk k ∧ w = wr)
  case atStart => exact ⟨0, ⟨#[]⟩, by omega, rfl, rfl, rfl, rfl, rfl⟩
  case round =>
    obtain ⟨k, d, hk, rfl, rfl, rfl, hd, rfl⟩ := hrel
    have hz : d.size ≤ 1000 := by rw [ba_size hd]; simp [blk]; omega
    have HD := Lib.hid hd
    clear hd
    by_cases hlt : k < n
    · have HN : Hid ((d ++ ⟨#[32]⟩).data.toList = blk (k + 1)) := Lib.hid (by rw [ba_app, HD.out, blk_next])
      go_wp2_with fail
      go_roundg (n - (k + 1))
      case measure => omega
      case rel => exact ⟨k + 1, _, by omega, rfl, by go_num, rfl, HN.out, rfl⟩
    · have HE : Hid (d = ⟨(blk n).toArray⟩) := Lib.hid (by rw [show n = k by omega]; exact ba_list HD.out)
      go_wp2_with fail
      go_ret
      exact ⟨by rw [HE.out]; rfl, rfl⟩

/-- A text as a result. -/
def StrEnd (w w' : World) (l : List UInt8) (e : Ending) : Prop := ∃ d : ByteArray, e = .returned (.string d) ∧ d.data.toList = l ∧ Below w.heap.size w w'
theorem strEnd_of {w w' : World} {l : List UInt8} {e : Ending} (h : e = .returned (.string ⟨l.toArray⟩) ∧ Below w.heap.size w w') : StrEnd w w' l e := ⟨_, h.1, rfl, h.2⟩
theorem kd_word {f : Fm} (_ : fieldsF f = true) (h1 : f.kd = 1) : txF f = f.tx.data.toList := by rw [txF_eq, if_neg (by omega), if_pos h1]
/-- The three fronts. -/
theorem front_cases {ks : List Fm} (hne : ks ≠ []) : (∃ a r, ks = a :: r ∧ a.kd ≠ 1 ∧ frN ks = 0) ∨ (∃ a, ks = [a] ∧ a.kd = 1 ∧ frN ks = 1) ∨ (∃ a b r, ks = a :: b :: r ∧ a.kd = 1 ∧ b.kd = 3 ∧ frN ks = 1) ∨ (∃ a b r, ks = a :: b :: r ∧ a.kd = 1 ∧ b.kd ≠ 3 ∧ frN ks = 2) := by
  cases ks with
  | nil => exact absurd rfl hne
  | cons a r =>
    by_cases h1 : a.kd = 1
    · cases r with
      | nil => exact .inr (.inl ⟨a, rfl, h1, by simp [frN, h1]⟩)
      | cons b r =>
        by_cases h3 : b.kd = 3
        · exact .inr (.inr (.inl ⟨a, b, r, rfl, h1, h3, by simp [frN, h1, h3]⟩))
        · exact .inr (.inr (.inr ⟨a, b, r, rfl, h1, h3, by simp [frN, h1, h3]⟩))
    · exact .inl ⟨a, r, rfl, h1, by simp [frN, h1]⟩
/-- The lines ahead of the loop over the Kids behind the front. -/
theorem lin_start {f : Fm} {c w k : Nat} {d : List UInt8} (hx : ¬ (c + (txF f).length + k ≤ w ∨ f.kd ≠ 3 ∨ f.ks = [])) (hd : d = 40 :: joinB ((f.ks.take (frN f.ks)).map txF)) :
    linF f c w k = d ++ (linL (f.ks.drop (frN f.ks)) (frN f.ks) (frN f.ks) (c + indN f.ks) w k ++ [41]) := by
  rw [linF_eq, if_neg hx, hd, linL_skip (frN f.ks) f.ks (frN f.ks) 0 _ _ _ (by omega) (frN_le _).1, Nat.zero_add]
  simp

/-- The loop over the Kids. -/
structure LinRel (w0 wr : World) (t : T) (R : List UInt8) (fr inn w k i : Nat) (d : ByteArray) : Prop where
  ge : fr ≤ i
  le : i ≤ t.ks.length
  eq : R = d.data.toList ++ (linL ((t.ks.map T.form).drop i) fr i inn w k ++ [41])
  box : Boxed w0 wr t
theorem LinRel.size {w0 wr : World} {t : T} {R : List UInt8} {fr inn w k i : Nat} {d : ByteArray} (h : LinRel w0 wr t R fr inn w k i d) : d.size ≤ R.length := by
  have := congrArg List.length h.eq
  rw [List.length_append] at this
  have e : d.size = d.data.toList.length := by simp
  omega
theorem LinRel.next {w0 wr w2 : World} {t : T} {R : List UInt8} {fr inn w k i : Nat} {d d' : ByteArray} (h : LinRel w0 wr t R fr inn w k i d) (hi : i < t.ks.length) (hb : Below wr.heap.size wr w2)
    (hd : d'.data.toList = d.data.toList ++ ((if 0 < i then 10 :: blk inn else []) ++ linF t.ks[i].form inn w (if i + 1 = t.ks.length then k + 1 else 0))) : LinRel w0 w2 t R fr inn w k (i + 1) d' := by
  refine ⟨by have := h.ge; omega, hi, ?_, h.box.next hb⟩
  rw [h.eq, linL_next (by simpa using hi) h.ge, hd]
  simp
theorem LinRel.fin {w0 wr : World} {t : T} {R : List UInt8} {fr inn w k i : Nat} {d : ByteArray} (h : LinRel w0 wr t R fr inn w k i d) (hi : t.ks.length ≤ i) : (d ++ ⟨#[41]⟩).data.toList = R := by
  rw [h.eq, linL_end (by simpa using hi), ba_app]
  rfl

set_option linter.unusedSimpArgs false in
set_option maxHeartbeats 8000000 in
set_option maxRecDepth 100000 in
theorem rlin_any (n : Nat) : ∀ t : T, SizeOf.sizeOf t < n → ∀ (c wd k : Nat) (w : World), In w t → validF t.form = true → c + 2 * dpF t.form ≤ 400 → wd ≤ 200 → k + dpF t.form ≤ 1000 → Tab w.heap.size w →
    Calls Tryz.prog 47 #[t.val, .int .i64 c, .int .i64 wd, .int .i64 k] w fun e w' => StrEnd w w' (linF t.form c wd k) e := by
  induction n with
  | zero => intro t h; omega
  | succ n ih =>
    intro t hn c wd k w hin hv hc hwd hk htab
    have hvp := valid_parts hv
    have HW := Lib.hid ((rwrite_any t (w.alloc (.cells #[.int .i64 t.kd, .int .i64 t.nn, .string t.tx, .slice t.ad t.ks.length t.cp] 29)) (hin.alloc _) (by omega) (htab.next (bel1 _ _))).mono fun e w' hh => (by rw [wrF_yes hv] at hh; exact strEnd_of hh))
    obtain ⟨R, hR⟩ : ∃ R, linF t.form c wd k = R := ⟨_, rfl⟩
    have hRl := linF_len hv c wd k hc
    rw [hR] at hRl ⊢
    have K0 := Lib.hid (Boxed.start w t)
    have hsl : (txF t.form).length ≤ 80200000 := by have := txF_len hvp.2.2; omega
    have n1 := Nat.le_trans hin.ok.le hin.ok.cp
    unfold maxLen at n1
    obtain ⟨a, ha⟩ : ∃ a, t.ad = a := ⟨_, rfl⟩
    have HAD := Lib.hid ha
    have cc0 : (0 : Int) ≤ (c : Int) := by omega
    have cc1 : (c : Int) ≤ 400 := by omega
    have cc2 : (wd : Int) ≤ 200 := by omega
    have cc3 : (k : Int) ≤ 1000 := by omega
    by_cases h1 : c + (txF t.form).length + k ≤ wd
    · have HR : Hid (txF t.form = R) := Lib.hid (by rw [← hR, linF_eq, if_pos (.inl h1)])
      clear hR ih ha
      go_enter Tryz.func47, Tryz.ntmps47
      go_wp2_with (go_at_call 32; refine HW.out.mono ?_; rintro e w2 ⟨d, rfl, hd, hB⟩; have hdz := ba_size hd; have g1 : (c : Int) + (d.size : Int) + (k : Int) ≤ (wd : Int) := (by omega); have g2 : (d.size : Int) ≤ 80200000 := (by omega); have HB := Lib.hid hB; have HD := Lib.hid hd; clear hd hB hdz)
      go_ret
      exact ⟨_, rfl, by rw [HD.out, HR.out], up (bel1 _ _) HB.out⟩
    · by_cases h3 : t.kd = 3
      · have b3 : (t.kd != 3) = false := by simpa using h3
        by_cases he : t.ks = []
        · have HR : Hid (txF t.form = R) := Lib.hid (by rw [← hR, linF_eq, if_pos (.inr (.inr (by rw [T.form_ks, he]; rfl)))])
          have HL0 : Hid (t.ks.length = 0) := Lib.hid (by rw [he]; rfl)
          clear hR ih ha he h3
          go_enter Tryz.func47, Tryz.ntmps47
          go_wp2_with (go_at_call 32; (with_reducible refine HW.out.mono ?_); rintro e w2 ⟨d, rfl, hd, hB⟩; have hdz := ba_size hd; have g1 : ¬ (c : Int) + (d.size : Int) + (k : Int) ≤ (wd : Int) := (by omega); have g2 : (d.size : Int) ≤ 80200000 := (by omega); obtain ⟨c0, c1, c2, c3⟩ := Box4.cells (w := w2) (b := w.heap.size) (t := t) ((K0.out.next hB).1); rw [HL0.out] at c3; have HB := Lib.hid hB; have HD := Lib.hid hd; clear hd hB hdz)
          go_ret
          exact ⟨_, rfl, by rw [HD.out, HR.out], up (bel1 _ _) HB.out⟩
        · have hpos : 0 < t.ks.length := List.length_pos_iff.2 he
          have hx : ¬ (c + (txF t.form).length + k ≤ wd ∨ t.form.kd ≠ 3 ∨ t.form.ks = []) := by
            rw [T.form_kd, T.form_ks]
            intro h
            rcases h with h | h | h
            · exact h1 h
            · exact h h3
            · exact he (List.map_eq_nil_iff.1 h)
          have hkv : ∀ i (h : i < t.ks.length), validF t.ks[i].form = true ∧ szF t.ks[i].form < szF t.form ∧ dpF t.ks[i].form < dpF t.form := fun i h =>
            valid_kid hv (by rw [T.form_kd]; exact h3) (by rw [T.form_ks]; exact List.mem_map_of_mem (List.getElem_mem h))
          have HK : Hid (∀ W, Below w.heap.size w W → InL W a 0 t.ks) := Lib.hid fun W h => by rw [← ha]; exact (hin.below h).inL
          have HST : Hid (∀ (d : ByteArray) wr, d.data.toList = 40 :: joinB ((t.form.ks.take (frN t.form.ks)).map txF) → Boxed w wr t → LinRel w wr t R (frN t.form.ks) (c + indN t.form.ks) wd k (frN t.form.ks) d) := Lib.hid fun d wr hd hb => by
            refine ⟨Nat.le_refl _, Nat.le_trans (frN_le t.form.ks).1 (by rw [T.form_ks, List.length_map]; exact Nat.le_refl _), ?_, hb⟩
            rw [← hR, lin_start hx hd, T.form_ks]
          have HIH : Hid (∀ i (h : i < t.ks.length) (x y : Int) (kk : Nat) W, x = ((c + indN t.form.ks : Nat) : Int) → y = (kk : Int) → kk ≤ k + 1 → Below w.heap.size w W → Calls Tryz.prog 47 #[t.ks[i].val, .int .i64 x, .int .i64 wd, .int .i64 y] W fun e w' => StrEnd W w' (linF t.ks[i].form (c + indN t.form.ks) wd kk) e) :=
            Lib.hid fun i h x y kk W ex ey hkk hB => by
              subst ex ey
              have hq := hkv i h
              have hind : indN t.form.ks ≤ 2 := by unfold indN; split <;> omega
              exact ih t.ks[i] (by have := T.kid_lt (List.getElem_mem h); omega) _ wd kk W ((HK.out W hB).at i h).2 hq.1 (by omega) hwd (by omega) (Tab.mono (htab.on hB) hB.size)
          have HW2 : Hid (∀ i (h : i < t.ks.length) W, Below w.heap.size w W → Calls Tryz.prog 32 #[t.ks[i].val] W fun e w' => StrEnd W w' (txF t.ks[i].form) e) := Lib.hid fun i h W hB => by
            have hq := hkv i h
            exact (rwrite_any t.ks[i] W ((HK.out W hB).at i h).2 (by omega) (Tab.mono (htab.on hB) hB.size)).mono fun e w' hh => (by rw [wrF_yes hq.1] at hh; exact strEnd_of hh)
          have HKL : Hid (∀ i (h : i < t.ks.length), (txF t.ks[i].form).length ≤ 80200000 ∧ (t.ks[i].kd = 1 → txF t.ks[i].form = t.ks[i].tx.data.toList)) := Lib.hid fun i h => by
            have hq := valid_parts (hkv i h).1
            have := txF_len hq.2.2
            exact ⟨by omega, fun h1 => by have := kd_word hq.2.2 (by rw [T.form_kd]; exact h1); rw [T.form_tx] at this; exact this⟩
          have hfr := front_cases (ks := t.form.ks) (by rw [T.form_ks]; intro e; exact he (List.map_eq_nil_iff.1 e))
          obtain ⟨b, o, rfl⟩ : ∃ b o, a = some ⟨b, o, none⟩ := by
            obtain ⟨⟨b, o, e, _⟩, _⟩ := (HK.out w (Below.refl _ _)).at 0 hpos
            exact ⟨b, o, e⟩
          have HKC : Hid (∀ W, Below w.heap.size w W → ∀ i (h : i < t.ks.length), Cells4 W b (o + i * 4) t.ks[i] ∧ b < W.heap.size) := Lib.hid fun W hB i h => by
            obtain ⟨⟨b', o', e, hc⟩, _⟩ := (HK.out W hB).at i h
            injection e with e
            injection e with e1 e2 e3
            subst e1 e2
            exact ⟨hc, World.block_lt_of_cell? _ _ hc.1⟩
          have HLL : Hid (∀ i (h : i < t.ks.length) kk, (linF t.ks[i].form (c + indN t.form.ks) wd kk).length ≤ 96600000) := Lib.hid fun i h kk => by
            have hq := hkv i h
            have hind : indN t.form.ks ≤ 2 := by unfold indN; split <;> omega
            exact linF_len hq.1 _ _ _ (by omega)
          have hms : t.form.ks = t.ks.map T.form := T.form_ks t
          clear hx hkv ha
          have b0 : ((t.ks.length : Int) == 0) = false := by simp; exact he
          clear he h3 hv hvp ih hR
          rcases hfr with ⟨fa, r, hks, hk1, hfn⟩ | ⟨fa, hks, hk1, hfn⟩ | ⟨fa, fb, r, hks, hk1, hk3, hfn⟩ | ⟨fa, fb, r, hks, hk1, hk3, hfn⟩
          · have e0 : t.ks[0].form = fa := by
              have h := hms.symm.trans hks
              have := congrArg (fun l => l[0]?) h
              simpa [List.getElem?_eq_getElem hpos] using this
            have ek0 : t.ks[0].kd = fa.kd := by rw [← e0, T.form_kd]
            have g0k : (t.ks[0].kd == 1) = false := by rw [ek0]; simpa using hk1
            have HJ : Hid (joinB ((t.form.ks.take 0).map txF) = []) := Lib.hid (by simp [joinB])
            obtain ⟨db, hdb⟩ : ∃ db : ByteArray, db = ⟨(blk (c + 1)).toArray⟩ := ⟨_, rfl⟩
            have hdb9 : db.size ≤ 1000 := by
              rw [hdb]
              show (blk (c + 1)).toArray.size ≤ 1000
              simp [blk]; omega
            have HDB : Hid (db.data.toList = blk (c + 1)) := Lib.hid (by rw [hdb])
            have HBL : Hid (∀ W, Calls Tryz.prog 75 #[.int .i64 ((c : Int) + 1)] W fun e w' => e = .returned (.string db) ∧ W = w') := Lib.hid fun W => by
              have := blanks_any (c + 1) (by omega) W
              rw [← hdb] at this
              simpa using this
            have hiN : indN t.form.ks = 1 := by unfold indN; rw [hfn]; rfl
            rw [hfn] at HST
            rw [hiN] at HST HIH HLL
            clear hdb hiN hfn
            clear e0 ek0 hks hk1 hms
            go_enter Tryz.func47, Tryz.ntmps47
            go_wp2_with (go_at_call 32; (with_reducible refine HW.out.mono ?_); rintro e w2 ⟨d, rfl, hd, hB⟩; have hdz := ba_size hd; have g1 : ¬ (c : Int) + (d.size : Int) + (k : Int) ≤ (wd : Int) := (by omega); have g2 : (d.size : Int) ≤ 80200000 := (by omega); obtain ⟨c0, c1, c2, c3⟩ := box_cells (K0.out.next hB).1 HAD.out; obtain ⟨⟨x0, x1, x2, x3⟩, lb⟩ := HKC.out w2 (up (bel1 _ _) hB) 0 hpos; simp only [Nat.zero_mul, Nat.add_zero] at x0 x1 x2 x3; have KB := Lib.hid (K0.out.next hB); clear hd hB hdz)
            go_loopg [10, 13] (t.ks.length - 0) (fun m u i wr => ∃ (i0 : Nat) (d : ByteArray), m = t.ks.length - i0 ∧ i = .int .i64 i0 ∧ u = .string d ∧ LinRel w wr t R 0 (c + 1) wd k i0 d)
            case atStart => exact ⟨0, _, rfl, rfl, rfl, HST.out _ _ (by rw [HJ.out]) KB.out⟩
            case round =>
              obtain ⟨i, d0, rfl, rfl, rfl, hrl⟩ := hrel
              obtain ⟨c0, c1, c2, c3⟩ := box_cells hrl.box.1 HAD.out
              have hdz := hrl.size
              have hil := hrl.le
              have HRL := Lib.hid hrl
              clear hrl
              by_cases hlt : i < t.ks.length
              · obtain ⟨⟨x0, x1, x2, x3⟩, lb⟩ := HKC.out _ HRL.out.box.2 i hlt
                have gi : (i : Int) < (t.ks.length : Int) := by omega
                have gi2 : (0 : Int) ≤ (i : Int) := by omega
                by_cases hl : i + 1 = t.ks.length
                · have g1 : ((i : Int) + 1 == (t.ks.length : Int)) = true := by simp; omega
                  have HC := Lib.hid fun W hB => HIH.out i hlt ((c : Int) + 1) ((k : Int) + 1) (k + 1) W (by simp) (by simp) (Nat.le_refl _) hB
                  by_cases h0 : 0 < i
                  · have g0 : (0 : Int) < (i : Int) := by omega
                    have HNX : Hid (∀ (d' : ByteArray) w2, Below _ _ w2 → d'.data.toList = d0.data.toList ++ ((10 :: blk (c + 1)) ++ linF t.ks[i].form (c + 1) wd (k + 1)) → LinRel w w2 t R 0 (c + 1) wd k (i + 1) d') := Lib.hid fun d' w2 hb hd => HRL.out.next hlt hb (by rw [if_pos h0, if_pos hl]; exact hd)
                    clear hl h0
                    go_wp2_with (first
                      | (go_at_call 75; refine (HBL.out _).mono ?_; rintro e w5 ⟨rfl, rfl⟩)
                      | (go_at_call 47; refine (HC.out _ HRL.out.box.2).mono ?_; rintro e w6 ⟨dk, rfl, hdk, hB⟩; have hdkz := ba_size hdk; have hdk9 : dk.size ≤ 96600000 := (by rw [ba_size hdk]; exact HLL.out i hlt _); have HB := Lib.hid hB; have HDK := Lib.hid hdk; clear hB hdk))
                    go_roundg (t.ks.length - (i + 1))
                    case measure => omega
                    case rel => exact ⟨i + 1, _, rfl, by go_num, rfl, HNX.out _ _ HB.out (by rw [ba_app, ba_app, ba_app, HDB.out, HDK.out]; simp)⟩
                  · have hi0 : i = 0 := by omega
                    have g0 : ¬ (0 : Int) < (i : Int) := by omega
                    have HNX : Hid (∀ (d' : ByteArray) w2, Below _ _ w2 → d'.data.toList = d0.data.toList ++ linF t.ks[i].form (c + 1) wd (k + 1) → LinRel w w2 t R 0 (c + 1) wd k (i + 1) d') := Lib.hid fun d' w2 hb hd => HRL.out.next hlt hb (by rw [if_neg (by omega), if_pos hl]; exact hd)
                    clear hl h0 hi0
                    go_wp2_with (first
                      | (go_at_call 47; refine (HC.out _ HRL.out.box.2).mono ?_; rintro e w6 ⟨dk, rfl, hdk, hB⟩; have hdkz := ba_size hdk; have hdk9 : dk.size ≤ 96600000 := (by rw [ba_size hdk]; exact HLL.out i hlt _); have HB := Lib.hid hB; have HDK := Lib.hid hdk; clear hB hdk))
                    go_roundg (t.ks.length - (i + 1))
                    case measure => omega
                    case rel => exact ⟨i + 1, _, rfl, by go_num, rfl, HNX.out _ _ HB.out (by rw [ba_app, HDK.out])⟩
                · have g1 : ((i : Int) + 1 == (t.ks.length : Int)) = false := by simp; omega
                  have HC := Lib.hid fun W hB => HIH.out i hlt ((c : Int) + 1) 0 0 W (by simp) rfl (Nat.zero_le _) hB
                  by_cases h0 : 0 < i
                  · have g0 : (0 : Int) < (i : Int) := by omega
                    have HNX : Hid (∀ (d' : ByteArray) w2, Below _ _ w2 → d'.data.toList = d0.data.toList ++ ((10 :: blk (c + 1)) ++ linF t.ks[i].form (c + 1) wd 0) → LinRel w w2 t R 0 (c + 1) wd k (i + 1) d') := Lib.hid fun d' w2 hb hd => HRL.out.next hlt hb (by rw [if_pos h0, if_neg hl]; exact hd)
                    clear hl h0
                    go_wp2_with (first
                      | (go_at_call 75; refine (HBL.out _).mono ?_; rintro e w5 ⟨rfl, rfl⟩)
                      | (go_at_call 47; refine (HC.out _ HRL.out.box.2).mono ?_; rintro e w6 ⟨dk, rfl, hdk, hB⟩; have hdkz := ba_size hdk; have hdk9 : dk.size ≤ 96600000 := (by rw [ba_size hdk]; exact HLL.out i hlt _); have HB := Lib.hid hB; have HDK := Lib.hid hdk; clear hB hdk))
                    go_roundg (t.ks.length - (i + 1))
                    case measure => omega
                    case rel => exact ⟨i + 1, _, rfl, by go_num, rfl, HNX.out _ _ HB.out (by rw [ba_app, ba_app, ba_app, HDB.out, HDK.out]; simp)⟩
                  · have hi0 : i = 0 := by omega
                    have g0 : ¬ (0 : Int) < (i : Int) := by omega
                    have HNX : Hid (∀ (d' : ByteArray) w2, Below _ _ w2 → d'.data.toList = d0.data.toList ++ linF t.ks[i].form (c + 1) wd 0 → LinRel w w2 t R 0 (c + 1) wd k (i + 1) d') := Lib.hid fun d' w2 hb hd => HRL.out.next hlt hb (by rw [if_neg (by omega), if_neg hl]; exact hd)
                    clear hl h0 hi0
                    go_wp2_with (first
                      | (go_at_call 47; refine (HC.out _ HRL.out.box.2).mono ?_; rintro e w6 ⟨dk, rfl, hdk, hB⟩; have hdkz := ba_size hdk; have hdk9 : dk.size ≤ 96600000 := (by rw [ba_size hdk]; exact HLL.out i hlt _); have HB := Lib.hid hB; have HDK := Lib.hid hdk; clear hB hdk))
                    go_roundg (t.ks.length - (i + 1))
                    case measure => omega
                    case rel => exact ⟨i + 1, _, rfl, by go_num, rfl, HNX.out _ _ HB.out (by rw [ba_app, HDK.out])⟩
              · have gi : ¬ (i : Int) < (t.ks.length : Int) := by omega
                have HF := Lib.hid (HRL.out.fin (by omega))
                go_wp2_with fail
                go_ret
                exact ⟨_, rfl, HF.out, HRL.out.box.2⟩
          · have e0 : t.ks[0].form = fa := by
              have h := hms.symm.trans hks
              have := congrArg (fun l => l[0]?) h
              simpa [List.getElem?_eq_getElem hpos] using this
            have ek0 : t.ks[0].kd = fa.kd := by rw [← e0, T.form_kd]
            have g0k : (t.ks[0].kd == 1) = true := by rw [ek0, hk1]; rfl
            have hk0 := HKL.out 0 hpos
            have hw0 : txF t.ks[0].form = t.ks[0].tx.data.toList := hk0.2 (by rw [ek0, hk1])
            have hw9 : t.ks[0].tx.size ≤ 80200000 := by have h1 := hk0.1; rw [hw0] at h1; simpa using h1
            have hl1 : t.ks.length = 1 := by have h := congrArg List.length (hms.symm.trans hks); simpa using h
            have g2l : ¬ (1 : Int) < (t.ks.length : Int) := by omega
            have HJ : Hid (joinB ((t.form.ks.take 1).map txF) = t.ks[0].tx.data.toList) := Lib.hid (by rw [hks, ← hw0, e0]; simp [joinB])
            obtain ⟨db, hdb⟩ : ∃ db : ByteArray, db = ⟨(blk (c + 2)).toArray⟩ := ⟨_, rfl⟩
            have hdb9 : db.size ≤ 1000 := by
              rw [hdb]
              show (blk (c + 2)).toArray.size ≤ 1000
              simp [blk]; omega
            have HDB : Hid (db.data.toList = blk (c + 2)) := Lib.hid (by rw [hdb])
            have HBL : Hid (∀ W, Calls Tryz.prog 75 #[.int .i64 ((c : Int) + 2)] W fun e w' => e = .returned (.string db) ∧ W = w') := Lib.hid fun W => by
              have := blanks_any (c + 2) (by omega) W
              rw [← hdb] at this
              simpa using this
            have hiN : indN t.form.ks = 2 := by unfold indN; rw [hfn]; rfl
            rw [hfn] at HST
            rw [hiN] at HST HIH HLL
            clear hdb hiN hfn
            have HL1 := Lib.hid hl1
            clear e0 ek0 hks hk1 hms hk0 hw0 hl1
            go_enter Tryz.func47, Tryz.ntmps47
            go_wp2_with (go_at_call 32; (with_reducible refine HW.out.mono ?_); rintro e w2 ⟨d, rfl, hd, hB⟩; have hdz := ba_size hd; have g1 : ¬ (c : Int) + (d.size : Int) + (k : Int) ≤ (wd : Int) := (by omega); have g2 : (d.size : Int) ≤ 80200000 := (by omega); obtain ⟨c0, c1, c2, c3⟩ := box_cells (K0.out.next hB).1 HAD.out; obtain ⟨⟨x0, x1, x2, x3⟩, lb⟩ := HKC.out w2 (up (bel1 _ _) hB) 0 hpos; simp only [Nat.zero_mul, Nat.add_zero] at x0 x1 x2 x3; have KB := Lib.hid (K0.out.next hB); clear hd hB hdz)
            go_loopg [10, 13] (t.ks.length - 1) (fun m u i wr => ∃ (i0 : Nat) (d : ByteArray), m = t.ks.length - i0 ∧ i = .int .i64 i0 ∧ u = .string d ∧ LinRel w wr t R 1 (c + 2) wd k i0 d)
            case atStart => exact ⟨1, _, rfl, rfl, rfl, HST.out _ _ (by rw [HJ.out, ba_app]; rfl) KB.out⟩
            case round =>
              obtain ⟨i, d0, rfl, rfl, rfl, hrl⟩ := hrel
              obtain ⟨c0, c1, c2, c3⟩ := box_cells hrl.box.1 HAD.out
              have hdz := hrl.size
              have hil := hrl.le
              have HRL := Lib.hid hrl
              clear hrl
              by_cases hlt : i < t.ks.length
              · exact absurd HRL.out.ge (by have := HL1.out; omega)
              · have gi : ¬ (i : Int) < (t.ks.length : Int) := by omega
                have HF := Lib.hid (HRL.out.fin (by omega))
                go_wp2_with fail
                go_ret
                exact ⟨_, rfl, HF.out, HRL.out.box.2⟩
          · have e0 : t.ks[0].form = fa := by
              have h := hms.symm.trans hks
              have := congrArg (fun l => l[0]?) h
              simpa [List.getElem?_eq_getElem hpos] using this
            have ek0 : t.ks[0].kd = fa.kd := by rw [← e0, T.form_kd]
            have g0k : (t.ks[0].kd == 1) = true := by rw [ek0, hk1]; rfl
            have hk0 := HKL.out 0 hpos
            have hw0 : txF t.ks[0].form = t.ks[0].tx.data.toList := hk0.2 (by rw [ek0, hk1])
            have hw9 : t.ks[0].tx.size ≤ 80200000 := by have h1 := hk0.1; rw [hw0] at h1; simpa using h1
            have hl2 : t.ks.length = r.length + 2 := by
              have h := congrArg List.length (hms.symm.trans hks)
              simpa using h
            have h1l : 1 < t.ks.length := by omega
            have g2l : (1 : Int) < (t.ks.length : Int) := by omega
            have e1 : t.ks[1].form = fb := by
              have h := hms.symm.trans hks
              have := congrArg (fun l => l[1]?) h
              simpa [List.getElem?_eq_getElem h1l] using this
            have g1k : (t.ks[1].kd != 3) = false := by rw [show t.ks[1].kd = fb.kd by rw [← e1, T.form_kd], hk3]; rfl
            have HJ : Hid (joinB ((t.form.ks.take 1).map txF) = t.ks[0].tx.data.toList) := Lib.hid (by rw [hks, ← hw0, e0]; simp [joinB])
            obtain ⟨db, hdb⟩ : ∃ db : ByteArray, db = ⟨(blk (c + 2)).toArray⟩ := ⟨_, rfl⟩
            have hdb9 : db.size ≤ 1000 := by
              rw [hdb]
              show (blk (c + 2)).toArray.size ≤ 1000
              simp [blk]; omega
            have HDB : Hid (db.data.toList = blk (c + 2)) := Lib.hid (by rw [hdb])
            have HBL : Hid (∀ W, Calls Tryz.prog 75 #[.int .i64 ((c : Int) + 2)] W fun e w' => e = .returned (.string db) ∧ W = w') := Lib.hid fun W => by
              have := blanks_any (c + 2) (by omega) W
              rw [← hdb] at this
              simpa using this
            have hiN : indN t.form.ks = 2 := by unfold indN; rw [hfn]; rfl
            rw [hfn] at HST
            rw [hiN] at HST HIH HLL
            clear hdb hiN hfn
            clear e0 e1 ek0 hks hk1 hk3 hms hk0 hw0 hl2
            go_enter Tryz.func47, Tryz.ntmps47
            go_wp2_with (go_at_call 32; (with_reducible refine HW.out.mono ?_); rintro e w2 ⟨d, rfl, hd, hB⟩; have hdz := ba_size hd; have g1 : ¬ (c : Int) + (d.size : Int) + (k : Int) ≤ (wd : Int) := (by omega); have g2 : (d.size : Int) ≤ 80200000 := (by omega); obtain ⟨c0, c1, c2, c3⟩ := box_cells (K0.out.next hB).1 HAD.out; obtain ⟨⟨x0, x1, x2, x3⟩, lb⟩ := HKC.out w2 (up (bel1 _ _) hB) 0 hpos; simp only [Nat.zero_mul, Nat.add_zero] at x0 x1 x2 x3; obtain ⟨⟨y0, y1, y2, y3⟩, _⟩ := HKC.out w2 (up (bel1 _ _) hB) 1 h1l; simp only [Nat.one_mul] at y0 y1 y2 y3; have KB := Lib.hid (K0.out.next hB); clear hd hB hdz)
            go_loopg [10, 13] (t.ks.length - 1) (fun m u i wr => ∃ (i0 : Nat) (d : ByteArray), m = t.ks.length - i0 ∧ i = .int .i64 i0 ∧ u = .string d ∧ LinRel w wr t R 1 (c + 2) wd k i0 d)
            case atStart => exact ⟨1, _, rfl, rfl, rfl, HST.out _ _ (by rw [HJ.out, ba_app]; rfl) KB.out⟩
            case round =>
              obtain ⟨i, d0, rfl, rfl, rfl, hrl⟩ := hrel
              obtain ⟨c0, c1, c2, c3⟩ := box_cells hrl.box.1 HAD.out
              have hdz := hrl.size
              have hil := hrl.le
              have HRL := Lib.hid hrl
              clear hrl
              by_cases hlt : i < t.ks.length
              · obtain ⟨⟨x0, x1, x2, x3⟩, lb⟩ := HKC.out _ HRL.out.box.2 i hlt
                have gi : (i : Int) < (t.ks.length : Int) := by omega
                have gi2 : (0 : Int) ≤ (i : Int) := by omega
                by_cases hl : i + 1 = t.ks.length
                · have g1 : ((i : Int) + 1 == (t.ks.length : Int)) = true := by simp; omega
                  have HC := Lib.hid fun W hB => HIH.out i hlt ((c : Int) + 2) ((k : Int) + 1) (k + 1) W (by simp) (by simp) (Nat.le_refl _) hB
                  by_cases h0 : 0 < i
                  · have g0 : (0 : Int) < (i : Int) := by omega
                    have HNX : Hid (∀ (d' : ByteArray) w2, Below _ _ w2 → d'.data.toList = d0.data.toList ++ ((10 :: blk (c + 2)) ++ linF t.ks[i].form (c + 2) wd (k + 1)) → LinRel w w2 t R 1 (c + 2) wd k (i + 1) d') := Lib.hid fun d' w2 hb hd => HRL.out.next hlt hb (by rw [if_pos h0, if_pos hl]; exact hd)
                    clear hl h0
                    go_wp2_with (first
                      | (go_at_call 75; refine (HBL.out _).mono ?_; rintro e w5 ⟨rfl, rfl⟩)
                      | (go_at_call 47; refine (HC.out _ HRL.out.box.2).mono ?_; rintro e w6 ⟨dk, rfl, hdk, hB⟩; have hdkz := ba_size hdk; have hdk9 : dk.size ≤ 96600000 := (by rw [ba_size hdk]; exact HLL.out i hlt _); have HB := Lib.hid hB; have HDK := Lib.hid hdk; clear hB hdk))
                    go_roundg (t.ks.length - (i + 1))
                    case measure => omega
                    case rel => exact ⟨i + 1, _, rfl, by go_num, rfl, HNX.out _ _ HB.out (by rw [ba_app, ba_app, ba_app, HDB.out, HDK.out]; simp)⟩
                  · exact absurd HRL.out.ge (by omega)
                · have g1 : ((i : Int) + 1 == (t.ks.length : Int)) = false := by simp; omega
                  have HC := Lib.hid fun W hB => HIH.out i hlt ((c : Int) + 2) 0 0 W (by simp) rfl (Nat.zero_le _) hB
                  by_cases h0 : 0 < i
                  · have g0 : (0 : Int) < (i : Int) := by omega
                    have HNX : Hid (∀ (d' : ByteArray) w2, Below _ _ w2 → d'.data.toList = d0.data.toList ++ ((10 :: blk (c + 2)) ++ linF t.ks[i].form (c + 2) wd 0) → LinRel w w2 t R 1 (c + 2) wd k (i + 1) d') := Lib.hid fun d' w2 hb hd => HRL.out.next hlt hb (by rw [if_pos h0, if_neg hl]; exact hd)
                    clear hl h0
                    go_wp2_with (first
                      | (go_at_call 75; refine (HBL.out _).mono ?_; rintro e w5 ⟨rfl, rfl⟩)
                      | (go_at_call 47; refine (HC.out _ HRL.out.box.2).mono ?_; rintro e w6 ⟨dk, rfl, hdk, hB⟩; have hdkz := ba_size hdk; have hdk9 : dk.size ≤ 96600000 := (by rw [ba_size hdk]; exact HLL.out i hlt _); have HB := Lib.hid hB; have HDK := Lib.hid hdk; clear hB hdk))
                    go_roundg (t.ks.length - (i + 1))
                    case measure => omega
                    case rel => exact ⟨i + 1, _, rfl, by go_num, rfl, HNX.out _ _ HB.out (by rw [ba_app, ba_app, ba_app, HDB.out, HDK.out]; simp)⟩
                  · exact absurd HRL.out.ge (by omega)
              · have gi : ¬ (i : Int) < (t.ks.length : Int) := by omega
                have HF := Lib.hid (HRL.out.fin (by omega))
                go_wp2_with fail
                go_ret
                exact ⟨_, rfl, HF.out, HRL.out.box.2⟩
          · have e0 : t.ks[0].form = fa := by
              have h := hms.symm.trans hks
              have := congrArg (fun l => l[0]?) h
              simpa [List.getElem?_eq_getElem hpos] using this
            have ek0 : t.ks[0].kd = fa.kd := by rw [← e0, T.form_kd]
            have g0k : (t.ks[0].kd == 1) = true := by rw [ek0, hk1]; rfl
            have hk0 := HKL.out 0 hpos
            have hw0 : txF t.ks[0].form = t.ks[0].tx.data.toList := hk0.2 (by rw [ek0, hk1])
            have hw9 : t.ks[0].tx.size ≤ 80200000 := by have h1 := hk0.1; rw [hw0] at h1; simpa using h1
            have hl2 : t.ks.length = r.length + 2 := by
              have h := congrArg List.length (hms.symm.trans hks)
              simpa using h
            have h1l : 1 < t.ks.length := by omega
            have g2l : (1 : Int) < (t.ks.length : Int) := by omega
            have e1 : t.ks[1].form = fb := by
              have h := hms.symm.trans hks
              have := congrArg (fun l => l[1]?) h
              simpa [List.getElem?_eq_getElem h1l] using this
            have g1k : (t.ks[1].kd != 3) = true := by rw [show t.ks[1].kd = fb.kd by rw [← e1, T.form_kd]]; simpa using hk3
            have HJ : Hid (joinB ((t.form.ks.take 2).map txF) = t.ks[0].tx.data.toList ++ 32 :: txF t.ks[1].form) := Lib.hid (by rw [hks, ← hw0, e0, e1]; simp [joinB])
            have hk19 := (HKL.out 1 h1l).1
            obtain ⟨db, hdb⟩ : ∃ db : ByteArray, db = ⟨(blk (c + 2)).toArray⟩ := ⟨_, rfl⟩
            have hdb9 : db.size ≤ 1000 := by
              rw [hdb]
              show (blk (c + 2)).toArray.size ≤ 1000
              simp [blk]; omega
            have HDB : Hid (db.data.toList = blk (c + 2)) := Lib.hid (by rw [hdb])
            have HBL : Hid (∀ W, Calls Tryz.prog 75 #[.int .i64 ((c : Int) + 2)] W fun e w' => e = .returned (.string db) ∧ W = w') := Lib.hid fun W => by
              have := blanks_any (c + 2) (by omega) W
              rw [← hdb] at this
              simpa using this
            have hiN : indN t.form.ks = 2 := by unfold indN; rw [hfn]; rfl
            rw [hfn] at HST
            rw [hiN] at HST HIH HLL
            clear hdb hiN hfn
            clear e0 e1 ek0 hks hk1 hk3 hms hk0 hw0 hl2
            go_enter Tryz.func47, Tryz.ntmps47
            go_wp2_with (first
              | (go_at_call 32; (with_reducible refine HW.out.mono ?_); rintro e w2 ⟨d, rfl, hd, hB⟩; have hdz := ba_size hd; have g1 : ¬ (c : Int) + (d.size : Int) + (k : Int) ≤ (wd : Int) := (by omega); have g2 : (d.size : Int) ≤ 80200000 := (by omega); obtain ⟨c0, c1, c2, c3⟩ := box_cells (K0.out.next hB).1 HAD.out; obtain ⟨⟨x0, x1, x2, x3⟩, lb⟩ := HKC.out w2 (up (bel1 _ _) hB) 0 hpos; simp only [Nat.zero_mul, Nat.add_zero] at x0 x1 x2 x3; obtain ⟨⟨y0, y1, y2, y3⟩, _⟩ := HKC.out w2 (up (bel1 _ _) hB) 1 h1l; simp only [Nat.one_mul] at y0 y1 y2 y3; have KB := Lib.hid (K0.out.next hB); clear hd hB hdz)
              | (go_at_call 32; have KW := HW2.out 1 h1l _ KB.out.2; (with_reducible refine KW.mono ?_); rintro e w3 ⟨d2, rfl, hd2, hB⟩; have hd29 : d2.size ≤ 80200000 := (by rw [ba_size hd2]; exact hk19); have KC := Lib.hid (KB.out.next hB); have HD2 := Lib.hid hd2; clear hd2 hB))
            go_loopg [10, 13] (t.ks.length - 2) (fun m u i wr => ∃ (i0 : Nat) (d : ByteArray), m = t.ks.length - i0 ∧ i = .int .i64 i0 ∧ u = .string d ∧ LinRel w wr t R 2 (c + 2) wd k i0 d)
            case atStart => exact ⟨2, _, rfl, rfl, rfl, HST.out _ _ (by rw [HJ.out, ba_app, ba_app, ba_app, HD2.out]; simp) KC.out⟩
            case round =>
              obtain ⟨i, d0, rfl, rfl, rfl, hrl⟩ := hrel
              obtain ⟨c0, c1, c2, c3⟩ := box_cells hrl.box.1 HAD.out
              have hdz := hrl.size
              have hil := hrl.le
              have HRL := Lib.hid hrl
              clear hrl
              by_cases hlt : i < t.ks.length
              · obtain ⟨⟨x0, x1, x2, x3⟩, lb⟩ := HKC.out _ HRL.out.box.2 i hlt
                have gi : (i : Int) < (t.ks.length : Int) := by omega
                have gi2 : (0 : Int) ≤ (i : Int) := by omega
                by_cases hl : i + 1 = t.ks.length
                · have g1 : ((i : Int) + 1 == (t.ks.length : Int)) = true := by simp; omega
                  have HC := Lib.hid fun W hB => HIH.out i hlt ((c : Int) + 2) ((k : Int) + 1) (k + 1) W (by simp) (by simp) (Nat.le_refl _) hB
                  by_cases h0 : 0 < i
                  · have g0 : (0 : Int) < (i : Int) := by omega
                    have HNX : Hid (∀ (d' : ByteArray) w2, Below _ _ w2 → d'.data.toList = d0.data.toList ++ ((10 :: blk (c + 2)) ++ linF t.ks[i].form (c + 2) wd (k + 1)) → LinRel w w2 t R 2 (c + 2) wd k (i + 1) d') := Lib.hid fun d' w2 hb hd => HRL.out.next hlt hb (by rw [if_pos h0, if_pos hl]; exact hd)
                    clear hl h0
                    go_wp2_with (first
                      | (go_at_call 75; refine (HBL.out _).mono ?_; rintro e w5 ⟨rfl, rfl⟩)
                      | (go_at_call 47; refine (HC.out _ HRL.out.box.2).mono ?_; rintro e w6 ⟨dk, rfl, hdk, hB⟩; have hdkz := ba_size hdk; have hdk9 : dk.size ≤ 96600000 := (by rw [ba_size hdk]; exact HLL.out i hlt _); have HB := Lib.hid hB; have HDK := Lib.hid hdk; clear hB hdk))
                    go_roundg (t.ks.length - (i + 1))
                    case measure => omega
                    case rel => exact ⟨i + 1, _, rfl, by go_num, rfl, HNX.out _ _ HB.out (by rw [ba_app, ba_app, ba_app, HDB.out, HDK.out]; simp)⟩
                  · exact absurd HRL.out.ge (by omega)
                · have g1 : ((i : Int) + 1 == (t.ks.length : Int)) = false := by simp; omega
                  have HC := Lib.hid fun W hB => HIH.out i hlt ((c : Int) + 2) 0 0 W (by simp) rfl (Nat.zero_le _) hB
                  by_cases h0 : 0 < i
                  · have g0 : (0 : Int) < (i : Int) := by omega
                    have HNX : Hid (∀ (d' : ByteArray) w2, Below _ _ w2 → d'.data.toList = d0.data.toList ++ ((10 :: blk (c + 2)) ++ linF t.ks[i].form (c + 2) wd 0) → LinRel w w2 t R 2 (c + 2) wd k (i + 1) d') := Lib.hid fun d' w2 hb hd => HRL.out.next hlt hb (by rw [if_pos h0, if_neg hl]; exact hd)
                    clear hl h0
                    go_wp2_with (first
                      | (go_at_call 75; refine (HBL.out _).mono ?_; rintro e w5 ⟨rfl, rfl⟩)
                      | (go_at_call 47; refine (HC.out _ HRL.out.box.2).mono ?_; rintro e w6 ⟨dk, rfl, hdk, hB⟩; have hdkz := ba_size hdk; have hdk9 : dk.size ≤ 96600000 := (by rw [ba_size hdk]; exact HLL.out i hlt _); have HB := Lib.hid hB; have HDK := Lib.hid hdk; clear hB hdk))
                    go_roundg (t.ks.length - (i + 1))
                    case measure => omega
                    case rel => exact ⟨i + 1, _, rfl, by go_num, rfl, HNX.out _ _ HB.out (by rw [ba_app, ba_app, ba_app, HDB.out, HDK.out]; simp)⟩
                  · exact absurd HRL.out.ge (by omega)
              · have gi : ¬ (i : Int) < (t.ks.length : Int) := by omega
                have HF := Lib.hid (HRL.out.fin (by omega))
                go_wp2_with fail
                go_ret
                exact ⟨_, rfl, HF.out, HRL.out.box.2⟩
      · have b3 : (t.kd != 3) = true := by simpa using h3
        have HR : Hid (txF t.form = R) := Lib.hid (by rw [← hR, linF_eq, if_pos (.inr (.inl (by rw [T.form_kd]; exact h3)))])
        clear hR ih ha
        go_enter Tryz.func47, Tryz.ntmps47
        go_wp2_with (go_at_call 32; refine HW.out.mono ?_; rintro e w2 ⟨d, rfl, hd, hB⟩; have hdz := ba_size hd; have g1 : ¬ (c : Int) + (d.size : Int) + (k : Int) ≤ (wd : Int) := (by omega); have g2 : (d.size : Int) ≤ 80200000 := (by omega); obtain ⟨c0, c1, c2, c3⟩ := Box4.cells (w := w2) (b := w.heap.size) (t := t) ((K0.out.next hB).1); have HB := Lib.hid hB; have HD := Lib.hid hd; clear hd hB hdz)
        go_ret
        exact ⟨_, rfl, by rw [HD.out, HR.out], up (bel1 _ _) HB.out⟩
end Go.Proofs.YtedabholcldgbaaGreatDoor.Y

/- layout's spare and frontKids. -/
namespace Go.Proofs.YtedabholcldgbaaGreatDoor.Y
open Go.RowKit Go.Deep

theorem spL_next {l : List Fm} {i : Nat} {r : Int} (h : i < l.length) (hr : ¬ r < 0) : spL (l.drop i) r = spL (l.drop (i + 1)) (spF l[i] r) := by
  rw [List.drop_eq_getElem_cons h, spL, if_neg hr]
theorem spL_stop (l : List Fm) {r : Int} (hr : r < 0) : spL l r = r := by
  cases l with
  | nil => rw [spL]
  | cons a l => rw [spL, if_pos hr]
theorem spL_end {l : List Fm} {i : Nat} {r : Int} (h : l.length ≤ i) : spL (l.drop i) r = r := by rw [List.drop_of_length_le h, spL]
/-- The loop over the Kids. -/
structure SpRel (w0 wr : World) (t : T) (R : Int) (i : Nat) (r : Int) : Prop where
  le : i ≤ t.ks.length
  eq : R = spL ((t.ks.map T.form).drop i) r
  lo : -100000000 ≤ r
  hi : r ≤ 1000
  box : Boxed w0 wr t

set_option linter.unusedSimpArgs false in
set_option maxHeartbeats 4000000 in
set_option maxRecDepth 100000 in
theorem spare_any (n : Nat) : ∀ t : T, SizeOf.sizeOf t < n → ∀ (r : Int) (w : World), In w t → validF t.form = true → -2000 ≤ r → r ≤ 1000 → Tab w.heap.size w →
    Calls Tryz.prog 100 #[t.val, .int .i64 r] w fun e w' => e = .returned (.int .i64 (spF t.form r)) ∧ Below w.heap.size w w' := by
  induction n with
  | zero => intro t h; omega
  | succ n ih =>
    intro t hn r w hin hv hlo hhi htab
    have hvp := valid_parts hv
    have n1 := Nat.le_trans hin.ok.le hin.ok.cp
    unfold maxLen at n1
    have hsl : (txF t.form).length ≤ 80200000 := by have := txF_len hvp.2.2; omega
    obtain ⟨R, hR⟩ : ∃ R, spF t.form r = R := ⟨_, rfl⟩
    rw [hR]
    by_cases he : t.ks = []
    · have hl0 : t.ks.length = 0 := by rw [he]; rfl
      have HW := ((Go.Proofs.YtedabholcldgbaaGreatDoor.write_any t (w.alloc (.cells #[.int .i64 t.kd, .int .i64 t.nn, .string t.tx, .slice t.ad t.ks.length t.cp] 29)) (hin.alloc _) (by omega) (htab.next (bel1 _ _))).mono fun e w' hh => (by rw [wrF_yes hv] at hh; exact strEnd_of hh))
      have HR : Hid (r - ((txF t.form).length : Int) = R) := Lib.hid (by rw [← hR, spF_eq, T.form_ks, he]; rfl)
      have hval : t.val = .agg #[.int .i64 t.kd, .int .i64 t.nn, .string t.tx, .slice t.ad 0 t.cp] := by rw [← hl0, T.val]
      rw [hval, hl0] at HW
      rw [hval]
      replace HW := Lib.hid HW
      clear ih hR he hl0 hval
      go_enter Tryz.func100, Tryz.ntmps100
      go_wp2_with (go_at_call 140; (with_reducible refine HW.out.mono ?_); rintro e w2 ⟨d, rfl, hd, hB⟩; have hdz := ba_size hd; have g2 : (d.size : Int) ≤ 80200000 := (by omega); have HB := Lib.hid hB; have HD := Lib.hid hdz; clear hd hB hdz)
      go_ret
      exact ⟨ret_int (by rw [← HR.out, HD.out]), up (bel1 _ _) HB.out⟩
    · have hpos : 0 < t.ks.length := List.length_pos_iff.2 he
      have hk : t.kd = 3 := by
        have := (txF_list hvp.2.2 (by rw [T.form_ks]; intro e; exact he (List.map_eq_nil_iff.1 e))).1
        rwa [T.form_kd] at this
      have hkv : ∀ i (h : i < t.ks.length), validF t.ks[i].form = true ∧ szF t.ks[i].form < szF t.form ∧ dpF t.ks[i].form < dpF t.form := fun i h =>
        valid_kid hv (by rw [T.form_kd]; exact hk) (by rw [T.form_ks]; exact List.mem_map_of_mem (List.getElem_mem h))
      have hlen : t.ks.length ≤ 20000 := by
        have h1 := szF_eq t.form
        have h2 : t.form.kids = t.ks.map T.form := by unfold Fm.kids; rw [T.form_kd, if_pos hk, T.form_ks]
        have h3 : ∀ l : List Fm, l.length ≤ szL l := by
          intro l
          induction l with
          | nil => simp
          | cons a l ihl => have := szF_eq a; simp only [List.length_cons, szL]; omega
        have h4 := h3 (t.ks.map T.form)
        rw [h2] at h1
        rw [List.length_map] at h4
        omega
      obtain ⟨a, ha⟩ : ∃ a, t.ad = a := ⟨_, rfl⟩
      have HAD := Lib.hid ha
      have HK : Hid (∀ W, Below w.heap.size w W → InL W a 0 t.ks) := Lib.hid fun W h => by rw [← ha]; exact (hin.below h).inL
      have HIH : Hid (∀ i (h : i < t.ks.length) (x : Int) W, -2000 ≤ x → x ≤ 1000 → Below w.heap.size w W → Calls Tryz.prog 100 #[t.ks[i].val, .int .i64 x] W fun e w' => e = .returned (.int .i64 (spF t.ks[i].form x)) ∧ Below W.heap.size W w') :=
        Lib.hid fun i h x W h1 h2 hB => ih t.ks[i] (by have := T.kid_lt (List.getElem_mem h); omega) x W ((HK.out W hB).at i h).2 (hkv i h).1 h1 h2 (Tab.mono (htab.on hB) hB.size)
      have HBD : Hid (∀ i (h : i < t.ks.length) (x : Int), spF t.ks[i].form x ≤ x ∧ x - 80200000 ≤ spF t.ks[i].form x) := Lib.hid fun i h x => by
        have hq := valid_parts (hkv i h).1
        have h1 := txF_len hq.2.2
        have h2 := sp_bound hq.2.2 x
        omega
      have HST : Hid (∀ wr, Boxed w wr t → SpRel w wr t R 0 (r - (2 + (t.ks.length : Int) - 1))) := Lib.hid fun wr hb => ⟨by omega, by
        rw [← hR, spF_eq, T.form_ks, if_neg (by simpa using he), List.length_map, List.drop_zero], by omega, by omega, hb⟩
      obtain ⟨b, o, rfl⟩ : ∃ b o, a = some ⟨b, o, none⟩ := by
        obtain ⟨⟨b, o, e, _⟩, _⟩ := (HK.out w (Below.refl _ _)).at 0 hpos
        exact ⟨b, o, e⟩
      have HKC : Hid (∀ W, Below w.heap.size w W → ∀ i (h : i < t.ks.length), Cells4 W b (o + i * 4) t.ks[i] ∧ b < W.heap.size) := Lib.hid fun W hB i h => by
        obtain ⟨⟨b', o', e, hc⟩, _⟩ := (HK.out W hB).at i h
        injection e with e
        injection e with e1 e2 e3
        subst e1 e2
        exact ⟨hc, World.block_lt_of_cell? _ _ hc.1⟩
      have k0 := Boxed.start w t
      rw [ha] at k0
      have K0 := Lib.hid k0
      have hval : t.val = .agg #[.int .i64 t.kd, .int .i64 t.nn, .string t.tx, .slice (some ⟨b, o, none⟩) t.ks.length t.cp] := by rw [← ha, T.val]
      rw [hval]
      have b0 : ((t.ks.length : Int) == 0) = false := by simp; exact he
      clear he hk hkv ha hv hvp ih hR hin htab hsl k0 hval HK HAD
      go_enter Tryz.func100, Tryz.ntmps100
      go_wp2_with fail
      go_loopg [26, 1] (t.ks.length) (fun m i x wr => ∃ (i0 : Nat) (r0 : Int), m = t.ks.length - i0 ∧ i = .int .i64 i0 ∧ x = .int .i64 r0 ∧ SpRel w wr t R i0 r0)
      case atStart => exact ⟨0, _, rfl, rfl, rfl, HST.out _ K0.out⟩
      case round =>
        obtain ⟨i, r0, rfl, rfl, rfl, hrl⟩ := hrel
        have q1 := hrl.lo
        have q2 := hrl.hi
        have q3 := hrl.le
        have HRL := Lib.hid hrl
        clear hrl
        by_cases hlt : i < t.ks.length
        · obtain ⟨⟨hx0, hx1, hx2, hx3⟩, lb⟩ := HKC.out _ HRL.out.box.2 i hlt
          have gi : (i : Int) < (t.ks.length : Int) := by omega
          by_cases hneg : r0 < 0
          · have HF : Hid (R = r0) := Lib.hid (by rw [HRL.out.eq, spL_stop _ hneg])
            go_wp2_with fail
            go_ret
            exact ⟨ret_int (by rw [HF.out]), up HRL.out.box.2 (bel1 _ _)⟩
          · have HC := Lib.hid (HIH.out i hlt r0 (wr.alloc (.cells #[.int .i64 t.ks[i].kd, .int .i64 t.ks[i].nn, .string t.ks[i].tx, .slice t.ks[i].ad t.ks[i].ks.length t.ks[i].cp] 29)) (by omega) q2 (up HRL.out.box.2 (bel1 _ _)))
            have hbd := HBD.out i hlt r0
            obtain ⟨r1, hr1⟩ : ∃ r1, spF t.ks[i].form r0 = r1 := ⟨_, rfl⟩
            have HNX : Hid (∀ w2, Below _ _ w2 → SpRel w w2 t R (i + 1) r1) := Lib.hid fun w2 hb => ⟨by omega, by rw [HRL.out.eq, spL_next (by simpa using hlt) hneg, ← hr1]; simp, by omega, by omega, HRL.out.box.next hb⟩
            rw [hr1] at HC hbd
            clear hr1
            go_wp2_with (go_at_call 100; (with_reducible refine HC.out.mono ?_); rintro e w2 ⟨rfl, hB⟩; have HB := Lib.hid hB; clear hB)
            go_roundg (t.ks.length - (i + 1))
            case measure => omega
            case rel => exact ⟨i + 1, r1, rfl, by go_num, rfl, HNX.out _ (up (bel1 _ _) HB.out)⟩
        · have gi : ¬ (i : Int) < (t.ks.length : Int) := by omega
          have HF : Hid (R = r0) := Lib.hid (by rw [HRL.out.eq, spL_end (by simp; omega)])
          go_wp2_with fail
          go_ret
          exact ⟨ret_int (by rw [HF.out]), HRL.out.box.2⟩

/-! ### The front -/
theorem headF_no {f a : Fm} {r : List Fm} (hk : f.kd = 3) (h : f.ks = a :: r) (ha : a.kd ≠ 1) : headF f = ⟨#[]⟩ := by
  rw [headF_cons (k := a) (r := r) (by unfold Fm.kids; rw [if_pos hk, h]), if_neg ha]
theorem headF_yes {f a : Fm} {r : List Fm} (hv : validF f = true) (hk : f.kd = 3) (h : f.ks = a :: r) (ha : a.kd = 1) : headF f ≠ ⟨#[]⟩ := by
  rw [headF_cons (k := a) (r := r) (by unfold Fm.kids; rw [if_pos hk, h]), if_pos ha]
  have h1 := (valid_parts (valid_kid hv hk (by rw [h]; simp : a ∈ f.ks)).1).2.2
  rw [fieldsF_eq, Bool.and_eq_true] at h1
  intro e
  rcases alone_cases h1.1 with ⟨h0, _⟩ | ⟨_, _, _, h0⟩ | ⟨h0, _⟩ | ⟨h0, _⟩
  · omega
  · rw [e] at h0; exact absurd h0 (by decide)
  · omega
  · omega
theorem ba_ne {d : ByteArray} (h : d ≠ ⟨#[]⟩) : d.toList.isEmpty = false := by
  rw [ByteArray.toList_eq]
  cases hl : d.data.toList with
  | nil => exact absurd (ba_list hl) h
  | cons _ _ => rfl
theorem kd_at {t : T} {l : List Fm} (h : t.ks.map T.form = l) (i : Nat) (hi : i < t.ks.length) (hl : i < l.length) : t.ks[i].kd = l[i].kd := by
  subst h
  simp [T.form_kd]
set_option maxHeartbeats 4000000 in
theorem frontKids_any (t : T) (w : World) (hin : In w t) (hv : validF t.form = true) (hk : t.kd = 3) (hne : t.ks ≠ []) :
    Calls Tryz.prog 102 #[t.val] w fun e w' => e = .returned (.int .i64 (frN t.form.ks)) ∧ Below w.heap.size w w' := by
  have n1 := Nat.le_trans hin.ok.le hin.ok.cp
  unfold maxLen at n1
  have hpos : 0 < t.ks.length := List.length_pos_iff.2 hne
  obtain ⟨a, ha⟩ : ∃ a, t.ad = a := ⟨_, rfl⟩
  have HK : Hid (∀ W, Below w.heap.size w W → InL W a 0 t.ks) := Lib.hid fun W h => by rw [← ha]; exact (hin.below h).inL
  obtain ⟨b, o, rfl⟩ : ∃ b o, a = some ⟨b, o, none⟩ := by
    obtain ⟨⟨b, o, e, _⟩, _⟩ := (HK.out w (Below.refl _ _)).at 0 hpos
    exact ⟨b, o, e⟩
  have HKC : Hid (∀ W, Below w.heap.size w W → ∀ i (h : i < t.ks.length), Cells4 W b (o + i * 4) t.ks[i] ∧ b < W.heap.size) := Lib.hid fun W hB i h => by
    obtain ⟨⟨b', o', e, hc⟩, _⟩ := (HK.out W hB).at i h
    injection e with e
    injection e with e1 e2 e3
    subst e1 e2
    exact ⟨hc, World.block_lt_of_cell? _ _ hc.1⟩
  have HH := head_any t (w.alloc (.cells #[.int .i64 t.kd, .int .i64 t.nn, .string t.tx, .slice t.ad t.ks.length t.cp] 29)) (hin.alloc _)
  have k0 := Boxed.start w t
  rw [ha] at k0
  have K0 := Lib.hid k0
  have hval : t.val = .agg #[.int .i64 t.kd, .int .i64 t.nn, .string t.tx, .slice (some ⟨b, o, none⟩) t.ks.length t.cp] := by rw [← ha, T.val]
  rw [hval, ha] at HH
  rw [hval]
  have HAD := Lib.hid ha
  have hk3 : t.form.kd = 3 := by rw [T.form_kd]; exact hk
  have hms : t.ks.map T.form = t.form.ks := (T.form_ks t).symm
  have hlen : t.ks.length = t.form.ks.length := by rw [← hms, List.length_map]
  rcases front_cases (ks := t.form.ks) (by rw [← hms]; intro e; exact hne (List.map_eq_nil_iff.1 e)) with ⟨fa, r, hks, hk1, hfn⟩ | ⟨fa, hks, hk1, hfn⟩ | ⟨fa, fb, r, hks, hk1, hkb, hfn⟩ | ⟨fa, fb, r, hks, hk1, hkb, hfn⟩
  · rw [headF_no hk3 hks hk1] at HH
    rw [hfn]
    replace HH := Lib.hid HH
    clear hks hk1 hk3 hms hlen hk hne hv hin ha hval k0 hfn HK
    go_enter Tryz.func102, Tryz.ntmps102
    go_wp2_with (go_at_call 43; (with_reducible refine HH.out.mono ?_); rintro e w2 ⟨rfl, hB⟩; have HB := Lib.hid hB; clear hB)
    go_ret
    exact ⟨rfl, up (bel1 _ _) HB.out⟩
  · have hh := headF_yes hv hk3 hks hk1
    have gl : ¬ (1 : Int) < (t.ks.length : Int) := by rw [hlen, hks]; simp
    obtain ⟨d, hd⟩ : ∃ d, headF t.form = d := ⟨_, rfl⟩
    rw [hd] at HH hh
    have gd : d.toList.isEmpty = false := ba_ne hh
    rw [hfn]
    replace HH := Lib.hid HH
    clear hks hk1 hk3 hms hlen hk hne hv hin ha hval k0 hfn HK hd hh
    go_enter Tryz.func102, Tryz.ntmps102
    go_wp2_with (go_at_call 43; (with_reducible refine HH.out.mono ?_); rintro e w2 ⟨rfl, hB⟩; obtain ⟨c0, c1, c2, c3⟩ := box_cells (K0.out.next hB).1 HAD.out; have HB := Lib.hid hB; clear hB)
    go_ret
    exact ⟨rfl, up (bel1 _ _) HB.out⟩
  · have hh := headF_yes hv hk3 hks hk1
    have h1l : 1 < t.ks.length := by rw [hlen, hks]; simp
    have gl : (1 : Int) < (t.ks.length : Int) := by omega
    have g3 : (t.ks[1].kd != 3) = false := by rw [kd_at (hms.trans hks) 1 h1l (by simp)]; simpa using hkb
    obtain ⟨d, hd⟩ : ∃ d, headF t.form = d := ⟨_, rfl⟩
    rw [hd] at HH hh
    have gd : d.toList.isEmpty = false := ba_ne hh
    rw [hfn]
    replace HH := Lib.hid HH
    clear hks hk1 hkb hk3 hms hlen hk hne hv hin ha hval k0 hfn HK hd hh
    go_enter Tryz.func102, Tryz.ntmps102
    go_wp2_with (go_at_call 43; (with_reducible refine HH.out.mono ?_); rintro e w2 ⟨rfl, hB⟩; obtain ⟨c0, c1, c2, c3⟩ := box_cells (K0.out.next hB).1 HAD.out; obtain ⟨⟨y0, y1, y2, y3⟩, lb⟩ := HKC.out w2 (up (bel1 _ _) hB) 1 h1l; simp only [Nat.one_mul] at y0 y1 y2 y3; have HB := Lib.hid hB; clear hB)
    go_ret
    exact ⟨rfl, up (bel1 _ _) HB.out⟩
  · have hh := headF_yes hv hk3 hks hk1
    have h1l : 1 < t.ks.length := by rw [hlen, hks]; simp
    have gl : (1 : Int) < (t.ks.length : Int) := by omega
    have g3 : (t.ks[1].kd != 3) = true := by rw [kd_at (hms.trans hks) 1 h1l (by simp)]; simpa using hkb
    obtain ⟨d, hd⟩ : ∃ d, headF t.form = d := ⟨_, rfl⟩
    rw [hd] at HH hh
    have gd : d.toList.isEmpty = false := ba_ne hh
    rw [hfn]
    replace HH := Lib.hid HH
    clear hks hk1 hkb hk3 hms hlen hk hne hv hin ha hval k0 hfn HK hd hh
    go_enter Tryz.func102, Tryz.ntmps102
    go_wp2_with (go_at_call 43; (with_reducible refine HH.out.mono ?_); rintro e w2 ⟨rfl, hB⟩; obtain ⟨c0, c1, c2, c3⟩ := box_cells (K0.out.next hB).1 HAD.out; obtain ⟨⟨y0, y1, y2, y3⟩, lb⟩ := HKC.out w2 (up (bel1 _ _) hB) 1 h1l; simp only [Nat.one_mul] at y0 y1 y2 y3; have HB := Lib.hid hB; clear hB)
    go_ret
    exact ⟨rfl, up (bel1 _ _) HB.out⟩
end Go.Proofs.YtedabholcldgbaaGreatDoor.Y

/- layout's sheet: lay. -/
namespace Go.Proofs.YtedabholcldgbaaGreatDoor.Y
open Go.RowKit Go.Deep

theorem Sh.drewN {w0 w : World} {S : Nat} {ov : Value} {wd : Nat} {l : List UInt8} (h : Sh w0 w S ov wd l) (n : Nat) : Sh w0 (w.drewN n) S ov wd l := h.next ⟨rfl, rfl, rfl, Nat.le_refl _, fun _ _ => rfl⟩
theorem below_drewN' {B : Nat} {w W : World} (h : Below B w W) (n : Nat) : Below B w (W.drewN n) := h.trans ⟨rfl, rfl, rfl, Nat.le_refl _, fun _ _ => rfl⟩
/-- The loop over the Kids behind the front. -/
structure LayRel (w0 w wr : World) (S : Nat) (ov : Value) (wd : Nat) (l R : List UInt8) (t : T) (fr inn k j : Nat) (d : List UInt8) : Prop where
  le : fr + j ≤ t.ks.length
  eq : R = d ++ (linL ((t.ks.map T.form).drop (fr + j)) fr (fr + j) inn wd k ++ [41])
  sh : Sh w0 wr S ov wd (l ++ d)
  kept : Kept S w wr
  box : Box4 wr w.heap.size t
theorem LayRel.dlen {w0 w wr : World} {S : Nat} {ov : Value} {wd : Nat} {l R : List UInt8} {t : T} {fr inn k j : Nat} {d : List UInt8} (h : LayRel w0 w wr S ov wd l R t fr inn k j d) : d.length ≤ R.length := by
  have := congrArg List.length h.eq
  rw [List.length_append] at this
  omega
/-- What the next Kid takes. -/
theorem LayRel.room {w0 w wr : World} {S : Nat} {ov : Value} {wd : Nat} {l R : List UInt8} {t : T} {fr inn k j : Nat} {d : List UInt8} (h : LayRel w0 w wr S ov wd l R t fr inn k j d) (hj : fr + j < t.ks.length) :
    d.length + ((if 0 < fr + j then 10 :: blk inn else []).length + (linF t.ks[fr + j].form inn wd (if fr + j + 1 = t.ks.length then k + 1 else 0)).length) ≤ R.length := by
  have := congrArg List.length h.eq
  rw [linL_next (by simpa using hj) (by omega)] at this
  simp only [List.length_append, List.getElem_map, List.length_map] at this
  omega
theorem LayRel.next {w0 w wr w2 : World} {S : Nat} {ov ov2 : Value} {wd : Nat} {l R : List UInt8} {t : T} {fr inn k j : Nat} {d : List UInt8} (h : LayRel w0 w wr S ov wd l R t fr inn k j d) (hj : fr + j < t.ks.length) (hw : w.heap.size ≠ S) (hk : Kept S wr w2)
    (x : List UInt8) (hx : x = (if 0 < fr + j then 10 :: blk inn else []) ++ linF t.ks[fr + j].form inn wd (if fr + j + 1 = t.ks.length then k + 1 else 0)) (hs : Sh w0 w2 S ov2 wd (l ++ d ++ x)) : LayRel w0 w w2 S ov2 wd l R t fr inn k (j + 1) (d ++ x) := by
  refine ⟨by omega, ?_, by rw [← List.append_assoc]; exact hs, h.kept.trans hk, hk.box h.box hw⟩
  rw [h.eq, linL_next (by simpa using hj) (by omega), hx]
  simp [Nat.add_assoc]
theorem LayRel.fin {w0 w wr : World} {S : Nat} {ov : Value} {wd : Nat} {l R : List UInt8} {t : T} {fr inn k j : Nat} {d : List UInt8} (h : LayRel w0 w wr S ov wd l R t fr inn k j d) (hj : t.ks.length ≤ fr + j) : l ++ d ++ [41] = l ++ R := by
  rw [h.eq, linL_end (by simpa using hj)]
  simp
/-- The first line. -/
theorem lin_go {f : Fm} {c w k : Nat} (hx : ¬ (c + (txF f).length + k ≤ w ∨ f.kd ≠ 3 ∨ f.ks = [])) :
    linF f c w k = (40 :: joinB ((f.ks.take (frN f.ks)).map txF)) ++ (linL (f.ks.drop (frN f.ks + 0)) (frN f.ks) (frN f.ks + 0) (c + indN f.ks) w k ++ [41]) := by
  rw [linF_eq, if_neg hx, linL_skip (frN f.ks) f.ks (frN f.ks) 0 _ _ _ (by omega) (frN_le _).1, Nat.zero_add]
  simp

set_option linter.unusedSimpArgs false in
set_option maxHeartbeats 8000000 in
set_option maxRecDepth 100000 in
theorem lay_any (n : Nat) : ∀ t : T, SizeOf.sizeOf t < n → ∀ (c k wd : Nat) (w0 w : World) (S : Nat) (ov : Value) (l : List UInt8), Sh w0 w S ov wd l → In w0 t → validF t.form = true → Tab w0.heap.size w0 →
    c + 2 * dpF t.form ≤ 400 → wd ≤ 200 → k + dpF t.form ≤ 1000 → l.length + (linF t.form c wd k).length ≤ 200000000 →
    Calls Tryz.prog 72 #[.pointer (some ⟨S, 0, none⟩), t.val, .int .i64 c, .int .i64 k] w fun e w' => Wrote w0 w w' S wd l (linF t.form c wd k) e := by
  induction n with
  | zero => intro t h; omega
  | succ n ih =>
    intro t hn c k wd w0 w S ov l h hin hv htab hc hwd hk hlen
    have hvp := valid_parts hv
    have n1 := Nat.le_trans hin.ok.le hin.ok.cp
    have n2 := hin.ok.le
    have n3 := hin.ok.cp
    unfold maxLen at n1 n3
    obtain ⟨R, hR⟩ : ∃ R, linF t.form c wd k = R := ⟨_, rfl⟩
    have hsl : (txF t.form).length ≤ 80200000 := by have := txF_len hvp.2.2; omega
    have cc0 : (0 : Int) ≤ (c : Int) := by omega
    have cc1 : (c : Int) ≤ 400 := by omega
    have cc2 : (wd : Int) ≤ 200 := by omega
    have cc3 : (k : Int) ≤ 1000 := by omega
    have hSw := lt_of_block h.blk
    have hxb := heap_alloc_new w (.cells #[.int .i64 t.kd, .int .i64 t.nn, .string t.tx, .slice t.ad t.ks.length t.cp] 29)
    have HBX : Hid (Box4 (w.alloc (.cells #[.int .i64 t.kd, .int .i64 t.nn, .string t.tx, .slice t.ad t.ks.length t.cp] 29)) w.heap.size t) := Lib.hid hxb
    have HB0 : Hid (Below w.heap.size w (w.alloc (.cells #[.int .i64 t.kd, .int .i64 t.nn, .string t.tx, .slice t.ad t.ks.length t.cp] 29))) := Lib.hid (bel1 _ _)
    have HS0 : Hid (Sh w0 (w.alloc (.cells #[.int .i64 t.kd, .int .i64 t.nn, .string t.tx, .slice t.ad t.ks.length t.cp] 29)) S ov wd l) := Lib.hid (h.alloc _)
    have HWR : Hid (∀ W, Sh w0 W S ov wd l → Calls Tryz.prog 101 #[.pointer (some ⟨S, 0, none⟩), t.val] W fun e w' => Wrote w0 W w' S wd l (txF t.form) e) := Lib.hid fun W hs =>
      write_any t w0 W S ov wd l hs (hin.below hs.below) hv (Tab.mono (htab.on hs.below) hs.below.size) (by omega)
    by_cases he : t.ks = []
    · have hRt : txF t.form = R := by rw [← hR, linF_eq, if_pos (.inr (.inr (by rw [T.form_ks, he]; rfl)))]
      have HRT := Lib.hid hRt
      have hl0 : t.ks.length = 0 := by rw [he]; rfl
      have hval : t.val = .agg #[.int .i64 t.kd, .int .i64 t.nn, .string t.tx, .slice t.ad 0 t.cp] := by rw [← hl0, T.val]
      rw [hR]
      have hbc := HBX.out.cells
      rw [hl0] at hbc
      rw [hl0] at HB0 HS0
      have HBC := Lib.hid hbc
      rw [hval] at HWR
      rw [hval]
      have hsc := HS0.out.cells
      clear ih hR he hl0 hval hRt hxb hin hv htab hvp h HBX hbc
      go_enter Tryz.func72, Tryz.ntmps72
      go_wp2_with fail
      go_quiet (fail)
      go_wp2_with (go_at_call 101; (with_reducible refine (HWR.out _ (HS0.out.drewN _)).mono ?_); rintro e w2 ⟨rfl, ov2, hs2, hk2⟩; have HS2 := Lib.hid hs2; have HK2 := Lib.hid hk2; clear hs2 hk2)
      refine bodyPost_ret (results_none (by rfl) _ _ _) rfl ?_
      exact ⟨rfl, ov2, by rw [← HRT.out]; exact HS2.out, (Kept.of (below_drewN' HB0.out _)).trans HK2.out⟩
    · have hpos : 0 < t.ks.length := List.length_pos_iff.2 he
      have hfne : t.form.ks ≠ [] := by rw [T.form_ks]; intro e; exact he (List.map_eq_nil_iff.1 e)
      have hkd : t.kd = 3 := by
        have := (txF_list hvp.2.2 hfne).1
        rwa [T.form_kd] at this
      have hwS : w.heap.size ≠ S := by omega
      obtain ⟨a, ha⟩ : ∃ a, t.ad = a := ⟨_, rfl⟩
      have HK : Hid (∀ W, Below w0.heap.size w0 W → InL W a 0 t.ks) := Lib.hid fun W h => by rw [← ha]; exact (hin.below h).inL
      obtain ⟨b, o, rfl⟩ : ∃ b o, a = some ⟨b, o, none⟩ := by
        obtain ⟨⟨b, o, e, _⟩, _⟩ := (HK.out w0 (Below.refl _ _)).at 0 hpos
        exact ⟨b, o, e⟩
      have HKC : Hid (∀ W, Below w0.heap.size w0 W → ∀ i (h : i < t.ks.length), Cells4 W b (o + i * 4) t.ks[i] ∧ b < W.heap.size) := Lib.hid fun W hB i h => by
        obtain ⟨⟨b', o', e, hc⟩, _⟩ := (HK.out W hB).at i h
        injection e with e
        injection e with e1 e2 e3
        subst e1 e2
        exact ⟨hc, World.block_lt_of_cell? _ _ hc.1⟩
      have HAD := Lib.hid ha
      have HSP : Hid (Calls Tryz.prog 100 #[t.val, .int .i64 ((wd : Int) - (c : Int) - (k : Int))] (w.alloc (.cells #[.int .i64 t.kd, .int .i64 t.nn, .string t.tx, .slice t.ad t.ks.length t.cp] 29)).drew fun e w' => e = .returned (.int .i64 (spF t.form ((wd : Int) - (c : Int) - (k : Int)))) ∧ Below (w.alloc (.cells #[.int .i64 t.kd, .int .i64 t.nn, .string t.tx, .slice t.ad t.ks.length t.cp] 29)).drew.heap.size (w.alloc (.cells #[.int .i64 t.kd, .int .i64 t.nn, .string t.tx, .slice t.ad t.ks.length t.cp] 29)).drew w') :=
        Lib.hid (spare_any _ t (Nat.lt_succ_self _) _ _ (hin.below HS0.out.drew.below) hv (by omega) (by omega) (Tab.mono (htab.on HS0.out.drew.below) HS0.out.drew.below.size))
      have hroom0 := sp_room hvp.2.2 ((wd : Int) - (c : Int) - (k : Int))
      have hval : t.val = .agg #[.int .i64 t.kd, .int .i64 t.nn, .string t.tx, .slice (some ⟨b, o, none⟩) t.ks.length t.cp] := by rw [← ha, T.val]
      have b0 : ((t.ks.length : Int) == 0) = false := by simp; exact he
      have wr1 : IntKind.i64.wrap ((wd : Int) - (c : Int)) = (wd : Int) - (c : Int) := by rw [IntKind.wrap_i64]; omega
      have wr2 : IntKind.i64.wrap ((wd : Int) - (c : Int) - (k : Int)) = (wd : Int) - (c : Int) - (k : Int) := by rw [IntKind.wrap_i64]; omega
      have hX := HBX.out.cells
      have hXN : ∀ w2, Below (w.alloc (.cells #[.int .i64 t.kd, .int .i64 t.nn, .string t.tx, .slice t.ad t.ks.length t.cp] 29)).drew.heap.size (w.alloc (.cells #[.int .i64 t.kd, .int .i64 t.nn, .string t.tx, .slice t.ad t.ks.length t.cp] 29)).drew w2 → Box4 w2 w.heap.size t := fun w2 hB => (hB.block _ (lt_of_block HBX.out)).trans HBX.out
      have hXC : ∀ w2, Box4 w2 w.heap.size t → w2.cell? ⟨w.heap.size, 0, none⟩ = some (.int .i64 t.kd) ∧ w2.cell? ⟨w.heap.size, 1, none⟩ = some (.int .i64 t.nn) ∧ w2.cell? ⟨w.heap.size, 2, none⟩ = some (.string t.tx) ∧ w2.cell? ⟨w.heap.size, 3, none⟩ = some (.slice (some ⟨b, o, none⟩) t.ks.length t.cp) := fun w2 hb => box_cells hb ha
      rw [ha] at HSP hX hXN HB0 HS0 HBX
      rw [hval] at HSP HWR
      rw [hval]
      have HX : Hid ((w.alloc (.cells #[.int .i64 t.kd, .int .i64 t.nn, .string t.tx, .slice (some ⟨b, o, none⟩) t.ks.length t.cp] 29)).drew.cell? ⟨w.heap.size, 0, none⟩ = some (.int .i64 t.kd) ∧ (w.alloc (.cells #[.int .i64 t.kd, .int .i64 t.nn, .string t.tx, .slice (some ⟨b, o, none⟩) t.ks.length t.cp] 29)).drew.cell? ⟨w.heap.size, 1, none⟩ = some (.int .i64 t.nn) ∧ (w.alloc (.cells #[.int .i64 t.kd, .int .i64 t.nn, .string t.tx, .slice (some ⟨b, o, none⟩) t.ks.length t.cp] 29)).drew.cell? ⟨w.heap.size, 2, none⟩ = some (.string t.tx) ∧ (w.alloc (.cells #[.int .i64 t.kd, .int .i64 t.nn, .string t.tx, .slice (some ⟨b, o, none⟩) t.ks.length t.cp] 29)).drew.cell? ⟨w.heap.size, 3, none⟩ = some (.slice (some ⟨b, o, none⟩) t.ks.length t.cp)) := Lib.hid hX
      have HXN := Lib.hid (fun w2 hB => hXC w2 (hXN w2 hB))
      have HXB := Lib.hid hXN
      clear hX hXN hXC h hxb HBX ha
      rw [hR]
      by_cases hfit : 0 ≤ spF t.form ((wd : Int) - (c : Int) - (k : Int))
      · have HRT : Hid (txF t.form = R) := Lib.hid (by rw [← hR, linF_eq, if_pos (.inl (by have := hroom0.1 hfit; omega))])
        obtain ⟨sp, hsp⟩ : ∃ sp, spF t.form ((wd : Int) - (c : Int) - (k : Int)) = sp := ⟨_, rfl⟩
        rw [hsp] at HSP hfit
        clear ih hR he hval hin hv hvp htab hroom0 hsp hfne HK hkd
        go_enter Tryz.func72, Tryz.ntmps72
        go_wp2_with fail
        go_region_held3 (fun w' => w'.cell? ⟨w.heap.size, 0, none⟩ = some (.int .i64 t.kd) ∧ w'.cell? ⟨w.heap.size, 1, none⟩ = some (.int .i64 t.nn) ∧ w'.cell? ⟨w.heap.size, 2, none⟩ = some (.string t.tx) ∧ w'.cell? ⟨w.heap.size, 3, none⟩ = some (.slice (some ⟨b, o, none⟩) t.ks.length t.cp) ∧ w'.cell? ⟨S, 1, none⟩ = some (.int .i64 wd))
          (first
            | exact ⟨HX.out.1, HX.out.2.1, HX.out.2.2.1, HX.out.2.2.2, HS0.out.drew.cells.2.1⟩
            | exact ⟨HX2.out.1, HX2.out.2.1, HX2.out.2.2.1, HX2.out.2.2.2, HS2.out.cells.2.1⟩)
          (first
            | (go_at_call 100; (with_reducible refine HSP.out.mono ?_); rintro e w2 ⟨rfl, hB⟩; have HX2 := Lib.hid (HXN.out _ hB); have HX2B := Lib.hid (HXB.out _ hB); have HS2 := Lib.hid (HS0.out.drew.next hB); have HB2 := Lib.hid hB; clear hB))
        go_wp2_with (go_at_call 101; (with_reducible refine (HWR.out _ HS2.out).mono ?_); rintro e w3 ⟨rfl, ov3, hs3, hk3⟩; have HS3 := Lib.hid hs3; have HK3 := Lib.hid hk3; clear hs3 hk3)
        refine bodyPost_ret (results_none (by rfl) _ _ _) rfl ?_
        exact ⟨rfl, ov3, by rw [← HRT.out]; exact HS3.out, ((Kept.of HB0.out.drew).below HB2.out).trans HK3.out⟩
      · have hx0 : ¬ (c + (txF t.form).length + k ≤ wd ∨ t.form.kd ≠ 3 ∨ t.form.ks = []) := by
          intro h
          rcases h with h | h | h
          · exact hfit (hroom0.2 (by omega))
          · rw [T.form_kd] at h; exact h hkd
          · exact hfne h
        obtain ⟨fr, hfr⟩ : ∃ fr, frN t.form.ks = fr := ⟨_, rfl⟩
        have hf1 : fr ≤ t.ks.length := by have := (frN_le t.form.ks).1; rw [hfr, T.form_ks, List.length_map] at this; exact this
        have hf2 : fr ≤ 2 := by have := (frN_le t.form.ks).2; rwa [hfr] at this
        have hf3 : (fr : Int) ≤ (t.ks.length : Int) := by omega
        have hf4 : (fr : Int) ≤ (t.cp : Int) := by omega
        have hf5 : (0 : Int) ≤ (fr : Int) := by omega
        have hf6 : fr ≤ t.cp := by omega
        have hf7 : (t.ks.length : Int) ≤ (t.cp : Int) := by omega
        have HFK : Hid (∀ W, Below w0.heap.size w0 W → Calls Tryz.prog 102 #[t.val] W fun e w' => e = .returned (.int .i64 fr) ∧ Below W.heap.size W w') := Lib.hid fun W hB => by
          have := frontKids_any t W (hin.below hB) hv hkd he
          rwa [hfr] at this
        have HLF : Hid (∀ W ov2, Sh w0 W S ov2 wd l → Calls Tryz.prog 103 #[.pointer (some ⟨S, 0, none⟩), .slice (some ⟨b, o, none⟩) fr t.cp] W fun e w' => Wrote w0 W w' S wd l (40 :: joinB ((t.form.ks.take fr).map txF)) e) := Lib.hid fun W ov2 hs => by
          have e1 : (t.ks.take fr).length = fr := by rw [List.length_take]; omega
          have e2 : (t.ks.take fr).map (fun x => txF x.form) = (t.form.ks.take fr).map txF := by rw [T.form_ks, ← List.map_take, List.map_map]; rfl
          have := layFront_any (t.ks.take fr) b o t.cp (by omega) w0 W S ov2 wd l hs (fun W hB i h => by
              have := HKC.out W hB i (by omega)
              rwa [List.getElem_take]) (fun x hx => ⟨by
                obtain ⟨i, hi, e⟩ := List.getElem_of_mem (List.mem_of_mem_take hx)
                rw [← e]; exact hin.kid i hi, (valid_kid hv (by rw [T.form_kd]; exact hkd) (by rw [T.form_ks]; exact List.mem_map_of_mem (List.mem_of_mem_take hx))).1⟩) htab (by omega)
          rw [e1, e2] at this
          exact this
        have HIH : Hid (∀ x ∈ t.ks, ∀ (u v : Int) (inn kk : Nat) W ov2 l2, u = (inn : Int) → v = (kk : Int) → inn = c + indN t.form.ks → kk ≤ k + 1 → Sh w0 W S ov2 wd l2 → l2.length + (linF x.form inn wd kk).length ≤ 200000000 → Calls Tryz.prog 72 #[.pointer (some ⟨S, 0, none⟩), x.val, .int .i64 u, .int .i64 v] W fun e w' => Wrote w0 W w' S wd l2 (linF x.form inn wd kk) e) :=
          Lib.hid fun x hx u v inn kk W ov2 l2 eu ev ei hkk hs hl => by
            subst eu ev ei
            obtain ⟨i, hi, e⟩ := List.getElem_of_mem hx
            have hq := valid_kid hv (by rw [T.form_kd]; exact hkd) (by rw [T.form_ks]; exact List.mem_map_of_mem hx : x.form ∈ t.form.ks)
            have hind : indN t.form.ks ≤ 2 := by unfold indN; split <;> omega
            exact ih x (by have := T.kid_lt hx; omega) _ kk wd w0 W S ov2 l2 hs (by rw [← e]; exact hin.kid i hi) hq.1 htab (by omega) hwd (by omega) hl
        obtain ⟨sp, hsp⟩ : ∃ sp, spF t.form ((wd : Int) - (c : Int) - (k : Int)) = sp := ⟨_, rfl⟩
        rw [hsp] at HSP hfit
        rw [hR] at hlen
        rw [hval] at HFK
        clear htab hroom0 hsp hfne HK hkd
        by_cases hf0 : fr = 0
        · have hind : indN t.form.ks = 1 := by unfold indN; rw [hfr, if_pos hf0]
          have g9 : ¬ (0 : Int) < (fr : Int) := by omega
          have g9d : decide (0 < fr) = false := by simp; omega
          rw [hind] at HIH
          clear hf0
          have HST : Hid (∀ wr ov2, Sh w0 wr S ov2 wd (l ++ (40 :: joinB ((t.form.ks.take fr).map txF))) → Kept S w wr → Box4 wr w.heap.size t → LayRel w0 w wr S ov2 wd l R t fr (c + 1) k 0 (40 :: joinB ((t.form.ks.take fr).map txF))) := Lib.hid fun wr ov2 hs hk hb => ⟨by omega, by rw [← hR, lin_go hx0, hfr, hind, T.form_ks], hs, hk, hb⟩
          clear ih hR he hv hvp hx0 hfr hind hin hval
          go_enter Tryz.func72, Tryz.ntmps72
          go_wp2_with fail
          go_region_held3 (fun w' => w'.cell? ⟨w.heap.size, 0, none⟩ = some (.int .i64 t.kd) ∧ w'.cell? ⟨w.heap.size, 1, none⟩ = some (.int .i64 t.nn) ∧ w'.cell? ⟨w.heap.size, 2, none⟩ = some (.string t.tx) ∧ w'.cell? ⟨w.heap.size, 3, none⟩ = some (.slice (some ⟨b, o, none⟩) t.ks.length t.cp) ∧ w'.cell? ⟨S, 1, none⟩ = some (.int .i64 wd))
            (first
              | exact ⟨HX.out.1, HX.out.2.1, HX.out.2.2.1, HX.out.2.2.2, HS0.out.drew.cells.2.1⟩
              | exact ⟨HX2.out.1, HX2.out.2.1, HX2.out.2.2.1, HX2.out.2.2.2, HS2.out.cells.2.1⟩)
            (first
              | (go_at_call 100; (with_reducible refine HSP.out.mono ?_); rintro e w2 ⟨rfl, hB⟩; have HX2 := Lib.hid (HXN.out _ hB); have HX2B := Lib.hid (HXB.out _ hB); have HS2 := Lib.hid (HS0.out.drew.next hB); have HB2 := Lib.hid hB; clear hB))
          go_wp2_with (first
            | (go_at_call 102; (with_reducible refine (HFK.out _ HS2.out.below).mono ?_); rintro e w3 ⟨rfl, hB⟩; obtain ⟨c0, c1, c2, c3⟩ := box_cells ((hB.block _ (lt_of_block HX2B.out)).trans HX2B.out) HAD.out; have HX3B : Hid (Box4 _ w.heap.size t) := Lib.hid ((hB.block _ (lt_of_block HX2B.out)).trans HX2B.out); have HS3 := Lib.hid (HS2.out.next hB); have HB3 := Lib.hid hB; clear hB)
            | (go_at_call 103; (with_reducible refine (HLF.out _ _ HS3.out).mono ?_); rintro e w4 ⟨rfl, ov4, hs4, hk4⟩; obtain ⟨c0, c1, c2, c3⟩ := box_cells (hk4.box HX3B.out hwS) HAD.out; have HS4 := Lib.hid hs4; have HK4 := Lib.hid hk4; clear hs4 hk4))
          go_loopg [52] (t.ks.length - fr) (fun m i wr => ∃ (j : Nat) (ov' : Value) (d : List UInt8), m = t.ks.length - fr - j ∧ i = .int .i64 j ∧ LayRel w0 w wr S ov' wd l R t fr (c + 1) k j d)
          case atStart => exact ⟨0, ov4, _, rfl, rfl, HST.out _ _ HS4.out (((Kept.of HB0.out.drew).below (up HB2.out HB3.out)).trans HK4.out) (HK4.out.box HX3B.out hwS)⟩
          case round =>
            obtain ⟨j, ov', d, rfl, rfl, hrl⟩ := hrel
            have hle := hrl.le
            have hdl := hrl.dlen
            have hsS := lt_of_block hrl.sh.blk
            have lbt : w.heap.size < wr.heap.size := lt_of_block hrl.box
            obtain ⟨c0, c1, c2, c3⟩ := box_cells hrl.box HAD.out
            have HRL := Lib.hid hrl
            by_cases hlt : fr + j < t.ks.length
            · have hroom := hrl.room hlt
              obtain ⟨⟨x0, x1, x2, x3⟩, lb⟩ := HKC.out wr hrl.sh.below (fr + j) hlt
              rw [Nat.add_mul, ← Nat.add_assoc] at x0 x1 x2 x3
              have gi : (j : Int) < (t.ks.length : Int) - (fr : Int) := by omega
              have gi2 : (0 : Int) ≤ (j : Int) := by omega
              have gi3 : j < t.ks.length - fr := by omega
              have hxm := List.getElem_mem hlt
              obtain ⟨x, hx⟩ : ∃ x, t.ks[fr + j] = x := ⟨_, rfl⟩
              rw [hx] at x0 x1 x2 x3 hxm hroom
              have HA := Lib.hid (hrl.sh.alloc (.cells #[.int .i64 x.kd, .int .i64 x.nn, .string x.tx, .slice x.ad x.ks.length x.cp] 29))
              have hxb : Box4 (wr.alloc (.cells #[.int .i64 x.kd, .int .i64 x.nn, .string x.tx, .slice x.ad x.ks.length x.cp] 29)) wr.heap.size x := heap_alloc_new wr _
              have HXB := Lib.hid hxb
              have HTB : Hid (Box4 (wr.alloc (.cells #[.int .i64 x.kd, .int .i64 x.nn, .string x.tx, .slice x.ad x.ks.length x.cp] 29)) w.heap.size t) := Lib.hid (((Kept.refl S wr).alloc _).box hrl.box hwS)
              clear hrl hxb
              by_cases hl1 : fr + j + 1 = t.ks.length
              · have g2 : ((fr : Int) + (j : Int) == (t.ks.length : Int) - 1) = true := by simp; omega
                rw [if_pos hl1] at hroom
                by_cases h0 : 0 < fr + j
                · have g0 : (0 : Int) < (fr : Int) + (j : Int) := by omega
                  have HC : Hid (∀ W ov2 l2, Sh w0 W S ov2 wd l2 → l2.length ≤ l.length + d.length + (if 0 < fr + j then 10 :: blk (c + 1) else []).length → Calls Tryz.prog 72 #[.pointer (some ⟨S, 0, none⟩), x.val, .int .i64 ((c : Int) + 1), .int .i64 ((k : Int) + 1)] W fun e w' => Wrote w0 W w' S wd l2 (linF x.form (c + 1) wd (k + 1)) e) := Lib.hid fun W ov2 l2 hs hl => HIH.out x hxm _ _ (c + 1) (k + 1) W ov2 l2 (by simp) (by simp) rfl (Nat.le_refl _) hs (by omega)
                  have HNX : Hid (∀ w2 ov2, Kept S wr w2 → Sh w0 w2 S ov2 wd (l ++ d ++ (10 :: blk (c + 1) ++ linF x.form (c + 1) wd (k + 1))) → LayRel w0 w w2 S ov2 wd l R t fr (c + 1) k (j + 1) (d ++ (10 :: blk (c + 1) ++ linF x.form (c + 1) wd (k + 1)))) := Lib.hid fun w2 ov2 hk hs => HRL.out.next hlt hwS hk _ (by rw [if_pos h0, if_pos hl1, hx]) hs
                  have HSL : Hid (Calls Tryz.prog 104 #[.pointer (some ⟨S, 0, none⟩), .int .i64 ((c : Int) + 1)] (wr.alloc (.cells #[.int .i64 x.kd, .int .i64 x.nn, .string x.tx, .slice x.ad x.ks.length x.cp] 29)) fun e w' => Wrote w0 (wr.alloc (.cells #[.int .i64 x.kd, .int .i64 x.nn, .string x.tx, .slice x.ad x.ks.length x.cp] 29)) w' S wd (l ++ d) (10 :: blk (c + 1)) e) := Lib.hid (by rw [show ((c : Int) + 1) = ((c + 1 : Nat) : Int) by simp]; exact startLine_any (c + 1) (by omega) w0 _ S ov' wd (l ++ d) HA.out (by rw [List.length_append]; omega))
                  have hl2 : (l ++ d).length = l.length + d.length := List.length_append
                  clear hx hroom
                  go_wp2_with (first
                    | (go_at_call 104; (with_reducible refine HSL.out.mono ?_); rintro e w5 ⟨rfl, ov5, hs5, hk5⟩; obtain ⟨c0, c1, c2, c3⟩ := box_cells (hk5.box (HTB.out) hwS) HAD.out; obtain ⟨z0, z1, z2, z3⟩ := (hk5.box HXB.out (by omega)).cells; have HS5 := Lib.hid hs5; have HK5 := Lib.hid hk5; clear hs5 hk5)
                    | (go_at_call 72; (with_reducible refine (HC.out _ _ _ HS5.out (by rw [List.length_append, if_pos h0]; omega)).mono ?_); rintro e w6 ⟨rfl, ov6, hs6, hk6⟩; have HS6 := Lib.hid hs6; have HK6 := Lib.hid hk6; clear hs6 hk6))
                  go_roundg (t.ks.length - fr - (j + 1))
                  case measure => omega
                  case rel => exact ⟨j + 1, ov6, _, rfl, by go_num, HNX.out _ ov6 (((Kept.refl S wr).alloc _).trans (HK5.out.trans HK6.out)) (by have := HS6.out; simpa using this)⟩
                · have g0 : ¬ (0 : Int) < (fr : Int) + (j : Int) := by omega
                  have HC : Hid (∀ W ov2 l2, Sh w0 W S ov2 wd l2 → l2.length ≤ l.length + d.length + (if 0 < fr + j then 10 :: blk (c + 1) else []).length → Calls Tryz.prog 72 #[.pointer (some ⟨S, 0, none⟩), x.val, .int .i64 ((c : Int) + 1), .int .i64 ((k : Int) + 1)] W fun e w' => Wrote w0 W w' S wd l2 (linF x.form (c + 1) wd (k + 1)) e) := Lib.hid fun W ov2 l2 hs hl => HIH.out x hxm _ _ (c + 1) (k + 1) W ov2 l2 (by simp) (by simp) rfl (Nat.le_refl _) hs (by omega)
                  have HNX : Hid (∀ w2 ov2, Kept S wr w2 → Sh w0 w2 S ov2 wd (l ++ d ++ (linF x.form (c + 1) wd (k + 1))) → LayRel w0 w w2 S ov2 wd l R t fr (c + 1) k (j + 1) (d ++ (linF x.form (c + 1) wd (k + 1)))) := Lib.hid fun w2 ov2 hk hs => HRL.out.next hlt hwS hk _ (by rw [if_neg h0, if_pos hl1, hx]; rfl) hs
                  have hl2 : (l ++ d).length = l.length + d.length := List.length_append
                  clear hx hroom
                  go_wp2_with ((go_at_call 72; (with_reducible refine (HC.out _ _ _ HA.out (by rw [if_neg h0]; simp; try omega)).mono ?_); rintro e w6 ⟨rfl, ov6, hs6, hk6⟩; have HS6 := Lib.hid hs6; have HK6 := Lib.hid hk6; clear hs6 hk6))
                  go_roundg (t.ks.length - fr - (j + 1))
                  case measure => omega
                  case rel => exact ⟨j + 1, ov6, _, rfl, by go_num, HNX.out _ ov6 (((Kept.refl S wr).alloc _).trans HK6.out) HS6.out⟩
              · have g2 : ((fr : Int) + (j : Int) == (t.ks.length : Int) - 1) = false := by simp; omega
                rw [if_neg hl1] at hroom
                by_cases h0 : 0 < fr + j
                · have g0 : (0 : Int) < (fr : Int) + (j : Int) := by omega
                  have HC : Hid (∀ W ov2 l2, Sh w0 W S ov2 wd l2 → l2.length ≤ l.length + d.length + (if 0 < fr + j then 10 :: blk (c + 1) else []).length → Calls Tryz.prog 72 #[.pointer (some ⟨S, 0, none⟩), x.val, .int .i64 ((c : Int) + 1), .int .i64 0] W fun e w' => Wrote w0 W w' S wd l2 (linF x.form (c + 1) wd 0) e) := Lib.hid fun W ov2 l2 hs hl => HIH.out x hxm _ _ (c + 1) 0 W ov2 l2 (by simp) (by rfl) rfl (Nat.zero_le _) hs (by omega)
                  have HNX : Hid (∀ w2 ov2, Kept S wr w2 → Sh w0 w2 S ov2 wd (l ++ d ++ (10 :: blk (c + 1) ++ linF x.form (c + 1) wd 0)) → LayRel w0 w w2 S ov2 wd l R t fr (c + 1) k (j + 1) (d ++ (10 :: blk (c + 1) ++ linF x.form (c + 1) wd 0))) := Lib.hid fun w2 ov2 hk hs => HRL.out.next hlt hwS hk _ (by rw [if_pos h0, if_neg hl1, hx]) hs
                  have HSL : Hid (Calls Tryz.prog 104 #[.pointer (some ⟨S, 0, none⟩), .int .i64 ((c : Int) + 1)] (wr.alloc (.cells #[.int .i64 x.kd, .int .i64 x.nn, .string x.tx, .slice x.ad x.ks.length x.cp] 29)) fun e w' => Wrote w0 (wr.alloc (.cells #[.int .i64 x.kd, .int .i64 x.nn, .string x.tx, .slice x.ad x.ks.length x.cp] 29)) w' S wd (l ++ d) (10 :: blk (c + 1)) e) := Lib.hid (by rw [show ((c : Int) + 1) = ((c + 1 : Nat) : Int) by simp]; exact startLine_any (c + 1) (by omega) w0 _ S ov' wd (l ++ d) HA.out (by rw [List.length_append]; omega))
                  have hl2 : (l ++ d).length = l.length + d.length := List.length_append
                  clear hx hroom
                  go_wp2_with (first
                    | (go_at_call 104; (with_reducible refine HSL.out.mono ?_); rintro e w5 ⟨rfl, ov5, hs5, hk5⟩; obtain ⟨c0, c1, c2, c3⟩ := box_cells (hk5.box (HTB.out) hwS) HAD.out; obtain ⟨z0, z1, z2, z3⟩ := (hk5.box HXB.out (by omega)).cells; have HS5 := Lib.hid hs5; have HK5 := Lib.hid hk5; clear hs5 hk5)
                    | (go_at_call 72; (with_reducible refine (HC.out _ _ _ HS5.out (by rw [List.length_append, if_pos h0]; omega)).mono ?_); rintro e w6 ⟨rfl, ov6, hs6, hk6⟩; have HS6 := Lib.hid hs6; have HK6 := Lib.hid hk6; clear hs6 hk6))
                  go_roundg (t.ks.length - fr - (j + 1))
                  case measure => omega
                  case rel => exact ⟨j + 1, ov6, _, rfl, by go_num, HNX.out _ ov6 (((Kept.refl S wr).alloc _).trans (HK5.out.trans HK6.out)) (by have := HS6.out; simpa using this)⟩
                · have g0 : ¬ (0 : Int) < (fr : Int) + (j : Int) := by omega
                  have HC : Hid (∀ W ov2 l2, Sh w0 W S ov2 wd l2 → l2.length ≤ l.length + d.length + (if 0 < fr + j then 10 :: blk (c + 1) else []).length → Calls Tryz.prog 72 #[.pointer (some ⟨S, 0, none⟩), x.val, .int .i64 ((c : Int) + 1), .int .i64 0] W fun e w' => Wrote w0 W w' S wd l2 (linF x.form (c + 1) wd 0) e) := Lib.hid fun W ov2 l2 hs hl => HIH.out x hxm _ _ (c + 1) 0 W ov2 l2 (by simp) (by rfl) rfl (Nat.zero_le _) hs (by omega)
                  have HNX : Hid (∀ w2 ov2, Kept S wr w2 → Sh w0 w2 S ov2 wd (l ++ d ++ (linF x.form (c + 1) wd 0)) → LayRel w0 w w2 S ov2 wd l R t fr (c + 1) k (j + 1) (d ++ (linF x.form (c + 1) wd 0))) := Lib.hid fun w2 ov2 hk hs => HRL.out.next hlt hwS hk _ (by rw [if_neg h0, if_neg hl1, hx]; rfl) hs
                  have hl2 : (l ++ d).length = l.length + d.length := List.length_append
                  clear hx hroom
                  go_wp2_with ((go_at_call 72; (with_reducible refine (HC.out _ _ _ HA.out (by rw [if_neg h0]; simp; try omega)).mono ?_); rintro e w6 ⟨rfl, ov6, hs6, hk6⟩; have HS6 := Lib.hid hs6; have HK6 := Lib.hid hk6; clear hs6 hk6))
                  go_roundg (t.ks.length - fr - (j + 1))
                  case measure => omega
                  case rel => exact ⟨j + 1, ov6, _, rfl, by go_num, HNX.out _ ov6 (((Kept.refl S wr).alloc _).trans HK6.out) HS6.out⟩
            · have gi : ¬ (j : Int) < (t.ks.length : Int) - (fr : Int) := by omega
              have gi3 : ¬ j < t.ks.length - fr := by omega
              have HFN := Lib.hid (hrl.fin (by omega))
              have HSR := Lib.hid hrl.sh
              obtain ⟨p0, _, p2⟩ := hrl.sh.cells
              have hl2 : (l ++ d).length = l.length + d.length := List.length_append
              clear hrl
              go_wp2_with (at_builtin; (refine sh_bytes rfl _ _ 46 rfl Tryz.underlying46 rfl HSR.out [41] _ (by simp [bytesV]) 1 rfl 1 _ rfl (by simp) (by omega) ?_); intro va7 vn7 vc7 w7 hm; obtain ⟨m2, m3⟩ := hm.cells; have HM7 := Lib.hid hm.store; clear hm)
              go_end0
              exact ⟨rfl, _, by rw [← HFN.out]; exact HM7.out.1, HRL.out.kept.trans HM7.out.2⟩
        · have hind : indN t.form.ks = 2 := by unfold indN; rw [hfr, if_neg hf0]
          have g9 : (0 : Int) < (fr : Int) := by omega
          have g9d : decide (0 < fr) = true := by simp; omega
          rw [hind] at HIH
          clear hf0
          have HST : Hid (∀ wr ov2, Sh w0 wr S ov2 wd (l ++ (40 :: joinB ((t.form.ks.take fr).map txF))) → Kept S w wr → Box4 wr w.heap.size t → LayRel w0 w wr S ov2 wd l R t fr (c + 2) k 0 (40 :: joinB ((t.form.ks.take fr).map txF))) := Lib.hid fun wr ov2 hs hk hb => ⟨by omega, by rw [← hR, lin_go hx0, hfr, hind, T.form_ks], hs, hk, hb⟩
          clear ih hR he hv hvp hx0 hfr hind hin hval
          go_enter Tryz.func72, Tryz.ntmps72
          go_wp2_with fail
          go_region_held3 (fun w' => w'.cell? ⟨w.heap.size, 0, none⟩ = some (.int .i64 t.kd) ∧ w'.cell? ⟨w.heap.size, 1, none⟩ = some (.int .i64 t.nn) ∧ w'.cell? ⟨w.heap.size, 2, none⟩ = some (.string t.tx) ∧ w'.cell? ⟨w.heap.size, 3, none⟩ = some (.slice (some ⟨b, o, none⟩) t.ks.length t.cp) ∧ w'.cell? ⟨S, 1, none⟩ = some (.int .i64 wd))
            (first
              | exact ⟨HX.out.1, HX.out.2.1, HX.out.2.2.1, HX.out.2.2.2, HS0.out.drew.cells.2.1⟩
              | exact ⟨HX2.out.1, HX2.out.2.1, HX2.out.2.2.1, HX2.out.2.2.2, HS2.out.cells.2.1⟩)
            (first
              | (go_at_call 100; (with_reducible refine HSP.out.mono ?_); rintro e w2 ⟨rfl, hB⟩; have HX2 := Lib.hid (HXN.out _ hB); have HX2B := Lib.hid (HXB.out _ hB); have HS2 := Lib.hid (HS0.out.drew.next hB); have HB2 := Lib.hid hB; clear hB))
          go_wp2_with (first
            | (go_at_call 102; (with_reducible refine (HFK.out _ HS2.out.below).mono ?_); rintro e w3 ⟨rfl, hB⟩; obtain ⟨c0, c1, c2, c3⟩ := box_cells ((hB.block _ (lt_of_block HX2B.out)).trans HX2B.out) HAD.out; have HX3B : Hid (Box4 _ w.heap.size t) := Lib.hid ((hB.block _ (lt_of_block HX2B.out)).trans HX2B.out); have HS3 := Lib.hid (HS2.out.next hB); have HB3 := Lib.hid hB; clear hB)
            | (go_at_call 103; (with_reducible refine (HLF.out _ _ HS3.out).mono ?_); rintro e w4 ⟨rfl, ov4, hs4, hk4⟩; obtain ⟨c0, c1, c2, c3⟩ := box_cells (hk4.box HX3B.out hwS) HAD.out; have HS4 := Lib.hid hs4; have HK4 := Lib.hid hk4; clear hs4 hk4))
          · have HCP := Lib.hid h
            clear h
            go_loopg [52] (t.ks.length - fr) (fun m i wr => ∃ (j : Nat) (ov' : Value) (d : List UInt8), m = t.ks.length - fr - j ∧ i = .int .i64 j ∧ LayRel w0 w wr S ov' wd l R t fr (c + 2) k j d)
            case atStart => exact ⟨0, ov4, _, rfl, rfl, HST.out _ _ HS4.out (((Kept.of HB0.out.drew).below (up HB2.out HB3.out)).trans HK4.out) (HK4.out.box HX3B.out hwS)⟩
            case round =>
              obtain ⟨j, ov', d, rfl, rfl, hrl⟩ := hrel
              have hle := hrl.le
              have hdl := hrl.dlen
              have hsS := lt_of_block hrl.sh.blk
              have lbt : w.heap.size < wr.heap.size := lt_of_block hrl.box
              obtain ⟨c0, c1, c2, c3⟩ := box_cells hrl.box HAD.out
              have HRL := Lib.hid hrl
              by_cases hlt : fr + j < t.ks.length
              · exact absurd hlt (by have := HCP.out; omega)
              · have gi : ¬ (j : Int) < (t.ks.length : Int) - (fr : Int) := by omega
                have gi3 : ¬ j < t.ks.length - fr := by omega
                have HFN := Lib.hid (hrl.fin (by omega))
                have HSR := Lib.hid hrl.sh
                obtain ⟨p0, _, p2⟩ := hrl.sh.cells
                have hl2 : (l ++ d).length = l.length + d.length := List.length_append
                clear hrl
                go_wp2_with (at_builtin; (refine sh_bytes rfl _ _ 46 rfl Tryz.underlying46 rfl HSR.out [41] _ (by simp [bytesV]) 1 rfl 1 _ rfl (by simp) (by omega) ?_); intro va7 vn7 vc7 w7 hm; obtain ⟨m2, m3⟩ := hm.cells; have HM7 := Lib.hid hm.store; clear hm)
                go_end0
                exact ⟨rfl, _, by rw [← HFN.out]; exact HM7.out.1, HRL.out.kept.trans HM7.out.2⟩
          · clear h
            go_loopg [52] (t.ks.length - fr) (fun m i wr => ∃ (j : Nat) (ov' : Value) (d : List UInt8), m = t.ks.length - fr - j ∧ i = .int .i64 j ∧ LayRel w0 w wr S ov' wd l R t fr (c + 2) k j d)
            case atStart => exact ⟨0, ov4, _, rfl, rfl, HST.out _ _ HS4.out (((Kept.of HB0.out.drew).below (up HB2.out HB3.out)).trans HK4.out) (HK4.out.box HX3B.out hwS)⟩
            case round =>
              obtain ⟨j, ov', d, rfl, rfl, hrl⟩ := hrel
              have hle := hrl.le
              have hdl := hrl.dlen
              have hsS := lt_of_block hrl.sh.blk
              have lbt : w.heap.size < wr.heap.size := lt_of_block hrl.box
              obtain ⟨c0, c1, c2, c3⟩ := box_cells hrl.box HAD.out
              have HRL := Lib.hid hrl
              by_cases hlt : fr + j < t.ks.length
              · have hroom := hrl.room hlt
                obtain ⟨⟨x0, x1, x2, x3⟩, lb⟩ := HKC.out wr hrl.sh.below (fr + j) hlt
                rw [Nat.add_mul, ← Nat.add_assoc] at x0 x1 x2 x3
                have gi : (j : Int) < (t.ks.length : Int) - (fr : Int) := by omega
                have gi2 : (0 : Int) ≤ (j : Int) := by omega
                have gi3 : j < t.ks.length - fr := by omega
                have hxm := List.getElem_mem hlt
                obtain ⟨x, hx⟩ : ∃ x, t.ks[fr + j] = x := ⟨_, rfl⟩
                rw [hx] at x0 x1 x2 x3 hxm hroom
                have HA := Lib.hid (hrl.sh.alloc (.cells #[.int .i64 x.kd, .int .i64 x.nn, .string x.tx, .slice x.ad x.ks.length x.cp] 29))
                have hxb : Box4 (wr.alloc (.cells #[.int .i64 x.kd, .int .i64 x.nn, .string x.tx, .slice x.ad x.ks.length x.cp] 29)) wr.heap.size x := heap_alloc_new wr _
                have HXB := Lib.hid hxb
                have HTB : Hid (Box4 (wr.alloc (.cells #[.int .i64 x.kd, .int .i64 x.nn, .string x.tx, .slice x.ad x.ks.length x.cp] 29)) w.heap.size t) := Lib.hid (((Kept.refl S wr).alloc _).box hrl.box hwS)
                clear hrl hxb
                by_cases hl1 : fr + j + 1 = t.ks.length
                · have g2 : ((fr : Int) + (j : Int) == (t.ks.length : Int) - 1) = true := by simp; omega
                  rw [if_pos hl1] at hroom
                  by_cases h0 : 0 < fr + j
                  · have g0 : (0 : Int) < (fr : Int) + (j : Int) := by omega
                    have HC : Hid (∀ W ov2 l2, Sh w0 W S ov2 wd l2 → l2.length ≤ l.length + d.length + (if 0 < fr + j then 10 :: blk (c + 2) else []).length → Calls Tryz.prog 72 #[.pointer (some ⟨S, 0, none⟩), x.val, .int .i64 ((c : Int) + 2), .int .i64 ((k : Int) + 1)] W fun e w' => Wrote w0 W w' S wd l2 (linF x.form (c + 2) wd (k + 1)) e) := Lib.hid fun W ov2 l2 hs hl => HIH.out x hxm _ _ (c + 2) (k + 1) W ov2 l2 (by simp) (by simp) rfl (Nat.le_refl _) hs (by omega)
                    have HNX : Hid (∀ w2 ov2, Kept S wr w2 → Sh w0 w2 S ov2 wd (l ++ d ++ (10 :: blk (c + 2) ++ linF x.form (c + 2) wd (k + 1))) → LayRel w0 w w2 S ov2 wd l R t fr (c + 2) k (j + 1) (d ++ (10 :: blk (c + 2) ++ linF x.form (c + 2) wd (k + 1)))) := Lib.hid fun w2 ov2 hk hs => HRL.out.next hlt hwS hk _ (by rw [if_pos h0, if_pos hl1, hx]) hs
                    have HSL : Hid (Calls Tryz.prog 104 #[.pointer (some ⟨S, 0, none⟩), .int .i64 ((c : Int) + 2)] (wr.alloc (.cells #[.int .i64 x.kd, .int .i64 x.nn, .string x.tx, .slice x.ad x.ks.length x.cp] 29)) fun e w' => Wrote w0 (wr.alloc (.cells #[.int .i64 x.kd, .int .i64 x.nn, .string x.tx, .slice x.ad x.ks.length x.cp] 29)) w' S wd (l ++ d) (10 :: blk (c + 2)) e) := Lib.hid (by rw [show ((c : Int) + 2) = ((c + 2 : Nat) : Int) by simp]; exact startLine_any (c + 2) (by omega) w0 _ S ov' wd (l ++ d) HA.out (by rw [List.length_append]; omega))
                    have hl2 : (l ++ d).length = l.length + d.length := List.length_append
                    clear hx hroom
                    go_wp2_with (first
                      | (go_at_call 104; (with_reducible refine HSL.out.mono ?_); rintro e w5 ⟨rfl, ov5, hs5, hk5⟩; obtain ⟨c0, c1, c2, c3⟩ := box_cells (hk5.box (HTB.out) hwS) HAD.out; obtain ⟨z0, z1, z2, z3⟩ := (hk5.box HXB.out (by omega)).cells; have HS5 := Lib.hid hs5; have HK5 := Lib.hid hk5; clear hs5 hk5)
                      | (go_at_call 72; (with_reducible refine (HC.out _ _ _ HS5.out (by rw [List.length_append, if_pos h0]; omega)).mono ?_); rintro e w6 ⟨rfl, ov6, hs6, hk6⟩; have HS6 := Lib.hid hs6; have HK6 := Lib.hid hk6; clear hs6 hk6))
                    go_roundg (t.ks.length - fr - (j + 1))
                    case measure => omega
                    case rel => exact ⟨j + 1, ov6, _, rfl, by go_num, HNX.out _ ov6 (((Kept.refl S wr).alloc _).trans (HK5.out.trans HK6.out)) (by have := HS6.out; simpa using this)⟩
                  · exact absurd h0 (by omega)
                · have g2 : ((fr : Int) + (j : Int) == (t.ks.length : Int) - 1) = false := by simp; omega
                  rw [if_neg hl1] at hroom
                  by_cases h0 : 0 < fr + j
                  · have g0 : (0 : Int) < (fr : Int) + (j : Int) := by omega
                    have HC : Hid (∀ W ov2 l2, Sh w0 W S ov2 wd l2 → l2.length ≤ l.length + d.length + (if 0 < fr + j then 10 :: blk (c + 2) else []).length → Calls Tryz.prog 72 #[.pointer (some ⟨S, 0, none⟩), x.val, .int .i64 ((c : Int) + 2), .int .i64 0] W fun e w' => Wrote w0 W w' S wd l2 (linF x.form (c + 2) wd 0) e) := Lib.hid fun W ov2 l2 hs hl => HIH.out x hxm _ _ (c + 2) 0 W ov2 l2 (by simp) (by rfl) rfl (Nat.zero_le _) hs (by omega)
                    have HNX : Hid (∀ w2 ov2, Kept S wr w2 → Sh w0 w2 S ov2 wd (l ++ d ++ (10 :: blk (c + 2) ++ linF x.form (c + 2) wd 0)) → LayRel w0 w w2 S ov2 wd l R t fr (c + 2) k (j + 1) (d ++ (10 :: blk (c + 2) ++ linF x.form (c + 2) wd 0))) := Lib.hid fun w2 ov2 hk hs => HRL.out.next hlt hwS hk _ (by rw [if_pos h0, if_neg hl1, hx]) hs
                    have HSL : Hid (Calls Tryz.prog 104 #[.pointer (some ⟨S, 0, none⟩), .int .i64 ((c : Int) + 2)] (wr.alloc (.cells #[.int .i64 x.kd, .int .i64 x.nn, .string x.tx, .slice x.ad x.ks.length x.cp] 29)) fun e w' => Wrote w0 (wr.alloc (.cells #[.int .i64 x.kd, .int .i64 x.nn, .string x.tx, .slice x.ad x.ks.length x.cp] 29)) w' S wd (l ++ d) (10 :: blk (c + 2)) e) := Lib.hid (by rw [show ((c : Int) + 2) = ((c + 2 : Nat) : Int) by simp]; exact startLine_any (c + 2) (by omega) w0 _ S ov' wd (l ++ d) HA.out (by rw [List.length_append]; omega))
                    have hl2 : (l ++ d).length = l.length + d.length := List.length_append
                    clear hx hroom
                    go_wp2_with (first
                      | (go_at_call 104; (with_reducible refine HSL.out.mono ?_); rintro e w5 ⟨rfl, ov5, hs5, hk5⟩; obtain ⟨c0, c1, c2, c3⟩ := box_cells (hk5.box (HTB.out) hwS) HAD.out; obtain ⟨z0, z1, z2, z3⟩ := (hk5.box HXB.out (by omega)).cells; have HS5 := Lib.hid hs5; have HK5 := Lib.hid hk5; clear hs5 hk5)
                      | (go_at_call 72; (with_reducible refine (HC.out _ _ _ HS5.out (by rw [List.length_append, if_pos h0]; omega)).mono ?_); rintro e w6 ⟨rfl, ov6, hs6, hk6⟩; have HS6 := Lib.hid hs6; have HK6 := Lib.hid hk6; clear hs6 hk6))
                    go_roundg (t.ks.length - fr - (j + 1))
                    case measure => omega
                    case rel => exact ⟨j + 1, ov6, _, rfl, by go_num, HNX.out _ ov6 (((Kept.refl S wr).alloc _).trans (HK5.out.trans HK6.out)) (by have := HS6.out; simpa using this)⟩
                  · exact absurd h0 (by omega)
              · have gi : ¬ (j : Int) < (t.ks.length : Int) - (fr : Int) := by omega
                have gi3 : ¬ j < t.ks.length - fr := by omega
                have HFN := Lib.hid (hrl.fin (by omega))
                have HSR := Lib.hid hrl.sh
                obtain ⟨p0, _, p2⟩ := hrl.sh.cells
                have hl2 : (l ++ d).length = l.length + d.length := List.length_append
                clear hrl
                go_wp2_with (at_builtin; (refine sh_bytes rfl _ _ 46 rfl Tryz.underlying46 rfl HSR.out [41] _ (by simp [bytesV]) 1 rfl 1 _ rfl (by simp) (by omega) ?_); intro va7 vn7 vc7 w7 hm; obtain ⟨m2, m3⟩ := hm.cells; have HM7 := Lib.hid hm.store; clear hm)
                go_end0
                exact ⟨rfl, _, by rw [← HFN.out]; exact HM7.out.1, HRL.out.kept.trans HM7.out.2⟩
end Go.Proofs.YtedabholcldgbaaGreatDoor.Y

/- reader.Valid of any form, however many parts it has. -/
namespace Go.Proofs.YtedabholcldgbaaGreatDoor
open Go.RowKit Go.Deep

/-- What is left of the Kids' walk behind the first j of them: the count is small still. -/
def LeftV (l : List Fm) (d x : Int) (j : Nat) (y : Int) : Prop := walkL visValid l d x = walkL visValid (l.drop j) d y ∧ 0 ≤ y ∧ y ≤ 20000
theorem LeftV.step {l : List Fm} {d x y : Int} {j : Nat} (h : LeftV l d x j y) (hj : j < l.length) (hv : (walkF visValid l[j] d y).2 = true) : LeftV l d x (j + 1) (walkF visValid l[j] d y).1 := by
  obtain ⟨h1, h0, h2⟩ := h
  have hw := walkF_valid' _ l[j] (Nat.lt_succ_self _) d y
  have h3 := (hw.1.1 hv).1
  have h4 := hw.2 hv
  rw [List.drop_eq_getElem_cons hj, walkL, if_pos hv] at h1
  exact ⟨h1, by omega, by omega⟩
theorem LeftV.stop {l : List Fm} {d x y : Int} {j : Nat} (h : LeftV l d x j y) (hj : j < l.length) (hv : (walkF visValid l[j] d y).2 = false) : walkL visValid l d x = ((walkF visValid l[j] d y).1, false) := by
  obtain ⟨h1, _, _⟩ := h
  rw [List.drop_eq_getElem_cons hj, walkL, hv] at h1
  simpa using h1
theorem LeftV.ends {l : List Fm} {d x y : Int} {j : Nat} (h : LeftV l d x j y) (hj : l.length ≤ j) : walkL visValid l d x = (y, true) := by
  obtain ⟨h1, _, _⟩ := h
  rw [List.drop_of_length_le hj, walkL] at h1
  exact h1

set_option maxHeartbeats 1000000 in
set_option maxRecDepth 100000 in
/-- walk, handed the visit visValid. -/
theorem walk_visBig (P : Nat) (n : Nat) : ∀ t : T, SizeOf.sizeOf t < n → ∀ (d x : Int) (w : World), In w t → ¬ On t P → Cell1 w P x →
    0 ≤ x → x ≤ 20000 → 0 ≤ d → d ≤ 101 →
    Calls Tryz.prog 57 #[t.val, .int .i64 d, .func (.func 58) #[] #[.pointer (some ⟨P, 0, none⟩)]] w
      fun e w' => e = .returned (.bool (walkF visValid t.form d x).2) ∧ Cell1 w' P (walkF visValid t.form d x).1 ∧ Only P w w' := by
  induction n with
  | zero => intro t h; omega
  | succ n ih =>
    intro t hn d x w hin hno hc x0 x1 d0 d1
    have HV := Lib.hid (visValid_ok t d x P)
    have HE := walkF_eq visValid t.form d x
    have IH := Lib.hid ih
    have hb1 : x ≤ 4611686018427387904 := by omega
    have hb2 : d ≤ 4611686018427387904 := by omega
    have hP := hc.lt
    have HC := Lib.hid hc
    clear ih hc
    obtain ⟨y, hy⟩ : ∃ y, (visValid x t.form d).1 = y := ⟨_, rfl⟩
    rw [hy] at HE HV
    have HY := Lib.hid hy
    clear hy
    cases hv : (visValid x t.form d).2 with
    | false =>
      rw [hv] at HV HE
      rw [if_neg (by simp)] at HE
      rw [HE]
      clear hv HE
      go_enter Tryz.func57, Tryz.ntmps57
      go_wp2_with (go_at_call 58; refine (HV.out _ (hin.alloc _) hno (HC.out.alloc _) x0 hb1 d0 hb2).mono ?_; rintro e w2 ⟨rfl, hc2, ho2⟩)
      go_ret
      exact ⟨rfl, hc2, ((Only.refl _ _).alloc _).trans ho2⟩
    | true =>
      rw [hv] at HV HE
      rw [if_pos rfl] at HE
      have HV2 : y ≤ 20000 ∧ d ≤ 100 := by
        have h1 := HY.out
        simp only [visValid, Bool.and_eq_true, decide_eq_true_eq] at hv h1
        omega
      clear hv
      obtain ⟨a, c, xs, hxs, hlen, hmem, hInL, hkids⟩ := kids_any t
      have hlen := hlen hin.ok
      unfold maxLen at hlen
      have HK := Lib.hid hkids
      have HX := Lib.hid hxs
      have HI := Lib.hid hInL
      have HM := Lib.hid hmem
      have hs : LeftV t.form.kids (d + 1) y 0 y := ⟨by rw [List.drop_zero], by have := HY.out; simp only [visValid] at this; omega, HV2.1⟩
      rw [← hxs] at hs HE
      rw [HE]
      have HS := Lib.hid hs
      clear hxs hkids hInL hmem HY hs HX HE
      go_enter Tryz.func57, Tryz.ntmps57
      go_wp2_with (first
        | (go_at_call 58; refine (HV.out _ (hin.alloc _) hno (HC.out.alloc _) x0 hb1 d0 hb2).mono ?_; rintro e w2 ⟨rfl, hc2, ho2⟩; have hbx := (Box4.new w t).only ho2 (by omega); obtain ⟨b0, b1, b2, b3⟩ := hbx.cells; have HC2 := Lib.hid hc2; clear hbx hc2)
        | (go_at_call 71; refine (HK.out _).mono ?_; rintro e w3 ⟨rfl, hB3⟩))
      go_loopg [17] (xs.length) (fun m i wr => ∃ (j : Nat) (z : Int), j ≤ xs.length ∧ m = xs.length - j ∧ i = .int .i64 j ∧ LeftV (xs.map T.form) (d + 1) y j z ∧ Cell1 wr P z ∧ Only P w wr)
      case atStart => exact ⟨0, y, by omega, rfl, rfl, HS.out, HC2.out.below hB3, (((Only.refl _ _).alloc _).trans ho2).trans (Only.of hB3)⟩
      case round =>
        obtain ⟨j, z, hj, rfl, rfl, hL, hcz, hoz⟩ := hrel
        have HCZ := Lib.hid hcz
        by_cases hlt : j < xs.length
        · obtain ⟨⟨b, o, rfl, hx0, hx1, hx2, hx3⟩, hinj⟩ := (HI.out wr (hin.only hoz hno)).at j hlt
          have lb : b < wr.heap.size := World.block_lt_of_cell? _ _ hx0
          have hmj := HM.out _ (List.getElem_mem hlt)
          have HR := Lib.hid (IH.out xs[j] (by have := T.kid_lt hmj; omega) (d + 1) z (wr.alloc (.cells #[.int .i64 xs[j].kd, .int .i64 xs[j].nn, .string xs[j].tx, .slice xs[j].ad xs[j].ks.length xs[j].cp] 29)) (hinj.alloc _) (fun ho => hno (.kid hmj ho)) (hcz.alloc _) hL.2.1 hL.2.2 (by omega) (by omega))
          cases hv : (walkF visValid xs[j].form (d + 1) z).2 with
          | true =>
            rw [hv] at HR
            have HST := Lib.hid (hL.step (by simpa using hlt) (by simpa using hv))
            have HL := Lib.hid hL
            clear hv hcz hL b0 b1 b2 b3
            go_wp2_with (go_at_call 57; refine (HR.out).mono ?_; rintro e w4 ⟨rfl, hc4, ho4⟩)
            go_roundg (xs.length - (j + 1))
            case measure => omega
            case rel => exact ⟨j + 1, _, by omega, rfl, by go_num, HST.out, by simpa using hc4, (hoz.alloc _).trans ho4⟩
          | false =>
            rw [hv] at HR
            have HST := Lib.hid (hL.stop (by simpa using hlt) (by simpa using hv))
            clear hv hcz hL b0 b1 b2 b3
            go_wp2_with (go_at_call 57; refine (HR.out).mono ?_; rintro e w4 ⟨rfl, hc4, ho4⟩)
            go_ret
            exact ⟨ret_bool (by rw [HST.out]), by rw [HST.out]; simpa using hc4, (hoz.alloc _).trans ho4⟩
        · have HE := Lib.hid (hL.ends (by simp; omega))
          clear hL hcz
          go_wp2_with fail
          go_ret
          exact ⟨ret_bool (by rw [HE.out]), by rw [HE.out]; exact HCZ.out, hoz⟩
/-- reader.Valid. -/
theorem valid_big (t : T) (w : World) (hin : In w t) :
    Calls Tryz.prog 30 #[t.val] w fun e w' => e = .returned (.bool (validF t.form)) ∧ Below w.heap.size w w' := by
  have HW := Lib.hid fun w' g1 g3 => walk_visBig (w.heap.size + 1) _ t (Nat.lt_succ_self _) 1 0 w' g1 (fun ho => absurd (On.lt hin ho) (by omega)) g3 (by omega) (by omega) (by omega) (by omega)
  simp only [walkF_valid] at HW
  go_enter Tryz.func30, Tryz.ntmps30
  go_wp2_with (go_at_call 57; refine (HW.out _ ((hin.alloc _).alloc _) (Cell1.new2 _ _ _)).mono ?_; rintro e w2 ⟨rfl, hc, ho⟩; have HB := Lib.hid ((bel2 _ _ _).trans (ho.below (B := w.heap.size) (by omega) (by simp; omega))); clear hc ho)
  go_ret
  exact ⟨rfl, HB.out⟩
end Go.Proofs.YtedabholcldgbaaGreatDoor

/- layout.Format, and the document's own. -/
namespace Go.Proofs.YtedabholcldgbaaGreatDoor.Y
open Go.RowKit Go.Deep

theorem Sh.start {w0 w : World} (hb : Below w0.heap.size w0 w) (wd S : Nat) (hS : w.heap.size = S) : Sh w0 (w.alloc (.cells #[.slice none 0 0, .int .i64 wd] 88)) S (.slice none 0 0) wd [] := by
  subst hS
  exact ⟨heap_alloc_new w _, World.ownsRow_nil _ _ _ _, up hb (bel1 _ _), hb.size, by simp [Value.ownBlock]⟩
theorem conv_sh {w0 w : World} {S : Nat} {ov : Value} {wd : Nat} {l : List UInt8} (h : Sh w0 w S ov wd l) : (convert 46 9 ov).run Tryz.prog w = .ok (.string ⟨l.toArray⟩) w := conv_row h.own 0
set_option maxHeartbeats 4000000 in
theorem inLines_any (t : T) (w : World) (wd : Nat) (hin : In w t) (hv : validF t.form = true) (htab : Tab w.heap.size w) (hwd : wd ≤ 200) :
    Calls Tryz.prog 45 #[t.val, .int .i64 wd] w fun e w' => e = .returned (.string ⟨(linF t.form 0 wd 0).toArray⟩) ∧ Below w.heap.size w w' := by
  have hvp := valid_parts hv
  have hln := linF_len hv 0 wd 0 (by omega)
  have hs0 := Sh.start (w0 := w) (w := w.alloc (.cells #[.int .i64 t.kd, .int .i64 t.nn, .string t.tx, .slice t.ad t.ks.length t.cp] 29)) (bel1 _ _) wd (w.heap.size + 1) (by simp)
  have hl0 := (lay_any _ t (Nat.lt_succ_self _) 0 0 wd w _ _ _ [] hs0 hin hv htab (by omega) hwd (by omega) (by simp; omega))
  rw [show (((0 : Nat) : Int)) = 0 from rfl] at hl0
  have HL := Lib.hid hl0
  clear hin hv htab hvp hln hs0 hl0
  go_enter Tryz.func45, Tryz.ntmps45
  go_wp2_with (go_at_call 72; (with_reducible refine HL.out.mono ?_); rintro e w2 ⟨rfl, ov2, hs2, hk2⟩; obtain ⟨c0, c1, c2⟩ := hs2.cells; have hcv := conv_sh hs2; have HS2 := Lib.hid hs2; clear hs2 hk2)
  go_ret
  exact ⟨by simp, HS2.out.below⟩
theorem isWidth_any (x : Int) (w : World) : Calls Tryz.prog 44 #[.int .i64 x] w fun e w' => e = .returned (.bool (decide (20 ≤ x) && decide (x ≤ 200))) ∧ w = w' := by
  by_cases h : 20 ≤ x
  · have hd : decide (20 ≤ x) = true := by simpa using h
    rw [hd, Bool.true_and]
    go_enter Tryz.func44, Tryz.ntmps44
    go_wp2_with fail
    go_ret
    exact ⟨rfl, rfl⟩
  · have hd : decide (20 ≤ x) = false := by simpa using h
    rw [hd, Bool.false_and]
    go_enter Tryz.func44, Tryz.ntmps44
    go_wp2_with fail
    go_ret
    exact ⟨rfl, rfl⟩

/-- What Format answers. -/
def fmtF (f : Fm) (x : Int) : List UInt8 × Int := if 20 ≤ x ∧ x ≤ 200 ∧ validF f = true then (linF f 0 x.toNat 0, 0) else ([], 1)
theorem fmtF_no {f : Fm} {x : Int} (h : ¬ (20 ≤ x ∧ x ≤ 200 ∧ validF f = true)) : fmtF f x = ([], 1) := by unfold fmtF; rw [if_neg h]
theorem fmtF_yes {f : Fm} {wd : Nat} (h1 : 20 ≤ wd) (h2 : wd ≤ 200) (hv : validF f = true) : fmtF f (wd : Int) = (linF f 0 wd 0, 0) := by
  unfold fmtF; rw [if_pos ⟨by omega, by omega, hv⟩]; simp
def FmtEnd (w w' : World) (r : List UInt8 × Int) (e : Ending) : Prop := e = .returned (.tuple #[.string ⟨r.1.toArray⟩, .int .i64 r.2]) ∧ Below w.heap.size w w'
set_option maxHeartbeats 4000000 in
theorem format_any (t : T) (w : World) (x : Int) (hx : I64 x) (hin : In w t) (htab : Tab w.heap.size w) :
    Calls Tryz.prog 16 #[t.val, .int .i64 x] w fun e w' => FmtEnd w w' (fmtF t.form x) e := by
  obtain ⟨hx1, hx2⟩ := hx
  have HI := Lib.hid (isWidth_any x)
  by_cases hr : 20 ≤ x ∧ x ≤ 200
  · obtain ⟨wd, rfl⟩ : ∃ wd : Nat, x = wd := ⟨x.toNat, by omega⟩
    have h1 : 20 ≤ wd := by omega
    have h2 : wd ≤ 200 := by omega
    have e1 : (decide ((20 : Int) ≤ (wd : Int)) && decide ((wd : Int) ≤ 200)) = true := by simp; omega
    rw [e1] at HI
    have HV := Lib.hid (valid_big t (w.alloc (.cells #[.int .i64 t.kd, .int .i64 t.nn, .string t.tx, .slice t.ad t.ks.length t.cp] 29)) (hin.alloc _))
    have K0 := Lib.hid (Boxed.start w t)
    cases hv : validF t.form with
    | true =>
      rw [fmtF_yes h1 h2 hv]
      have HL : Hid (∀ W, Below w.heap.size w W → Calls Tryz.prog 45 #[t.val, .int .i64 wd] W fun e w' => e = .returned (.string ⟨(linF t.form 0 wd 0).toArray⟩) ∧ Below W.heap.size W w') := Lib.hid fun W hB =>
        inLines_any t W wd (hin.below hB) hv (Tab.mono (htab.on hB) hB.size) h2
      rw [hv] at HV
      obtain ⟨a, ha⟩ : ∃ a, t.ad = a := ⟨_, rfl⟩
      have HAD := Lib.hid ha
      clear hv hin htab hr e1 h1 h2 ha
      go_enter Tryz.func16, Tryz.ntmps16
      go_wp2_with (first
        | (go_at_call 44; (with_reducible refine (HI.out _).mono ?_); rintro e w1 ⟨rfl, rfl⟩)
        | (go_at_call 30; (with_reducible refine HV.out.mono ?_); rintro e w2 ⟨rfl, hB⟩; obtain ⟨c0, c1, c2, c3⟩ := Box4.cells (K0.out.next hB).1; have HB := Lib.hid (up (bel1 _ _) hB); clear hB)
        | (go_at_call 45; (with_reducible refine (HL.out _ HB.out).mono ?_); rintro e w3 ⟨rfl, hB⟩; have HB3 := Lib.hid (up HB.out hB); clear hB))
      refine bodyPost_ret (v := .tuple #[.string ⟨(linF t.form 0 wd 0).toArray⟩, .int .i64 0]) (by simp [results, Tryz.results16, go_sem]) rfl ?_
      exact ⟨rfl, HB3.out⟩
    | false =>
      rw [fmtF_no (by rw [hv]; simp)]
      rw [hv] at HV
      clear hv hin htab hr e1 h1 h2
      go_enter Tryz.func16, Tryz.ntmps16
      go_wp2_with (first
        | (go_at_call 44; (with_reducible refine (HI.out _).mono ?_); rintro e w1 ⟨rfl, rfl⟩)
        | (go_at_call 30; (with_reducible refine HV.out.mono ?_); rintro e w2 ⟨rfl, hB⟩; have HB := Lib.hid (up (bel1 _ _) hB); clear hB))
      refine bodyPost_ret (v := .tuple #[.string ⟨#[]⟩, .int .i64 1]) (by simp [results, Tryz.results16, go_sem]) rfl ?_
      exact ⟨rfl, HB.out⟩
  · have e1 : (decide (20 ≤ x) && decide (x ≤ 200)) = false := by simp; omega
    rw [e1] at HI
    rw [fmtF_no (by omega)]
    clear hr e1 hin htab
    go_enter Tryz.func16, Tryz.ntmps16
    go_wp2_with (go_at_call 44; (with_reducible refine (HI.out _).mono ?_); rintro e w1 ⟨rfl, rfl⟩)
    refine bodyPost_ret (v := .tuple #[.string ⟨#[]⟩, .int .i64 1]) (by simp [results, Tryz.results16, go_sem]) rfl ?_
    exact ⟨rfl, bel1 _ _⟩

set_option maxHeartbeats 4000000 in
theorem rformat_any (t : T) (w : World) (x : Int) (hx : I64 x) (hin : In w t) (hb : szF t.form ≤ 4611686018427387903) (htab : Tab w.heap.size w) :
    Calls Tryz.prog 17 #[t.val, .int .i64 x] w fun e w' => FmtEnd w w' (fmtF t.form x) e := by
  obtain ⟨hx1, hx2⟩ := hx
  by_cases hlo : x < 20
  · have d1 : decide (x < 20) = true := by simpa using hlo
    rw [fmtF_no (by omega)]
    clear hin hb htab
    go_enter Tryz.func17, Tryz.ntmps17
    go_wp2_with fail
    refine bodyPost_ret (v := .tuple #[.string ⟨#[]⟩, .int .i64 1]) (by simp [results, Tryz.results17, go_sem]) rfl ?_
    exact ⟨rfl, bel1 _ _⟩
  · have d1 : decide (x < 20) = false := by simpa using hlo
    by_cases hhi : 200 < x
    · have d2 : decide (200 < x) = true := by simpa using hhi
      rw [fmtF_no (by omega)]
      clear hin hb htab
      go_enter Tryz.func17, Tryz.ntmps17
      go_wp2_with fail
      refine bodyPost_ret (v := .tuple #[.string ⟨#[]⟩, .int .i64 1]) (by simp [results, Tryz.results17, go_sem]) rfl ?_
      exact ⟨rfl, bel1 _ _⟩
    · have d2 : decide (200 < x) = false := by simpa using hhi
      obtain ⟨wd, rfl⟩ : ∃ wd : Nat, x = wd := ⟨x.toNat, by omega⟩
      have h1 : 20 ≤ wd := by omega
      have h2 : wd ≤ 200 := by omega
      have HV := Lib.hid (rvalid_any t (w.alloc (.cells #[.int .i64 t.kd, .int .i64 t.nn, .string t.tx, .slice t.ad t.ks.length t.cp] 29)) (hin.alloc _) hb)
      have K0 := Lib.hid (Boxed.start w t)
      cases hv : validF t.form with
      | true =>
        have hvp := valid_parts hv
        rw [fmtF_yes h1 h2 hv]
        have HL : Hid (∀ W, Below w.heap.size w W → Calls Tryz.prog 47 #[t.val, .int .i64 0, .int .i64 wd, .int .i64 0] W fun e w' => StrEnd W w' (linF t.form 0 wd 0) e) := Lib.hid fun W hB =>
          rlin_any _ t (Nat.lt_succ_self _) 0 wd 0 W (hin.below hB) hv (by omega) h2 (by omega) (Tab.mono (htab.on hB) hB.size)
        rw [hv] at HV
        clear hv hin hb htab h1 h2 hvp
        go_enter Tryz.func17, Tryz.ntmps17
        go_wp2_with (first
          | (go_at_call 46; (with_reducible refine HV.out.mono ?_); rintro e w2 ⟨rfl, hB⟩; obtain ⟨c0, c1, c2, c3⟩ := Box4.cells (K0.out.next hB).1; have HB := Lib.hid (up (bel1 _ _) hB); clear hB)
          | (go_at_call 47; (with_reducible refine (HL.out _ HB.out).mono ?_); rintro e w3 ⟨d, rfl, hd, hB⟩; have HB3 := Lib.hid (up HB.out hB); have HD := Lib.hid (ba_list hd); clear hB hd))
        refine bodyPost_ret (v := .tuple #[.string d, .int .i64 0]) (by simp [results, Tryz.results17, go_sem]) rfl ?_
        exact ⟨by rw [HD.out], HB3.out⟩
      | false =>
        rw [fmtF_no (by rw [hv]; simp)]
        rw [hv] at HV
        clear hv hin hb htab h1 h2
        go_enter Tryz.func17, Tryz.ntmps17
        go_wp2_with (go_at_call 46; (with_reducible refine HV.out.mono ?_); rintro e w2 ⟨rfl, hB⟩; have HB := Lib.hid (up (bel1 _ _) hB); clear hB)
        refine bodyPost_ret (v := .tuple #[.string ⟨#[]⟩, .int .i64 1]) (by simp [results, Tryz.results17, go_sem]) rfl ?_
        exact ⟨rfl, HB.out⟩
end Go.Proofs.YtedabholcldgbaaGreatDoor.Y

/- layout.Same: slices.EqualFunc over forms. -/
namespace Go.Proofs.YtedabholcldgbaaGreatDoor.Y
open Go.RowKit Go.Deep

/-- Whether two lists hold the same forms. -/
def sameB (fs gs : List Fm) : Bool := (fs.length == gs.length) && (cmpL fs gs == 0)
theorem sameB_len {fs gs : List Fm} (h : fs.length ≠ gs.length) : sameB fs gs = false := by unfold sameB; simp [h]
set_option linter.unusedSimpArgs false in
set_option maxHeartbeats 2000000 in
theorem equalFunc_any (xs ys : List T) (a1 a2 : Option Addr) (c1 c2 : Nat) (n1 : xs.length ≤ maxLen) (n2 : ys.length ≤ maxLen) (w : World) (h1 : InL w a1 0 xs) (h2 : InL w a2 0 ys) :
    Calls Tryz.prog 55 #[.slice a1 xs.length c1, .slice a2 ys.length c2, .func (.func 38) #[] #[]] w
      fun e w' => e = .returned (.bool (sameB (xs.map T.form) (ys.map T.form))) ∧ Below w.heap.size w w' := by
  unfold maxLen at n1 n2
  by_cases hlen : xs.length = ys.length
  · have gl : ((xs.length : Int) != (ys.length : Int)) = false := by simp; omega
    have HCALL := Lib.hid fun (t u : T) w h1 h2 => equal_T t u w h1 h2
    obtain ⟨R, hR⟩ : ∃ R, sameB (xs.map T.form) (ys.map T.form) = R := ⟨_, rfl⟩
    rw [hR]
    have HR := Lib.hid hR
    have HL := Lib.hid hlen
    have hle : xs.length ≤ ys.length := by omega
    clear hR hlen
    go_enter Tryz.func55, Tryz.ntmps55
    go_wp2_with fail
    go_loopg [17] (xs.length) (fun m i wr => ∃ k : Nat, k ≤ xs.length ∧ m = xs.length - k ∧ i = .int .i64 k ∧ EqUpTo xs ys k ∧ Below w.heap.size w wr)
    case atStart => exact ⟨0, by omega, rfl, rfl, fun i _ _ h => absurd h (by omega), Below.refl _ _⟩
    case round =>
      obtain ⟨k, hk, rfl, rfl, hE, hB⟩ := hrel
      by_cases hlt : k < xs.length
      · have hlt2 : k < ys.length := by omega
        obtain ⟨⟨b, o, rfl, hx0, hx1, hx2, hx3⟩, hin1⟩ := (h1.below hB).at k hlt
        obtain ⟨⟨b', o', rfl, hy0, hy1, hy2, hy3⟩, hin2⟩ := (h2.below hB).at k hlt2
        have lb : b < wr.heap.size := World.block_lt_of_cell? _ _ hx0
        have lb' : b' < wr.heap.size := World.block_lt_of_cell? _ _ hy0
        have HC := Lib.hid (fun W => HCALL.out xs[k] ys[k] W)
        have HB := Lib.hid hB
        have HE := Lib.hid hE
        clear hB hE
        by_cases hz : cmpF xs[k].form ys[k].form = 0
        · rw [hz] at HC
          have HZ := Lib.hid hz
          clear hz
          go_wp2_with (go_at_call 38; refine (HC.out _ ((hin1.alloc _).alloc _) ((hin2.alloc _).alloc _)).mono ?_; rintro e w2 ⟨rfl, hB2⟩)
          go_roundg (xs.length - (k + 1))
          case measure => omega
          case rel => exact ⟨k + 1, by omega, rfl, by go_num, HE.out.step hlt hlt2 HZ.out, upB HB.out (up (bel2 _ _ _) hB2) (Nat.le_refl _)⟩
        · have HP := Lib.hid (HE.out.part hlt hlt2 hz)
          have hz' : (cmpF xs[k].form ys[k].form == 0) = false := by simpa using hz
          have hRf : R = false := by
            rw [← HR.out]; unfold sameB
            have : (cmpL (xs.map T.form) (ys.map T.form) == 0) = false := by simp; rw [HP.out]; exact hz
            rw [this, Bool.and_false]
          have HRF := Lib.hid hRf
          clear hz hRf
          go_wp2_with (go_at_call 38; refine (HC.out _ ((hin1.alloc _).alloc _) ((hin2.alloc _).alloc _)).mono ?_; rintro e w2 ⟨rfl, hB2⟩)
          go_ret
          exact ⟨by rw [HRF.out]; rfl, upB HB.out (up (bel2 _ _ _) hB2) (Nat.le_refl _)⟩
      · have hRt : R = true := by
          rw [← HR.out]; unfold sameB
          rw [hE.same (by omega) (by have := HL.out; omega)]
          simp [HL.out]
        have HRT := Lib.hid hRt
        have HB := Lib.hid hB
        clear hB hRt
        go_wp2_with fail
        go_ret
        exact ⟨by rw [HRT.out]; rfl, HB.out⟩
  · have gl : ((xs.length : Int) != (ys.length : Int)) = true := by simp; omega
    rw [sameB_len (by simpa using hlen)]
    clear hlen
    go_enter Tryz.func55, Tryz.ntmps55
    go_wp2_with fail
    go_ret
    exact ⟨rfl, Below.refl _ _⟩
/-- What Same answers. -/
def sameR (a b : ByteArray) : Bool × Int := match readR a with
  | .err c => (false, c)
  | .ok fs => match readR b with
    | .err c => (false, c)
    | .ok gs => (sameB fs gs, 0)
set_option maxHeartbeats 2000000 in
set_option maxRecDepth 100000 in
theorem same_any (a b : ByteArray) (w : World) (ha : a.size ≤ maxLen) (hb : b.size ≤ maxLen) (hg : Glob w) (h6 : 8 ≤ w.heap.size) :
    Calls Tryz.prog 21 #[.string a, .string b] w fun e w' => e = .returned (.tuple #[.bool (sameR a b).1, .int .i64 (sameR a b).2]) ∧ Below w.heap.size w w' := by
  unfold sameR
  have HA := read_any a w ha hg h6
  have HBR := fun W (k : Below w.heap.size w W) => read_any b W hb (hg.below k h6) (Nat.le_trans h6 k.size)
  cases hra : readR a with
  | err c =>
    rw [hra] at HA
    have HA := Lib.hid HA
    have hc : (c != 0) = true := by have := readR_err hra; simpa using this
    clear hra hg HBR
    go_enter Tryz.func21, Tryz.ntmps21
    go_wp2_with (go_at_call 48; (with_reducible refine HA.out.mono ?_); rintro e w2 ⟨rfl, hB⟩; have HB := Lib.hid hB; clear hB)
    exact bodyPost_ret (v := .tuple #[.bool false, .int .i64 c]) (by simp [results, Tryz.results21, go_sem]) rfl ⟨rfl, HB.out⟩
  | ok fs =>
    rw [hra] at HA
    have HA := Lib.hid HA
    cases hrb : readR b with
    | err c =>
      rw [hrb] at HBR
      have HBR := Lib.hid HBR
      have hc : (c != 0) = true := by have := readR_err hrb; simpa using this
      clear hra hrb hg
      go_enter Tryz.func21, Tryz.ntmps21
      go_wp2_with (first
        | (go_at_call 48; (with_reducible refine HA.out.mono ?_); rintro e w2 ⟨v, rfl, _, hB⟩; have HB := Lib.hid hB; clear hB)
        | (go_at_call 48; (with_reducible refine (HBR.out _ HB.out).mono ?_); rintro e w3 ⟨rfl, hB⟩; have HB3 := Lib.hid (up HB.out hB); clear hB))
      exact bodyPost_ret (v := .tuple #[.bool false, .int .i64 c]) (by simp [results, Tryz.results21, go_sem]) rfl ⟨rfl, HB3.out⟩
    | ok gs =>
      rw [hrb] at HBR
      have HBR := Lib.hid HBR
      clear hra hrb hg
      go_enter Tryz.func21, Tryz.ntmps21
      go_wp2_with (first
        | (go_at_call 48; (with_reducible refine HA.out.mono ?_); rintro e w2 ⟨v, rfl, ⟨va, vc, ts, rfl, hI, hfs, hcap, hb1, hb2⟩, hB⟩; have HB := Lib.hid hB; have HI := Lib.hid hI; have HF := Lib.hid hfs; have HC := Lib.hid hcap; clear hB hI hfs hcap hb1 hb2)
        | (go_at_call 48; (with_reducible refine (HBR.out _ HB.out).mono ?_); rintro e w3 ⟨v, rfl, ⟨vb, vd, us, rfl, hI, hgs, hcap, hb1, hb2⟩, hB⟩; have HB3 := Lib.hid (up HB.out hB); have HI3 := Lib.hid (HI.out.below hB); have HI4 := Lib.hid hI; have HG := Lib.hid hgs; have HD := Lib.hid hcap; clear hB hI hgs hcap hb1 hb2)
        | (go_at_call 55; (with_reducible refine (equalFunc_any ts us _ _ _ _ (Nat.le_trans HC.out.1 HC.out.2) (Nat.le_trans HD.out.1 HD.out.2) _ HI3.out HI4.out).mono ?_); rintro e w4 ⟨rfl, hB⟩; have HB4 := Lib.hid (up HB3.out hB); clear hB))
      have e1 := HF.out
      have e2 := HG.out
      exact bodyPost_ret (v := .tuple #[.bool (sameB (ts.map T.form) (us.map T.form)), .int .i64 0]) (by simp [results, Tryz.results21, go_sem]) rfl ⟨by rw [e1, e2], HB4.out⟩
end Go.Proofs.YtedabholcldgbaaGreatDoor.Y

/- The document's own Same. -/
namespace Go.Proofs.YtedabholcldgbaaGreatDoor.Y
open Go.RowKit Go.Deep

set_option linter.unusedSimpArgs false in
set_option maxHeartbeats 4000000 in
set_option maxRecDepth 100000 in
theorem rsame_any (a b : ByteArray) (w : World) (ha : a.size ≤ maxLen) (hb : b.size ≤ maxLen) :
    Calls Tryz.prog 22 #[.string a, .string b] w fun e w' => e = .returned (.tuple #[.bool (sameR a b).1, .int .i64 (sameR a b).2]) ∧ Below w.heap.size w w' := by
  unfold sameR
  have HA := Q.read_any a w ha
  have HBR := fun W => Q.read_any b W hb
  cases hra : readR a with
  | err c =>
    rw [hra] at HA
    have HA := Lib.hid HA
    have hc : (c != 0) = true := by have := readR_err hra; simpa using this
    clear hra HBR
    go_enter Tryz.func22, Tryz.ntmps22
    go_wp2_with (go_at_call 52; (with_reducible refine HA.out.mono ?_); rintro e w2 ⟨rfl, hB⟩; have HB := Lib.hid hB; clear hB)
    exact bodyPost_ret (v := .tuple #[.bool false, .int .i64 c]) (by simp [results, Tryz.results22, go_sem]) rfl ⟨rfl, HB.out⟩
  | ok fs =>
    rw [hra] at HA
    have HA := Lib.hid HA
    cases hrb : readR b with
    | err c =>
      rw [hrb] at HBR
      have HBR := Lib.hid HBR
      have hc : (c != 0) = true := by have := readR_err hrb; simpa using this
      clear hra hrb
      go_enter Tryz.func22, Tryz.ntmps22
      go_wp2_with (first
        | (go_at_call 52; (with_reducible refine HA.out.mono ?_); rintro e w2 ⟨v, rfl, _, hB⟩; have HB := Lib.hid hB; clear hB)
        | (go_at_call 52; (with_reducible refine (HBR.out _).mono ?_); rintro e w3 ⟨rfl, hB⟩; have HB3 := Lib.hid (up HB.out hB); clear hB))
      exact bodyPost_ret (v := .tuple #[.bool false, .int .i64 c]) (by simp [results, Tryz.results22, go_sem]) rfl ⟨rfl, HB3.out⟩
    | ok gs =>
      rw [hrb] at HBR
      have HBR := Lib.hid HBR
      obtain ⟨R, hR⟩ : ∃ R, sameB fs gs = R := ⟨_, rfl⟩
      show Calls _ _ _ _ fun e w' => e = .returned (.tuple #[.bool (sameB fs gs), .int .i64 0]) ∧ Below w.heap.size w w'
      rw [hR]
      have HR0 := Lib.hid hR
      clear hra hrb hR
      go_enter Tryz.func22, Tryz.ntmps22
      go_wp2_with (first
        | (go_at_call 52; (with_reducible refine HA.out.mono ?_); rintro e w2 ⟨v, rfl, ⟨va, vc, ts, rfl, hI, hfs, hcap, hb1, hb2⟩, hB⟩; have HB := Lib.hid hB; have HI := Lib.hid hI; have HF := Lib.hid hfs; have HC := Lib.hid hcap; clear hB hI hfs hcap hb1 hb2)
        | (go_at_call 52; (with_reducible refine (HBR.out _).mono ?_); rintro e w3 ⟨v, rfl, ⟨vb, vd, us, rfl, hI, hgs, hcap, hb1, hb2⟩, hB⟩; have HB3 := Lib.hid (up HB.out hB); have HI3 := Lib.hid (HI.out.below hB); have HI4 := Lib.hid hI; have HG := Lib.hid hgs; have HD := Lib.hid hcap; clear hB hI hgs hcap hb1 hb2))
      · have hne : ((ts.length : Int) != (us.length : Int)) = true := by assumption
        have hl : ts.length ≠ us.length := by simp at hne; omega
        have e1 := HF.out
        have e2 := HG.out
        have e3 : R = false := by rw [← HR0.out, ← e1, ← e2]; exact sameB_len (by simpa using hl)
        exact bodyPost_ret (v := .tuple #[.bool false, .int .i64 0]) (by simp [results, Tryz.results22, go_sem]) rfl ⟨by rw [e3], HB3.out⟩
      · have hne : ((ts.length : Int) != (us.length : Int)) = false := by assumption
        have hl : ts.length = us.length := by simp at hne; omega
        have HR : Hid (sameB (ts.map T.form) (us.map T.form) = R) := Lib.hid (by rw [HF.out, HG.out]; exact HR0.out)
        have HL := Lib.hid hl
        have hts : ts.length ≤ 9223372036854775807 := by have := Nat.le_trans HC.out.1 HC.out.2; unfold maxLen at this; omega
        have hle : ts.length ≤ us.length := by omega
        simp only [hne]
        clear hl hne
        go_loopg [9] (ts.length) (fun m i wr => ∃ k : Nat, k ≤ ts.length ∧ m = ts.length - k ∧ i = .int .i64 k ∧ EqUpTo ts us k ∧ Below w3.heap.size w3 wr)
        case atStart => exact ⟨0, by omega, rfl, rfl, fun i _ _ h => absurd h (by omega), Below.refl _ _⟩
        case round =>
          obtain ⟨k, hk, rfl, rfl, hE, hB⟩ := hrel
          by_cases hlt : k < ts.length
          · have hlt2 : k < us.length := by omega
            obtain ⟨⟨b, o, rfl, hx0, hx1, hx2, hx3⟩, hin1⟩ := (HI3.out.below hB).at k hlt
            obtain ⟨⟨b', o', rfl, hy0, hy1, hy2, hy3⟩, hin2⟩ := (HI4.out.below hB).at k hlt2
            have HX : Hid (wr.drew.cell? ⟨b, o + k * 4, none⟩ = some (.int .i64 ts[k].kd) ∧ wr.drew.cell? ⟨b, o + k * 4 + 1, none⟩ = some (.int .i64 ts[k].nn) ∧ wr.drew.cell? ⟨b, o + k * 4 + 2, none⟩ = some (.string ts[k].tx) ∧ wr.drew.cell? ⟨b, o + k * 4 + 3, none⟩ = some (.slice ts[k].ad ts[k].ks.length ts[k].cp) ∧
                wr.drew.cell? ⟨b', o' + k * 4, none⟩ = some (.int .i64 us[k].kd) ∧ wr.drew.cell? ⟨b', o' + k * 4 + 1, none⟩ = some (.int .i64 us[k].nn) ∧ wr.drew.cell? ⟨b', o' + k * 4 + 2, none⟩ = some (.string us[k].tx) ∧ wr.drew.cell? ⟨b', o' + k * 4 + 3, none⟩ = some (.slice us[k].ad us[k].ks.length us[k].cp)) :=
              Lib.hid ⟨by simpa using hx0, by simpa using hx1, by simpa using hx2, by simpa using hx3, by simpa using hy0, by simpa using hy1, by simpa using hy2, by simpa using hy3⟩
            have lb : b < wr.heap.size := World.block_lt_of_cell? _ _ hx0
            have lb' : b' < wr.heap.size := World.block_lt_of_cell? _ _ hy0
            have HIN1 := Lib.hid hin1
            have HIN2 := Lib.hid hin2
            have HB := Lib.hid hB
            have HE := Lib.hid hE
            have gk : (k : Int) < (ts.length : Int) := by omega
            have gk2 : (k : Int) < (us.length : Int) := by omega
            have gk0 : (0 : Int) ≤ (k : Int) := by omega
            clear hB hE hin1 hin2
            have HIN1D := Lib.hid (HIN1.out.below (Below.refl _ wr).drew)
            have HIN2D := Lib.hid (HIN2.out.below (Below.refl _ wr).drew)
            by_cases hz : cmpF ts[k].form us[k].form = 0
            · have HC2 : Hid (∀ W, In W ts[k] → In W us[k] → Calls Tryz.prog 28 #[ts[k].val, us[k].val] W fun e w' => e = .returned (.bool true) ∧ Below W.heap.size W w') := Lib.hid fun W p q => by
                have := requal_T ts[k] us[k] W p q
                rw [hz] at this
                exact this
              have HZ := Lib.hid hz
              clear hz
              go_wp2_with fail
              go_region_held3 (fun w' => w'.cell? ⟨b, o + k * 4, none⟩ = some (.int .i64 ts[k].kd) ∧ w'.cell? ⟨b, o + k * 4 + 1, none⟩ = some (.int .i64 ts[k].nn) ∧ w'.cell? ⟨b, o + k * 4 + 2, none⟩ = some (.string ts[k].tx) ∧ w'.cell? ⟨b, o + k * 4 + 3, none⟩ = some (.slice ts[k].ad ts[k].ks.length ts[k].cp) ∧
                w'.cell? ⟨b', o' + k * 4, none⟩ = some (.int .i64 us[k].kd) ∧ w'.cell? ⟨b', o' + k * 4 + 1, none⟩ = some (.int .i64 us[k].nn) ∧ w'.cell? ⟨b', o' + k * 4 + 2, none⟩ = some (.string us[k].tx) ∧ w'.cell? ⟨b', o' + k * 4 + 3, none⟩ = some (.slice us[k].ad us[k].ks.length us[k].cp))
                (first
                  | exact HX.out
                  | exact HX5.out)
                (first
                  | (go_at_call 28; (with_reducible refine (HC2.out _ HIN1D.out HIN2D.out).mono ?_); rintro e w5 ⟨rfl, hB⟩; have HB5 := Lib.hid hB; have HX5 : Hid (w5.cell? ⟨b, o + k * 4, none⟩ = some (.int .i64 ts[k].kd) ∧ w5.cell? ⟨b, o + k * 4 + 1, none⟩ = some (.int .i64 ts[k].nn) ∧ w5.cell? ⟨b, o + k * 4 + 2, none⟩ = some (.string ts[k].tx) ∧ w5.cell? ⟨b, o + k * 4 + 3, none⟩ = some (.slice ts[k].ad ts[k].ks.length ts[k].cp) ∧
                w5.cell? ⟨b', o' + k * 4, none⟩ = some (.int .i64 us[k].kd) ∧ w5.cell? ⟨b', o' + k * 4 + 1, none⟩ = some (.int .i64 us[k].nn) ∧ w5.cell? ⟨b', o' + k * 4 + 2, none⟩ = some (.string us[k].tx) ∧ w5.cell? ⟨b', o' + k * 4 + 3, none⟩ = some (.slice us[k].ad us[k].ks.length us[k].cp)) := Lib.hid ⟨(hB.cell (by exact lb)).trans HX.out.1, (hB.cell (by exact lb)).trans HX.out.2.1, (hB.cell (by exact lb)).trans HX.out.2.2.1, (hB.cell (by exact lb)).trans HX.out.2.2.2.1, (hB.cell (by exact lb')).trans HX.out.2.2.2.2.1, (hB.cell (by exact lb')).trans HX.out.2.2.2.2.2.1, (hB.cell (by exact lb')).trans HX.out.2.2.2.2.2.2.1, (hB.cell (by exact lb')).trans HX.out.2.2.2.2.2.2.2⟩; clear hB))
              go_wp2_with fail
              go_roundg (ts.length - (k + 1))
              case measure => omega
              case rel => exact ⟨k + 1, by omega, rfl, by go_num, HE.out.step hlt hlt2 HZ.out, upB HB.out (up (Below.refl _ wr).drew HB5.out) (Nat.le_refl _)⟩
            · have hz' : (cmpF ts[k].form us[k].form == 0) = false := by simpa using hz
              have HC2 : Hid (∀ W, In W ts[k] → In W us[k] → Calls Tryz.prog 28 #[ts[k].val, us[k].val] W fun e w' => e = .returned (.bool false) ∧ Below W.heap.size W w') := Lib.hid fun W p q => by
                have := requal_T ts[k] us[k] W p q
                rw [hz'] at this
                exact this
              have hRf : R = false := by
                rw [← HR.out]; unfold sameB
                have : (cmpL (ts.map T.form) (us.map T.form) == 0) = false := by simp; rw [HE.out.part hlt hlt2 hz]; exact hz
                rw [this, Bool.and_false]
              have HRF := Lib.hid hRf
              clear hz hz' hRf
              go_wp2_with fail
              go_region_held3 (fun w' => w'.cell? ⟨b, o + k * 4, none⟩ = some (.int .i64 ts[k].kd) ∧ w'.cell? ⟨b, o + k * 4 + 1, none⟩ = some (.int .i64 ts[k].nn) ∧ w'.cell? ⟨b, o + k * 4 + 2, none⟩ = some (.string ts[k].tx) ∧ w'.cell? ⟨b, o + k * 4 + 3, none⟩ = some (.slice ts[k].ad ts[k].ks.length ts[k].cp) ∧
                w'.cell? ⟨b', o' + k * 4, none⟩ = some (.int .i64 us[k].kd) ∧ w'.cell? ⟨b', o' + k * 4 + 1, none⟩ = some (.int .i64 us[k].nn) ∧ w'.cell? ⟨b', o' + k * 4 + 2, none⟩ = some (.string us[k].tx) ∧ w'.cell? ⟨b', o' + k * 4 + 3, none⟩ = some (.slice us[k].ad us[k].ks.length us[k].cp))
                (first
                  | exact HX.out
                  | exact HX5.out)
                (first
                  | (go_at_call 28; (with_reducible refine (HC2.out _ HIN1D.out HIN2D.out).mono ?_); rintro e w5 ⟨rfl, hB⟩; have HB5 := Lib.hid hB; have HX5 : Hid (w5.cell? ⟨b, o + k * 4, none⟩ = some (.int .i64 ts[k].kd) ∧ w5.cell? ⟨b, o + k * 4 + 1, none⟩ = some (.int .i64 ts[k].nn) ∧ w5.cell? ⟨b, o + k * 4 + 2, none⟩ = some (.string ts[k].tx) ∧ w5.cell? ⟨b, o + k * 4 + 3, none⟩ = some (.slice ts[k].ad ts[k].ks.length ts[k].cp) ∧
                w5.cell? ⟨b', o' + k * 4, none⟩ = some (.int .i64 us[k].kd) ∧ w5.cell? ⟨b', o' + k * 4 + 1, none⟩ = some (.int .i64 us[k].nn) ∧ w5.cell? ⟨b', o' + k * 4 + 2, none⟩ = some (.string us[k].tx) ∧ w5.cell? ⟨b', o' + k * 4 + 3, none⟩ = some (.slice us[k].ad us[k].ks.length us[k].cp)) := Lib.hid ⟨(hB.cell (by exact lb)).trans HX.out.1, (hB.cell (by exact lb)).trans HX.out.2.1, (hB.cell (by exact lb)).trans HX.out.2.2.1, (hB.cell (by exact lb)).trans HX.out.2.2.2.1, (hB.cell (by exact lb')).trans HX.out.2.2.2.2.1, (hB.cell (by exact lb')).trans HX.out.2.2.2.2.2.1, (hB.cell (by exact lb')).trans HX.out.2.2.2.2.2.2.1, (hB.cell (by exact lb')).trans HX.out.2.2.2.2.2.2.2⟩; clear hB))
              go_wp2_with fail
              exact bodyPost_ret (v := .tuple #[.bool false, .int .i64 0]) (by simp [results, Tryz.results22, go_sem]) rfl ⟨by rw [HRF.out], up HB3.out (upB HB.out (up (Below.refl _ wr).drew HB5.out) (Nat.le_refl _))⟩
          · have hRt : R = true := by
              rw [← HR.out]; unfold sameB
              rw [hE.same (by omega) (by have := HL.out; omega)]
              simp [HL.out]
            have HRT := Lib.hid hRt
            have HB := Lib.hid hB
            clear hB hRt
            go_wp2_with fail
            exact bodyPost_ret (v := .tuple #[.bool true, .int .i64 0]) (by simp [results, Tryz.results22, go_sem]) rfl ⟨by rw [HRT.out], up HB3.out HB.out⟩
end Go.Proofs.YtedabholcldgbaaGreatDoor.Y

/- layout.Widest, and the document's own. -/
namespace Go.Proofs.YtedabholcldgbaaGreatDoor.Y
open Go.RowKit Go.Shelf Go.Deep
attribute [local go_sem] Oper.semAt_some

/-- The longest line: c bytes of the line stand ahead, n is the longest one so far. -/
def widW : List UInt8 → Nat → Nat → Nat
  | [], c, n => max n c
  | b :: r, c, n => if b.toNat = 10 then widW r 0 (max n c) else widW r (c + 1) n
def widL (ys : List (Nat × List UInt8)) (n : Nat) : Nat := ys.foldl (fun n x => max n x.2.length) n
theorem widW_run : ∀ (x r : List UInt8) (c n : Nat), (∀ k : Nat, x[k]? ≠ some 10) → widW (x ++ r) c n = widW r (c + x.length) n
  | [], r, c, n, _ => by simp
  | b :: x, r, c, n, h => by
    have hb : b.toNat ≠ 10 := fun e => h 0 (by simp; exact UInt8.toNat_inj.1 (by rw [e]; rfl))
    rw [List.cons_append, widW, if_neg hb, widW_run x r (c + 1) n fun k => by have := h (k + 1); simpa using this]
    simp only [List.length_cons]
    congr 1; omega
theorem wid_lines (m : Nat) : ∀ (l : List UInt8), l.length ≤ m → ∀ k n, widL (linesL k l) n = widW l 0 n := by
  induction m with
  | zero =>
    intro l hl k n
    have e : l = [] := List.length_eq_zero_iff.1 (by omega)
    subst e
    rw [linesL_last (by decide)]
    simp [widL, widW]
  | succ m ih =>
    intro l hl k n
    by_cases h : Lib.indexByte l 10 < 0
    · rw [linesL_last h]
      have h1 : Lib.indexByte l 10 = -1 := by have := Lib.indexByte_ge l 10; omega
      have := widW_run l [] 0 n (Lib.indexByte_none h1)
      rw [List.append_nil] at this
      rw [this]
      simp [widL, widW]
    · obtain ⟨h1, h2, h3⟩ := index_lt h
      rw [linesL_more h]
      have hs := Lib.indexByte_some h1
      have e : l = l.take (nlI l) ++ 10 :: l.drop (nlI l + 1) := by
        have hg : l[nlI l] = 10 := by have := hs.1; rw [List.getElem?_eq_getElem h2] at this; exact Option.some.inj this
        have e2 := List.take_append_drop (nlI l) l
        rw [List.drop_eq_getElem_cons h2, hg] at e2
        exact e2.symm
      have hw := widW_run (l.take (nlI l)) (10 :: l.drop (nlI l + 1)) 0 n (fun q => by
        by_cases hq : q < nlI l
        · rw [List.getElem?_take_of_lt hq]; exact hs.2 q hq
        · rw [List.getElem?_eq_none (by simp; omega)]; simp)
      rw [← e] at hw
      rw [hw, widW, if_pos (by decide)]
      have := ih (l.drop (nlI l + 1)) (by simp; omega) (k + nlI l + 1) (max n (0 + (l.take (nlI l)).length))
      rw [← this]
      simp [widL]
theorem widL_snoc (ys : List (Nat × List UInt8)) (x : Nat × List UInt8) (n : Nat) : widL (ys ++ [x]) n = max (widL ys n) x.2.length := by simp [widL]
theorem widL_le (B : Nat) : ∀ (ys : List (Nat × List UInt8)) (n : Nat), n ≤ B → (∀ x ∈ ys, x.2.length ≤ B) → widL ys n ≤ B
  | [], n, h, _ => h
  | x :: ys, n, h, hx => by
    show widL ys (max n x.2.length) ≤ B
    exact widL_le B ys _ (by have := hx x (by simp); omega) fun y hy => hx y (by simp [hy])
set_option linter.unusedSimpArgs false in
set_option maxRecDepth 100000 in
set_option maxHeartbeats 4000000 in
theorem widest_in (n : Nat) (hn : 4 ≤ n) (d : ByteArray) (hd : d.size ≤ 1000000000) (w : World) :
    CallsIn Fence.wide n Tryz.prog 25 #[.string d] w fun e w' => e = .returned (.int .i64 (widW d.data.toList 0 0 : Nat)) ∧ Below w.heap.size w w' := by
  have h1 : 1 ≤ n := by omega
  have hWL := wid_lines d.data.toList.length d.data.toList (Nat.le_refl _) 0 0
  obtain ⟨R, hR⟩ : ∃ R, widW d.data.toList 0 0 = R := ⟨_, rfl⟩
  rw [hR] at hWL ⊢
  have hin := (lines_apart d.data.toList.length d.data.toList (Nat.le_refl _) 0).2
  rw [show d.data.toList.length = d.size by simp] at hin
  refine callsIn_of_wp_marks Tryz.func25 rfl trivial ?_ rfl
  simp only [Tryz.ntmps25, List.size_toArray, List.length_cons, List.length_nil, Nat.reduceAdd, Nat.reduceSub, Array.replicate_succ, Array.replicate_zero, List.push_toArray, List.append_toArray, List.nil_append, List.cons_append]
  gi_wp2_with (refine ⟨trivial, ?_⟩; gi_at_call 56; refine (lines_in d _ _).mono ?_; rintro e w' ⟨rfl, rfl⟩)
  obtain ⟨K, hK⟩ : ∃ K, w.heap.size = K := ⟨_, rfl⟩
  rw [hK]
  obtain ⟨A1, hA1⟩ : ∃ A1, w.alloc (.cells #[.int .i64 0] 3) = A1 := ⟨_, rfl⟩
  have z1 : A1.heap.size = K + 1 := by rw [← hA1, ← hK]; simp
  have q1 : A1.heap[K]? = some (.cells #[.int .i64 0] 3 (0, 0)) := by rw [← hA1, ← hK]; exact heap_alloc_new w _
  have b1 : Below w.heap.size w A1 := by rw [← hA1]; exact bel1 _ _
  rw [hA1]
  obtain ⟨A2, hA2⟩ : ∃ A2, A1.alloc (.cells #[.string d] 9) = A2 := ⟨_, rfl⟩
  have z2 : A2.heap.size = K + 2 := by rw [← hA2]; simp [z1]
  have q2 : A2.heap[K + 1]? = some (.cells #[.string d] 9 (0, 0)) := by rw [← hA2, ← z1]; exact heap_alloc_new A1 _
  have q3 : A2.heap[K]? = some (.cells #[.int .i64 0] 3 (0, 0)) := by rw [← hA2]; exact (Below.heap_alloc _ _ _ (by omega)).trans q1
  have b2 : Below w.heap.size w A2 := by rw [← hA2]; exact up b1 (bel1 _ _)
  rw [hA2]
  refine range_own (α := Nat × List UInt8) rfl h1 (gf := 89) (lb := #[.pointer (some ⟨K + 1, 0, none⟩)]) rfl trivial (enters_of Tryz.func89 (by kernel_rfl) rfl)
    (encs := encG) (safe := fun _ => True) (fun _ _ => trivial) (own := fun _ => none) (lines_seq (n - 1) (by omega) (K + 1) d hd (fun _ => True) (fun _ => none)) (fun _ => rfl)
    (fun s A => A.heap[K]? = some (.cells #[.int .i64 (widL s 0 : Nat)] 3 (0, 0)) ∧ A.heap[K + 1]? = some (.cells #[.string d] 9 (0, 0)) ∧ Below w.heap.size w A) (fun _ _ _ => False)
    ⟨?hI1, fun s A r _ e => by cases e⟩ (fun c => ⟨fun _ _ _ h => h.elim, fun _ _ _ h => h.elim⟩) (fun s A h => (cell_of1 h.2.1).1)
    ⟨q3, q2, b2⟩ ?a1 ?assign ?body ?done ?stop
  case hI1 =>
    rintro s A A' ⟨c1, c2, hb⟩ ⟨row, hg, hr⟩
    rw [z2] at hr
    exact ⟨⟨(hg.block _ (lt_of_getElem? c1) fun e => by have := (hr _ e.symm).1; omega).trans c1, (hg.block _ (lt_of_getElem? c2) fun e => by have := (hr _ e.symm).1; omega).trans c2, hb.grown hg hb.size fun b e => by have := (hr b e).1; omega⟩, rfl⟩
  case assign =>
    intro l' x V K hK
    gi_wp2
    exact hK
  case stop =>
    rintro D c pre V hD _ h _
    exact h.elim
  case body =>
    rintro l' pre ⟨at_, line⟩ V ⟨c1, c2, hb⟩ hpre
    have hlen := (hin (at_, line) (hpre.subset (by simp))).2
    have hall : widL pre 0 ≤ 1000000000 := widL_le _ _ _ (by omega) fun x hx => by have := (hin x (hpre.subset (by simp [hx]))).2; omega
    simp only at hlen
    obtain ⟨u, hu⟩ : ∃ u : ByteArray, (⟨line.toArray⟩ : ByteArray) = u := ⟨_, rfl⟩
    have hus : u.size = line.length := by rw [← hu]; show line.toArray.size = _; simp
    have hu1 : (u.size : Int) ≤ 1000000000 := by omega
    obtain ⟨e1, e2⟩ := cell_of1 c1
    obtain ⟨y, hy⟩ : ∃ y, widL pre 0 = y := ⟨_, rfl⟩
    rw [hy] at e1 hall
    have C1 := Lib.hid c1
    have C2 := Lib.hid c2
    simp only [encG, hu]
    clear c1 c2
    gi_wp2
    have e : (max (y : Int) (line.length : Int)) = ((max y line.length : Nat) : Int) := by omega
    rw [e]
    refine ⟨⟨by simp, fun r o hr _ _ ho => by rw [Below.heap_setCell _ _ _ _ (by show r ≠ K; omega)]; exact ho, .inl rfl⟩, ?_, ?_, hb.setCell (p := ⟨K, 0, none⟩) (by show w.heap.size ≤ K; omega) _⟩
    · rw [widL_snoc, hy]
      simpa using heap_setCell_same V K 0 _ _ (.int .i64 ((max y line.length : Nat) : Int)) C1.out
    · rw [Below.heap_setCell _ _ _ _ (by show K + 1 ≠ K; omega)]
      exact C2.out
  case done =>
    rintro D ys V hD rfl ⟨c1, c2, hb⟩ hKD
    obtain ⟨e1, e2⟩ := cell_of1 c1
    rw [hWL] at e1
    gi_wp2
    refine ⟨by simp, .inl ⟨_, _, rfl, run_takeDeferred hKD, ?_⟩⟩
    refine ⟨.int .i64 (R : Nat), by simp [results, Tryz.results25, go_sem], rfl, ?_⟩
    exact hb.grown (grownBy_putObj' V D _) hb.size (fun k e => by cases e; omega)
theorem wd_end (s : ByteArray) (k c n : Nat) (h : s.size ≤ k) : widW (s.data.toList.drop k) c n = max n c := by
  rw [List.drop_of_length_le (by simpa using h), widW]
set_option linter.unusedSimpArgs false in
set_option maxHeartbeats 4000000 in
set_option maxRecDepth 100000 in
theorem rwidest_any (s : ByteArray) (hs : s.size ≤ 1000000000) (w : World) :
    Calls Tryz.prog 26 #[.string s] w fun e w' => e = .returned (.int .i64 (widW s.data.toList 0 0 : Nat)) ∧ w = w' := by
  obtain ⟨R, hR⟩ : ∃ R, widW s.data.toList 0 0 = R := ⟨_, rfl⟩
  rw [hR]
  have hs1 : (s.size : Int) ≤ 1000000000 := by omega
  have HR := Lib.hid hR
  clear hR
  go_enter Tryz.func26, Tryz.ntmps26
  go_wp2_with fail
  go_loopg [3, 4, 5] (s.size + 2) (fun m n fr i wr => ∃ (k j x : Nat), k ≤ s.size + 1 ∧ m = s.size + 2 - k ∧ i = .int .i64 k ∧ fr = .int .i64 j ∧ n = .int .i64 x ∧ x ≤ s.size ∧ j ≤ k ∧ w = wr ∧ ((k ≤ s.size ∧ R = widW (s.data.toList.drop k) (k - j) x) ∨ (k = s.size + 1 ∧ R = x)))
  case atStart => exact ⟨0, 0, 0, by omega, rfl, rfl, rfl, rfl, by omega, by omega, rfl, .inl ⟨by omega, by simpa using HR.out.symm⟩⟩
  case round =>
    obtain ⟨k, j, x, hk, rfl, rfl, rfl, rfl, hx, hj, rfl, ⟨hk2, hr⟩ | ⟨rfl, hr⟩⟩ := hrel
    · have gi : (k : Int) ≤ (s.size : Int) := by omega
      have gk0 : (0 : Int) ≤ (k : Int) := by omega
      have em : (max (x : Int) ((k : Int) - (j : Int))) = ((max x (k - j) : Nat) : Int) := by omega
      by_cases hlt : k < s.size
      · have gl : (k : Int) < (s.size : Int) := by omega
        have g0 : ((k : Int) == (s.size : Int)) = false := by simp; omega
        rw [drop_byte' s k hlt, widW] at hr
        by_cases h10 : s[k].toNat = 10
        · have g1 : ((s[k].toNat : Int) == 10) = true := by simp; omega
          rw [if_pos h10] at hr
          have HR2 := Lib.hid hr
          clear hr h10
          go_wp2_with fail
          go_roundg (s.size + 2 - (k + 1))
          case measure => omega
          case rel => exact ⟨k + 1, k + 1, max x (k - j), by omega, rfl, by go_num, by go_num, rfl, by omega, by omega, rfl, .inl ⟨by omega, by rw [Nat.sub_self]; exact HR2.out⟩⟩
        · have g1 : ((s[k].toNat : Int) == 10) = false := by simp; omega
          rw [if_neg h10] at hr
          have HR2 := Lib.hid hr
          clear hr h10
          go_wp2_with fail
          go_roundg (s.size + 2 - (k + 1))
          case measure => omega
          case rel => exact ⟨k + 1, j, x, by omega, rfl, by go_num, rfl, rfl, by omega, by omega, rfl, .inl ⟨by omega, by rw [show k + 1 - j = k - j + 1 by omega]; exact HR2.out⟩⟩
      · obtain rfl : k = s.size := by omega
        have g0 : ((s.size : Int) == (s.size : Int)) = true := by simp
        have HR2 := Lib.hid (hr.trans (wd_end s s.size _ x (Nat.le_refl _)))
        clear hr
        go_wp2_with fail
        go_roundg (s.size + 2 - (s.size + 1))
        case measure => omega
        case rel => exact ⟨s.size + 1, s.size + 1, max x (s.size - j), by omega, rfl, by go_num, by go_num, rfl, by omega, by omega, rfl, .inr ⟨rfl, HR2.out⟩⟩
    · have gi : ¬ (((s.size + 1 : Nat) : Int) ≤ (s.size : Int)) := by omega
      have HR2 := Lib.hid hr
      clear hr
      go_wp2_with fail
      go_ret
      exact ⟨ret_int (by rw [HR2.out]), rfl⟩
end Go.Proofs.YtedabholcldgbaaGreatDoor.Y

/- What is written is read back. Plain. -/
namespace Go.Proofs.YtedabholcldgbaaGreatDoor
open Go.RowKit Go.Deep

/-! ### Numerals -/
theorem toNat_ofNat {n : Nat} (h : n < 256) : (UInt8.ofNat n).toNat = n := by simp [Nat.mod_eq_of_lt h]
theorem dec_digits (u : Nat) : ∀ c ∈ Lib.decDigits u, 48 ≤ c.toNat ∧ c.toNat ≤ 57 := by
  induction u using Nat.strongRecOn with
  | _ u ih =>
    intro c hc
    rw [Lib.decDigits] at hc
    split at hc
    · rename_i h
      simp only [List.mem_singleton] at hc
      subst hc
      rw [toNat_ofNat (by omega)]; omega
    · rename_i h
      rcases List.mem_append.1 hc with hc | hc
      · exact ih (u / 10) (by omega) c hc
      · simp only [List.mem_singleton] at hc
        subst hc
        rw [toNat_ofNat (by omega)]; omega
theorem dec_ne (u : Nat) : Lib.decDigits u ≠ [] := by
  intro h
  have := Lib.decDigits_length u
  rw [h] at this
  have := Lib.nDigits_pos u
  simp at *
  omega
theorem dec_head (u : Nat) (h : 1 ≤ u) : ∀ c, (Lib.decDigits u).head? = some c → c.toNat ≠ 48 := by
  induction u using Nat.strongRecOn with
  | _ u ih =>
    intro c hc
    rw [Lib.decDigits] at hc
    split at hc
    · simp only [List.head?_cons, Option.some.injEq] at hc
      subst hc
      rw [toNat_ofNat (by omega)]; omega
    · rename_i hu
      have hne := dec_ne (u / 10)
      cases hd : Lib.decDigits (u / 10) with
      | nil => exact absurd hd hne
      | cons a r =>
        rw [hd] at hc
        simp only [List.cons_append, List.head?_cons, Option.some.injEq] at hc
        subst hc
        exact ih (u / 10) (by omega) (by omega) a (by rw [hd]; rfl)
theorem parse_snoc : ∀ (l : List UInt8) (acc v : Nat) (c : UInt8), Lib.parseUint10 acc l = .ok v → Lib.parseUint10 acc (l ++ [c]) = Lib.parseUint10 v [c]
  | [], acc, v, c, h => by
    simp only [Lib.parseUint10] at h
    injection h with h
    subst h
    rfl
  | b :: l, acc, v, c, h => by
    rw [List.cons_append]
    rw [Lib.parseUint10] at h ⊢
    split at h
    · rename_i h1
      rw [if_pos h1]
      split at h
      · cases h
      · rename_i h2
        rw [if_neg h2]
        split at h
        · cases h
        · rename_i h3
          rw [if_neg h3]
          exact parse_snoc l _ v c h
    · cases h
theorem parse_dec (u : Nat) (h : u ≤ 1152921504606846976) : Lib.parseUint10 0 (Lib.decDigits u) = .ok u := by
  induction u using Nat.strongRecOn with
  | _ u ih =>
    rw [Lib.decDigits]
    split
    · rename_i hu
      have e : (UInt8.ofNat (48 + u)).toNat = 48 + u := toNat_ofNat (by omega)
      rw [Lib.parseUint10, e, if_pos (by omega), if_neg (by omega), if_neg (by omega), Lib.parseUint10]
      congr 1; omega
    · rename_i hu
      rw [parse_snoc _ _ _ _ (ih (u / 10) (by omega) (by omega))]
      have e : (UInt8.ofNat (48 + u % 10)).toNat = 48 + u % 10 := toNat_ofNat (by omega)
      rw [Lib.parseUint10, e, if_pos (by omega), if_neg (by omega), if_neg (by omega), Lib.parseUint10]
      congr 1; omega
theorem mag_dec (u : Nat) (h : u ≤ 1152921504606846976) : Lib.parseMag (Lib.decDigits u) = .ok u := by
  unfold Lib.parseMag
  rw [if_neg (dec_ne u), parse_dec u h]
theorem atoi_itoa (n : Int) (h1 : -1152921504606846976 ≤ n) (h2 : n ≤ 1152921504606846976) : Lib.atoiAll (Lib.itoa n) = .ok n := by
  unfold Lib.itoa
  split
  · rw [Lib.atoiAll_minus, mag_dec _ (by omega)]
    simp only [Lib.signed]
    rw [if_neg (by omega)]
    congr 1; omega
  · cases hd : Lib.decDigits n.toNat with
    | nil => exact absurd hd (dec_ne _)
    | cons a r =>
      have ha := dec_digits n.toNat a (by rw [hd]; simp)
      rw [Lib.atoiAll_plain a r (by omega) (by omega), ← hd, mag_dec _ (by omega)]
      simp only [Lib.signless]
      rw [if_neg (by omega)]
      congr 1; omega
theorem trim_itoa (n : Int) : Lib.trimPrefix (Lib.itoa n) [45] = Lib.decDigits (if n < 0 then n.natAbs else n.toNat) := by
  unfold Lib.itoa
  split
  · unfold Lib.trimPrefix
    rw [if_pos (by simp [Lib.hasPrefix])]
    rfl
  · unfold Lib.trimPrefix
    rw [if_neg]
    cases hd : Lib.decDigits n.toNat with
    | nil => exact absurd hd (dec_ne _)
    | cons a r =>
      have ha := dec_digits n.toNat a (by rw [hd]; simp)
      simp only [Lib.hasPrefix, List.isPrefixOf]
      simp
      intro e
      rw [← e] at ha
      have : (45 : UInt8).toNat = 45 := rfl
      omega
theorem num_itoa (n : Int) : numL (Lib.itoa n) = true := by
  unfold numL
  rw [trim_itoa]
  have hne := dec_ne (if n < 0 then n.natAbs else n.toNat)
  simp only [Bool.and_eq_true, List.all_eq_true]
  refine ⟨by simpa using hne, fun c hc => ?_⟩
  have := dec_digits _ c hc
  simp [digB]; omega
theorem canon_itoa (n : Int) : canonL (Lib.itoa n) = true := by
  unfold canonL
  rw [trim_itoa]
  by_cases h0 : n = 0
  · subst h0
    have : Lib.itoa 0 = [48] := by unfold Lib.itoa; rw [if_neg (by omega)]; show Lib.decDigits 0 = [48]; rw [Lib.decDigits]; rfl
    rw [this]; simp
  · have hu : 1 ≤ (if n < 0 then n.natAbs else n.toNat) := by split <;> omega
    have := dec_head _ hu
    cases hd : (Lib.decDigits (if n < 0 then n.natAbs else n.toNat)).head? with
    | none => simp
    | some c =>
      have hc := this c hd
      have : c ≠ 48 := fun e => hc (by rw [e]; rfl)
      simp [this]
theorem tok_itoa (n : Int) : ∀ c ∈ Lib.itoa n, tokB (c.toNat : Int) = true := by
  intro c hc
  unfold Lib.itoa at hc
  have dig : ∀ u, ∀ c ∈ Lib.decDigits u, tokB (c.toNat : Int) = true := fun u c hc => by
    have := dec_digits u c hc
    simp [tokB, plainB]; omega
  split at hc
  · rcases List.mem_cons.1 hc with rfl | hc
    · decide
    · exact dig _ _ hc
  · exact dig _ _ hc
theorem itoa_ne (n : Int) : Lib.itoa n ≠ [] := by
  unfold Lib.itoa
  split
  · simp
  · exact dec_ne _

/-! ### Texts -/
theorem txt_esc : ∀ (l : List UInt8) (r : List UInt8), (∀ c ∈ l, txtB (c.toNat : Int) = true) → txtL (escL l ++ 34 :: r) = .done l ((escL l).length + 1)
  | [], r, _ => by
    simp only [escL, List.flatMap_nil, List.nil_append, List.length_nil, Nat.zero_add]
    rw [txtL_cons, if_pos (by decide)]
  | b :: l, r, h => by
    have ih := txt_esc l r fun c hc => h c (by simp [hc])
    have hb := h b (by simp)
    have e : escL (b :: l) = escB b ++ escL l := by simp [escL]
    rw [e]
    unfold escB
    split
    · rename_i hq
      simp only [List.cons_append, List.nil_append]
      rw [txtL_cons, if_neg (by decide), if_pos (by decide)]
      have ho : unOk (b.toNat : Int) = true := by unfold unOk; simp; omega
      have hu : unB b = b := by
        unfold unB
        rw [if_neg]
        intro e
        rw [e] at hq
        revert hq
        decide
      simp only [ho, if_true, hu]
      rw [ih]
      simp only [TX.pre, List.cons_append, List.nil_append, List.length_cons]
      congr 1; omega
    · rename_i hq
      split
      · rename_i h10
        simp only [List.cons_append, List.nil_append]
        rw [txtL_cons, if_neg (by decide), if_pos (by decide)]
        have ho : unOk ((110 : UInt8).toNat : Int) = true := by decide
        have hu : unB 110 = b := by
          unfold unB
          rw [if_pos rfl]
          apply UInt8.toNat_inj.1
          rw [h10]; rfl
        simp only [ho, if_true, hu]
        rw [ih]
        simp only [TX.pre, List.cons_append, List.nil_append, List.length_cons]
        congr 1; omega
      · rename_i h10
        simp only [List.cons_append, List.nil_append]
        have hp : b.toNat = 32 ∨ plainB (b.toNat : Int) = true := by
          unfold txtB at hb
          simp only [Bool.or_eq_true, beq_iff_eq] at hb
          rcases hb with (hb | hb) | hb
          · omega
          · exact .inl (by omega)
          · exact .inr hb
        rw [txtL_cons, if_neg (by omega), if_neg (by omega), if_pos hp, ih]
        simp only [TX.pre, List.cons_append, List.nil_append, List.length_cons]
        congr 1; omega

/-! ### Steps -/
/-- The rest of the text behind pos. -/
def Rest (s : ByteArray) (pos : Nat) (l : List UInt8) : Prop := s.data.toList.drop pos = l ∧ pos ≤ s.size
theorem Rest.head {s : ByteArray} {pos : Nat} {b : UInt8} {r : List UInt8} (h : Rest s pos (b :: r)) : ∃ hp : pos < s.size, s[pos] = b ∧ Rest s (pos + 1) r := by
  have hp : pos < s.size := by
    rcases Nat.lt_or_ge pos s.size with h' | h'
    · exact h'
    · have := h.1
      rw [List.drop_of_length_le (by simpa using h')] at this
      cases this
  have := drop_byte hp
  rw [h.1] at this
  injection this with h1 h2
  exact ⟨hp, h1.symm, h2.symm, hp⟩
theorem Rest.skip {s : ByteArray} {pos : Nat} {x r : List UInt8} (h : Rest s pos (x ++ r)) : Rest s (pos + x.length) r := by
  refine ⟨?_, ?_⟩
  · rw [← List.drop_drop, h.1]; simp
  · have h1 := congrArg List.length h.1
    have := h.2
    simp at h1
    omega
theorem Rest.size {s : ByteArray} {pos : Nat} {l : List UInt8} (h : Rest s pos l) : pos + l.length = s.size := by
  have h1 := congrArg List.length h.1
  have := h.2
  simp at h1
  omega
def Reach (s : ByteArray) (pos : Nat) (O : List (List Fm)) (top : List Fm) (t : Bool) (pos' : Nat) (O' : List (List Fm)) (top' : List Fm) (t' : Bool) : Prop :=
  ∃ n, pos + n ≤ pos' ∧ ∀ k, loopS s (k + n) pos O top t = loopS s k pos' O' top' t'
theorem Reach.refl (s : ByteArray) (pos : Nat) (O : List (List Fm)) (top : List Fm) (t : Bool) : Reach s pos O top t pos O top t := ⟨0, by omega, fun _ => rfl⟩
theorem Reach.trans {s : ByteArray} {p p' p'' : Nat} {O O' O'' : List (List Fm)} {a a' a'' : List Fm} {t t' t'' : Bool} (h : Reach s p O a t p' O' a' t') (g : Reach s p' O' a' t' p'' O'' a'' t'') : Reach s p O a t p'' O'' a'' t'' := by
  obtain ⟨n, h1, h2⟩ := h
  obtain ⟨m, g1, g2⟩ := g
  exact ⟨m + n, by omega, fun k => by rw [← Nat.add_assoc, h2, g2]⟩
theorem Reach.step {s : ByteArray} {p q : Nat} {O O' : List (List Fm)} {a a' : List Fm} {t t' : Bool} (hp : p < s.size) (h : stepS s p s[p].toNat O a t = .ok q O' a' t') (hq : p < q) : Reach s p O a t q O' a' t' :=
  ⟨1, by omega, fun k => loopS_ok hp h⟩
/-- A blank. -/
theorem reach_blank {s : ByteArray} {pos : Nat} {b : UInt8} {r : List UInt8} (h : Rest s pos (b :: r)) (hb : blankB (b.toNat : Int) = true) (O : List (List Fm)) (top : List Fm) (t : Bool) : Reach s pos O top t (pos + 1) O top false := by
  obtain ⟨hp, e, _⟩ := h.head
  refine Reach.step hp ?_ (by omega)
  rw [e]
  unfold stepS
  have h59 : b.toNat ≠ 59 := by intro e; rw [e] at hb; revert hb; decide
  rw [if_neg h59, if_pos hb]
theorem takeWhile_all {p : UInt8 → Bool} : ∀ (x r : List UInt8), (∀ c ∈ x, p c = true) → (∀ c, r.head? = some c → p c = false) → (x ++ r).takeWhile p = x
  | [], [], _, _ => rfl
  | [], c :: r, _, h => by
    rw [List.nil_append, List.takeWhile_cons, h c rfl]; rfl
  | a :: x, r, h, h' => by
    rw [List.cons_append, List.takeWhile_cons, h a (by simp)]
    simp only [if_true]
    rw [takeWhile_all x r (fun c hc => h c (by simp [hc])) h']
theorem span_all {p : Int → Bool} {s : ByteArray} {pos : Nat} {x r : List UInt8} (h : Rest s pos (x ++ r)) (hx : ∀ c ∈ x, p (c.toNat : Int) = true) (hr : ∀ c, r.head? = some c → p (c.toNat : Int) = false) : spanL p (s.data.toList.drop pos) = x := by
  unfold spanL
  rw [h.1]
  exact takeWhile_all x r hx hr
/-- A comment. -/
theorem reach_comment {s : ByteArray} {pos : Nat} {x r : List UInt8} (h : Rest s pos (59 :: x ++ 10 :: r)) (hx : ∀ c ∈ x, c.toNat ≠ 10) (O : List (List Fm)) (top : List Fm) (t : Bool) : Reach s pos O top t (pos + (x.length + 1)) O top false := by
  obtain ⟨hp, e, _⟩ := Rest.head (b := 59) (r := x ++ 10 :: r) (by simpa using h)
  have hs := span_all (p := nnlB) (x := 59 :: x) (r := 10 :: r) h (fun c hc => by
    rcases List.mem_cons.1 hc with rfl | hc
    · decide
    · have := hx c hc
      simp [nnlB]; omega) (fun c hc => by simp at hc; subst hc; decide)
  refine Reach.step hp ?_ (by omega)
  rw [e]
  unfold stepS
  rw [if_pos (by decide), hs]
  simp
/-- What may stand behind a number or a word. -/
def Ends (r : List UInt8) : Prop := ∀ c, r.head? = some c → tokB (c.toNat : Int) = false
theorem reach_tok {s : ByteArray} {pos : Nat} {x r : List UInt8} {k n : Int} {d : ByteArray} (h : Rest s pos (x ++ r)) (hx : ∀ c ∈ x, tokB (c.toNat : Int) = true) (hne : x ≠ []) (hr : Ends r) (ht : tokenR ⟨x.toArray⟩ = .form k n d) (O : List (List Fm)) (top : List Fm) :
    Reach s pos O top false (pos + x.length) O (top ++ [.mk k n d []]) true := by
  obtain ⟨b, y, rfl⟩ : ∃ b y, x = b :: y := by cases x with
                                              | nil => exact absurd rfl hne
                                              | cons b y => exact ⟨b, y, rfl⟩
  obtain ⟨hp, e, _⟩ := Rest.head (b := b) (r := y ++ r) (by simpa using h)
  have hs := span_all (p := tokB) h hx hr
  have hb := hx b (by simp)
  have hsp : spanB tokB s pos = ⟨(b :: y).toArray⟩ := by unfold spanB; rw [hs]
  refine Reach.step hp ?_ (by simp)
  rw [e]
  unfold tokB at hb
  simp only [Bool.and_eq_true, bne_iff_ne, ne_eq] at hb
  obtain ⟨⟨⟨⟨p0, p1⟩, p2⟩, p3⟩, p4⟩ := hb
  have hbl : blankB (b.toNat : Int) = false := by
    unfold plainB at p0
    simp only [Bool.and_eq_true, decide_eq_true_eq] at p0
    simp [blankB]; omega
  unfold stepS
  rw [if_neg (by omega), if_neg (by rw [hbl]; simp), if_neg (by omega), if_neg (by omega), if_neg (by rw [p0]; simp), if_neg (by simp), if_neg (by omega)]
  unfold tokS
  rw [hsp, ht]
  simp
  rfl
/-- A text. -/
theorem reach_text {s : ByteArray} {pos : Nat} {l r : List UInt8} (h : Rest s pos (quoL l ++ r)) (hl : ∀ c ∈ l, txtB (c.toNat : Int) = true) (hs : l.length ≤ 2000) (O : List (List Fm)) (top : List Fm) :
    Reach s pos O top false (pos + (quoL l).length) O (top ++ [.mk 2 0 ⟨l.toArray⟩ []]) true := by
  have h' : Rest s pos (34 :: (escL l ++ 34 :: r)) := by
    have e : quoL l ++ r = 34 :: (escL l ++ 34 :: r) := by simp [quoL]
    rwa [e] at h
  obtain ⟨hp, e, h2⟩ := h'.head
  refine Reach.step hp ?_ (by simp [quoL])
  rw [e]
  unfold stepS
  rw [if_neg (by decide), if_neg (by decide), if_neg (by decide), if_neg (by decide), if_neg (by decide), if_neg (by simp), if_pos (by decide)]
  unfold textS
  rw [h2.1, txt_esc l r hl]
  simp only
  have hz : (⟨l.toArray⟩ : ByteArray).size = l.length := by show l.toArray.size = l.length; simp
  rw [if_neg (by rw [hz]; omega)]
  congr 1
  simp [quoL]; omega
theorem reach_open {s : ByteArray} {pos : Nat} {r : List UInt8} (h : Rest s pos (40 :: r)) (O : List (List Fm)) (top : List Fm) (t : Bool) : Reach s pos O top t (pos + 1) (O ++ [top]) [] false := by
  obtain ⟨hp, e, _⟩ := h.head
  refine Reach.step hp ?_ (by omega)
  rw [e]
  unfold stepS
  rw [if_neg (by decide), if_neg (by decide), if_pos (by decide)]
theorem reach_close {s : ByteArray} {pos : Nat} {r : List UInt8} (h : Rest s pos (41 :: r)) (O : List (List Fm)) (l top : List Fm) (t : Bool) : Reach s pos (O ++ [l]) top t (pos + 1) O (l ++ [.mk 3 0 ⟨#[]⟩ top]) false := by
  obtain ⟨hp, e, _⟩ := h.head
  refine Reach.step hp ?_ (by omega)
  rw [e]
  unfold stepS
  rw [if_neg (by decide), if_neg (by decide), if_neg (by decide), if_pos (by decide)]
  unfold closeS
  simp

theorem bytes_nil {d : ByteArray} (h : d.size = 0) : d = ⟨#[]⟩ := by
  apply ByteArray.ext
  apply Array.eq_empty_of_size_eq_zero
  exact h
theorem bytes_back (d : ByteArray) : (⟨d.data.toList.toArray⟩ : ByteArray) = d := by cases d; simp
theorem allB_mem {p : Int → Bool} {d : ByteArray} (h : allB p d = true) : ∀ c ∈ d.data.toList, p (c.toNat : Int) = true := by
  unfold allB at h
  exact List.all_eq_true.1 h
/-- A form that is written is read as it was. -/
theorem reach_form (n : Nat) : ∀ f : Fm, SizeOf.sizeOf f < n → fieldsF f = true → ∀ (s : ByteArray) (pos : Nat) (r : List UInt8) (O : List (List Fm)) (top : List Fm), Rest s pos (txF f ++ r) → Ends r →
    ∃ t, Reach s pos O top false (pos + (txF f).length) O (top ++ [f]) t := by
  induction n with
  | zero => intro f h; omega
  | succ n ih =>
    intro f hn hf s pos r O top h hr
    rw [fieldsF_eq, Bool.and_eq_true] at hf
    rw [txF_eq] at h ⊢
    rcases alone_cases hf.1 with ⟨k, hx, hk, h1, h2⟩ | ⟨k, h0, hk, hw⟩ | ⟨k, h0, hk, hw⟩ | ⟨k, h0, hx⟩
    · rw [if_pos k] at h ⊢
      obtain ⟨fk, fn, fs, fks⟩ := f
      simp only [Fm.kd, Fm.nn, Fm.tx, Fm.ks] at *
      subst k hk
      rw [bytes_nil hx]
      refine ⟨true, reach_tok h (tok_itoa fn) (itoa_ne fn) hr ?_ O top⟩
      unfold tokenR
      have e : (⟨(Lib.itoa fn).toArray⟩ : ByteArray).data.toList = Lib.itoa fn := rfl
      rw [if_neg (by unfold numB; rw [e, num_itoa]; simp), e, if_neg (by rw [canon_itoa]; simp), atoi_itoa fn h1 h2]
      simp only
      rw [if_pos (by unfold rangeB; simp [h1, h2])]
    · rw [if_neg (by omega), if_pos k] at h ⊢
      obtain ⟨fk, fn, fs, fks⟩ := f
      simp only [Fm.kd, Fm.nn, Fm.tx, Fm.ks] at *
      subst k hk h0
      have hw2 := hw
      unfold wordB at hw
      simp only [Bool.and_eq_true, decide_eq_true_eq, Bool.not_eq_true'] at hw
      obtain ⟨⟨⟨w1, w2⟩, w3⟩, w4⟩ := hw
      refine ⟨true, reach_tok h (allB_mem w3) (by intro e; have : fs.size = 0 := (by have := congrArg List.length e; simpa using this); omega) hr ?_ O top⟩
      rw [bytes_back]
      unfold tokenR
      rw [if_pos w4, if_neg (by omega)]
    · rw [if_neg (by omega), if_neg (by omega), if_pos k] at h ⊢
      obtain ⟨fk, fn, fs, fks⟩ := f
      simp only [Fm.kd, Fm.nn, Fm.tx, Fm.ks] at *
      subst k hk h0
      unfold textB at hw
      simp only [Bool.and_eq_true, decide_eq_true_eq] at hw
      have := reach_text h (allB_mem hw.2) (by simpa using hw.1) O top
      rw [bytes_back] at this
      exact ⟨true, this⟩
    · rw [if_neg (by omega), if_neg (by omega), if_neg (by omega)] at h ⊢
      have hks : f.kids = f.ks := by unfold Fm.kids; rw [if_pos k]
      rw [hks] at hf
      have hkid : ∀ g ∈ f.ks, fieldsF g = true := fun g hg => fieldsL_mem hf.2 hg
      have hsz : ∀ g ∈ f.ks, SizeOf.sizeOf g < n := fun g hg => by have := Fm.kid_lt hg; omega
      have hrec : f = .mk 3 0 ⟨#[]⟩ f.ks := by
        obtain ⟨fk, fn, fs, fks⟩ := f
        simp only [Fm.kd, Fm.nn, Fm.tx, Fm.ks] at *
        subst k h0
        rw [bytes_nil hx]
      refine ⟨false, ?_⟩
      have ho : Rest s pos (40 :: (joinB (f.ks.map txF) ++ 41 :: r)) := by simpa using h
      have hin := ho.head.choose_spec.2
      -- the Kids, one behind the other
      have hlist : ∀ (l : List Fm), (∀ g ∈ l, fieldsF g = true ∧ SizeOf.sizeOf g < n) → ∀ (p : Nat) (a : List Fm) (t : Bool), Rest s p (((l.map txF).flatMap fun y => (32 : UInt8) :: y) ++ 41 :: r) →
          ∃ t', Reach s p (O ++ [top]) a t (p + ((l.map txF).flatMap fun y => (32 : UInt8) :: y).length) (O ++ [top]) (a ++ l) t' := by
        intro l
        induction l with
        | nil => intro _ p a t _; exact ⟨t, by simpa using Reach.refl _ _ _ _ _⟩
        | cons g l ihl =>
          intro hg p a t hp
          simp only [List.map_cons, List.flatMap_cons, List.cons_append, List.append_assoc] at hp
          obtain ⟨_, _, hp2⟩ := hp.head
          have hE : Ends (((l.map txF).flatMap fun y => (32 : UInt8) :: y) ++ 41 :: r) := by
            intro c hc
            cases l with
            | nil => simp at hc; subst hc; decide
            | cons x y => simp at hc; subst hc; decide
          obtain ⟨t1, h1⟩ := ih g (hg g (by simp)).2 (hg g (by simp)).1 s (p + 1) _ (O ++ [top]) a hp2 hE
          obtain ⟨t2, h2⟩ := ihl (fun x hx => hg x (by simp [hx])) (p + 1 + (txF g).length) (a ++ [g]) t1 hp2.skip
          refine ⟨t2, ?_⟩
          have := (reach_blank hp (by decide) (O ++ [top]) a t).trans (h1.trans h2)
          simp only [List.map_cons, List.flatMap_cons, List.length_append, List.length_cons]
          rw [show p + ((txF g).length + 1 + ((l.map txF).flatMap fun y => (32 : UInt8) :: y).length) = p + 1 + (txF g).length + ((l.map txF).flatMap fun y => (32 : UInt8) :: y).length by omega]
          simpa using this
      have hkids : ∃ t', Reach s (pos + 1) (O ++ [top]) [] false (pos + 1 + (joinB (f.ks.map txF)).length) (O ++ [top]) f.ks t' := by
        cases hl : f.ks with
        | nil => exact ⟨false, by simpa [joinB] using Reach.refl _ _ _ _ _⟩
        | cons g l =>
          rw [hl] at hin
          simp only [List.map_cons, joinB, List.append_assoc] at hin
          have hE : Ends (((l.map txF).flatMap fun y => (32 : UInt8) :: y) ++ 41 :: r) := by
            intro c hc
            cases l with
            | nil => simp at hc; subst hc; decide
            | cons x y => simp at hc; subst hc; decide
          obtain ⟨t1, h1⟩ := ih g (hsz g (by rw [hl]; simp)) (hkid g (by rw [hl]; simp)) s (pos + 1) _ (O ++ [top]) [] hin hE
          obtain ⟨t2, h2⟩ := hlist l (fun x hx => ⟨hkid x (by rw [hl]; simp [hx]), hsz x (by rw [hl]; simp [hx])⟩) (pos + 1 + (txF g).length) [g] t1 hin.skip
          refine ⟨t2, ?_⟩
          have := h1.trans h2
          simp only [List.map_cons, joinB, List.length_append]
          rw [show pos + 1 + ((txF g).length + ((l.map txF).flatMap fun y => (32 : UInt8) :: y).length) = pos + 1 + (txF g).length + ((l.map txF).flatMap fun y => (32 : UInt8) :: y).length by omega]
          simpa using this
      obtain ⟨t', h2⟩ := hkids
      have hc := hin.skip
      have h3 := (reach_open ho O top false).trans (h2.trans (reach_close hc O top f.ks t'))
      rw [← hrec] at h3
      simp only [List.length_cons, List.length_append, List.length_nil]
      rw [show pos + ((joinB (f.ks.map txF)).length + (0 + 1) + 1) = pos + 1 + (joinB (f.ks.map txF)).length + 1 by omega]
      exact h3
theorem reach_end {s : ByteArray} {top : List Fm} {t : Bool} (h : Reach s 0 [] [] false s.size [] top t) (hs : s.size ≤ 60000) (hv : top.all validF = true) : readR s = .ok top := by
  obtain ⟨n, h1, h2⟩ := h
  unfold readR
  rw [if_neg (by omega)]
  have e : s.size + 1 = (s.size - n + 1) + n := by omega
  rw [e, h2, loopS_end (by omega)]
  show (if ([] : List (List Fm)) ≠ [] then RD.err 12 else if top.all validF = true then RD.ok top else RD.err 2) = RD.ok top
  rw [if_neg (by simp), if_pos hv]
/-- Forms, each with a line feed behind it. -/
def wAll (fs : List Fm) : List UInt8 := fs.flatMap fun f => txF f ++ [10]
theorem all_valid {fs : List Fm} (h : ∀ f ∈ fs, validF f = true) : fs.all validF = true := List.all_eq_true.2 h
theorem read_all {fs : List Fm} (hv : ∀ f ∈ fs, validF f = true) {d : ByteArray} (hd : d.data.toList = wAll fs) (hs : d.size ≤ 60000) : readR d = .ok fs := by
  have key : ∀ (l : List Fm), (∀ f ∈ l, validF f = true) → ∀ (pos : Nat) (top : List Fm), Rest d pos (wAll l) → Reach d pos [] top false (pos + (wAll l).length) [] (top ++ l) false := by
    intro l
    induction l with
    | nil => intro _ pos top _; simpa [wAll] using Reach.refl _ _ _ _ _
    | cons f l ih =>
      intro h pos top hr
      have e : wAll (f :: l) = txF f ++ (10 :: wAll l) := by simp [wAll]
      rw [e] at hr ⊢
      obtain ⟨t, h1⟩ := reach_form _ f (Nat.lt_succ_self _) (valid_parts (h f (by simp))).2.2 d pos _ [] top hr (by intro c hc; simp at hc; subst hc; decide)
      have h2 := reach_blank hr.skip (by decide) [] (top ++ [f]) t
      have h3 := ih (fun g hg => h g (by simp [hg])) (pos + (txF f).length + 1) (top ++ [f]) hr.skip.head.choose_spec.2
      have := h1.trans (h2.trans h3)
      simp only [List.length_append, List.length_cons]
      rw [show pos + ((txF f).length + ((wAll l).length + 1)) = pos + (txF f).length + 1 + (wAll l).length by omega]
      simpa using this
  have h0 : Rest d 0 (wAll fs) := ⟨by simpa using hd, Nat.zero_le _⟩
  have h1 := key fs hv 0 [] h0
  rw [h0.size] at h1
  exact reach_end (by simpa using h1) hs (all_valid hv)
/-- Forms, with blanks and comments between. -/
def wMix (fs : List Fm) : List UInt8 := fs.flatMap fun f => 9 :: (txF f ++ [32, 59, 34, 10, 10])
theorem read_mix {fs : List Fm} (hv : ∀ f ∈ fs, validF f = true) {d : ByteArray} (hd : d.data.toList = [32, 59, 32, 40, 10] ++ wMix fs) (hs : d.size ≤ 60000) : readR d = .ok fs := by
  have key : ∀ (l : List Fm), (∀ f ∈ l, validF f = true) → ∀ (pos : Nat) (top : List Fm), Rest d pos (wMix l) → Reach d pos [] top false (pos + (wMix l).length) [] (top ++ l) false := by
    intro l
    induction l with
    | nil => intro _ pos top _; simpa [wMix] using Reach.refl _ _ _ _ _
    | cons f l ih =>
      intro h pos top hr
      have e : wMix (f :: l) = 9 :: (txF f ++ (32 :: 59 :: 34 :: 10 :: 10 :: wMix l)) := by simp [wMix]
      rw [e] at hr ⊢
      have h0 := reach_blank hr (by decide) [] top false
      have r1 := hr.head.choose_spec.2
      obtain ⟨t, h1⟩ := reach_form _ f (Nat.lt_succ_self _) (valid_parts (h f (by simp))).2.2 d (pos + 1) _ [] top r1 (by intro c hc; simp at hc; subst hc; decide)
      have r2 := r1.skip
      have h2 := reach_blank r2 (by decide) [] (top ++ [f]) t
      have r3 := r2.head.choose_spec.2
      have h3 := reach_comment (x := [34]) (r := 10 :: wMix l) r3 (by intro c hc; simp at hc; subst hc; decide) [] (top ++ [f]) false
      have r4 : Rest d (pos + 1 + (txF f).length + 1 + 2) (10 :: 10 :: wMix l) := Rest.skip (x := [59, 34]) r3
      have h4 := reach_blank r4 (by decide) [] (top ++ [f]) false
      have r5 := r4.head.choose_spec.2
      have h5 := reach_blank r5 (by decide) [] (top ++ [f]) false
      have r6 := r5.head.choose_spec.2
      have h6 := ih (fun g hg => h g (by simp [hg])) _ (top ++ [f]) r6
      have := h0.trans (h1.trans (h2.trans (h3.trans (h4.trans (h5.trans h6)))))
      simp only [List.length_append, List.length_cons]
      rw [show pos + ((txF f).length + ((wMix l).length + 1 + 1 + 1 + 1 + 1) + 1) = pos + 1 + (txF f).length + 1 + 2 + 1 + 1 + (wMix l).length by omega]
      simpa using this
  have h0 : Rest d 0 (32 :: 59 :: 32 :: 40 :: 10 :: wMix fs) := ⟨by simpa using hd, Nat.zero_le _⟩
  have a1 := reach_blank h0 (by decide) [] [] false
  have r1 := h0.head.choose_spec.2
  have a2 := reach_comment (x := [32, 40]) (r := wMix fs) r1 (by intro c hc; simp at hc; rcases hc with rfl | rfl <;> decide) [] [] false
  have r2 : Rest d (0 + 1 + 3) (10 :: wMix fs) := Rest.skip (x := [59, 32, 40]) r1
  have a3 := reach_blank r2 (by decide) [] [] false
  have r3 := r2.head.choose_spec.2
  have a4 := key fs hv _ [] r3
  rw [r3.size] at a4
  exact reach_end (by simpa using a1.trans (a2.trans (a3.trans a4))) hs (all_valid hv)
end Go.Proofs.YtedabholcldgbaaGreatDoor

/- A form that is read in a text is read alike in a text that goes on the same up to the end of its line. Plain. -/
namespace Go.Proofs.YtedabholcldgbaaGreatDoor.Y
open Go.RowKit Go.Deep

/-- Nothing, or a line feed first. -/
def NL (z : List UInt8) : Prop := ∀ c, z.head? = some c → c = 10
theorem nl_nil : NL [] := fun c h => by cases h
theorem nl_cons (r : List UInt8) : NL (10 :: r) := fun c h => by cases h; rfl
theorem span_nl {p : Int → Bool} (hp : p 10 = false) {z : List UInt8} (hz : NL z) : ∀ x : List UInt8, spanL p (x ++ z) = spanL p x
  | [] => by
    cases z with
    | nil => rfl
    | cons c r =>
      have := hz c rfl
      subst this
      unfold spanL
      rw [List.nil_append, List.takeWhile_cons, if_neg (by show ¬ p 10 = true; rw [hp]; decide)]
      rfl
  | b :: x => by
    have ih := span_nl hp hz x
    unfold spanL at ih ⊢
    rw [List.cons_append, List.takeWhile_cons, List.takeWhile_cons, ih]
theorem txt_nl {z z' : List UInt8} (hz : NL z) (m : Nat) : ∀ (x : List UInt8), x.length ≤ m → ∀ {bs : List UInt8} {n : Nat}, txtL (x ++ z) = .done bs n → txtL (x ++ z') = .done bs n ∧ n ≤ x.length := by
  have base : ∀ {bs : List UInt8} {n : Nat}, txtL z ≠ .done bs n := by
    intro bs n h
    cases z with
    | nil => rw [txtL] at h; cases h
    | cons c r =>
      have := hz c rfl
      subst this
      rw [txtL_cons, if_neg (by decide), if_neg (by decide), if_neg (by decide)] at h
      cases h
  induction m with
  | zero =>
    intro x hl bs n h
    have e : x = [] := List.length_eq_zero_iff.1 (by omega)
    subst e
    exact absurd h base
  | succ m ih =>
    intro x hl bs n h
    cases x with
    | nil => exact absurd h base
    | cons b r =>
      simp only [List.length_cons] at hl ⊢
      rw [List.cons_append, txtL_cons] at h ⊢
      have pre : ∀ (t : TX) (a : List UInt8) (j : Nat), t.pre a j = .done bs n → ∃ bs' k', t = .done bs' k' ∧ n = j + k' ∧ bs = a ++ bs' := by
        intro t a j ht
        cases t with
        | err e => cases ht
        | done bs' k' => simp only [TX.pre, TX.done.injEq] at ht; exact ⟨bs', k', rfl, ht.2.symm, ht.1.symm⟩
      by_cases h34 : b.toNat = 34
      · rw [if_pos h34] at h ⊢
        cases h
        exact ⟨rfl, by omega⟩
      · rw [if_neg h34] at h ⊢
        by_cases h92 : b.toNat = 92
        · rw [if_pos h92] at h ⊢
          cases r with
          | nil =>
            rw [List.nil_append] at h
            cases z with
            | nil => cases h
            | cons c z2 =>
              have := hz c rfl
              subst this
              simp only at h
              rw [if_neg (by decide)] at h
              cases h
          | cons c r' =>
            simp only [List.cons_append] at h ⊢
            split at h
            · rename_i hu
              rw [if_pos hu]
              obtain ⟨bs', k', ht, rfl, rfl⟩ := pre _ _ _ h
              simp only [List.length_cons] at hl ⊢
              obtain ⟨i1, i2⟩ := ih r' (by omega) ht
              rw [i1]
              exact ⟨rfl, by omega⟩
            · cases h
        · rw [if_neg h92] at h ⊢
          split at h
          · rename_i hu
            rw [if_pos hu]
            obtain ⟨bs', k', ht, rfl, rfl⟩ := pre _ _ _ h
            obtain ⟨i1, i2⟩ := ih r (by omega) ht
            rw [i1]
            exact ⟨rfl, by omega⟩
          · cases h
/-- One step, in another text that goes on alike. -/
theorem step_shift {s s2 : ByteArray} {pos pos2 : Nat} (hp : pos < s.size) (hp2 : pos2 < s2.size) {X z z' : List UInt8} (h : s.data.toList.drop pos = X ++ z) (h2 : s2.data.toList.drop pos2 = X ++ z') (hz : NL z) (hz' : NL z') (hX : X ≠ [])
    {O : List (List Fm)} {top : List Fm} {t : Bool} {q : Nat} {O' : List (List Fm)} {top' : List Fm} {t' : Bool} (hs : stepS s pos s[pos].toNat O top t = .ok q O' top' t') :
    pos < q ∧ q ≤ pos + X.length ∧ stepS s2 pos2 s2[pos2].toNat O top t = .ok (pos2 + (q - pos)) O' top' t' := by
  obtain ⟨b, x, rfl⟩ : ∃ b x, X = b :: x := by
    cases X with
    | nil => exact absurd rfl hX
    | cons b x => exact ⟨b, x, rfl⟩
  have d1 := drop_byte' s pos hp
  have d2 := drop_byte' s2 pos2 hp2
  rw [h, List.cons_append] at d1
  rw [h2, List.cons_append] at d2
  injection d1 with e1 f1
  injection d2 with e2 f2
  rw [← e1] at hs
  rw [← e2]
  have sp : ∀ p : Int → Bool, p 10 = false → spanL p (s.data.toList.drop pos) = spanL p (b :: x) ∧ spanL p (s2.data.toList.drop pos2) = spanL p (b :: x) := fun p hp => by
    rw [h, h2, span_nl hp hz, span_nl hp hz']
    exact ⟨rfl, rfl⟩
  have le : ∀ p : Int → Bool, (spanL p (b :: x)).length ≤ (b :: x).length := fun p => List.Sublist.length_le (List.takeWhile_sublist _)
  unfold stepS at hs ⊢
  by_cases h59 : b.toNat = 59
  · rw [if_pos h59] at hs ⊢
    obtain ⟨a1, a2⟩ := sp nnlB (by decide)
    rw [a1] at hs
    rw [a2]
    injection hs with g1 g2 g3 g4
    subst g1 g2 g3 g4
    have l1 := le nnlB
    have l2 : 1 ≤ (spanL nnlB (b :: x)).length := by
      unfold spanL
      rw [List.takeWhile_cons, if_pos (by rw [h59]; rfl)]
      simp
    refine ⟨by omega, by omega, ?_⟩
    rw [show pos + (spanL nnlB (b :: x)).length - pos = (spanL nnlB (b :: x)).length by omega]
  · rw [if_neg h59] at hs ⊢
    by_cases hb : blankB (b.toNat : Int) = true
    · rw [if_pos hb] at hs ⊢
      injection hs with g1 g2 g3 g4
      subst g1 g2 g3 g4
      refine ⟨by omega, by simp, ?_⟩
      rw [show pos + 1 - pos = 1 by omega]
    · rw [if_neg hb] at hs ⊢
      by_cases h40 : b.toNat = 40
      · rw [if_pos h40] at hs ⊢
        injection hs with g1 g2 g3 g4
        subst g1 g2 g3 g4
        refine ⟨by omega, by simp, ?_⟩
        rw [show pos + 1 - pos = 1 by omega]
      · rw [if_neg h40] at hs ⊢
        by_cases h41 : b.toNat = 41
        · rw [if_pos h41] at hs ⊢
          unfold closeS at hs ⊢
          cases hl : O.getLast? with
          | none => rw [hl] at hs; cases hs
          | some l =>
            rw [hl] at hs
            injection hs with g1 g2 g3 g4
            subst g1 g2 g3 g4
            refine ⟨by omega, by simp, ?_⟩
            rw [show pos + 1 - pos = 1 by omega]
        · rw [if_neg h41] at hs ⊢
          by_cases hpl : plainB (b.toNat : Int) = false
          · rw [if_pos hpl] at hs; cases hs
          · rw [if_neg hpl] at hs ⊢
            by_cases ht : t = true
            · rw [if_pos ht] at hs; cases hs
            · rw [if_neg ht] at hs ⊢
              by_cases h34 : b.toNat = 34
              · rw [if_pos h34] at hs ⊢
                unfold textS at hs ⊢
                rw [← f1] at hs
                rw [← f2]
                split at hs
                · cases hs
                · rename_i bs n htx
                  obtain ⟨i1, i2⟩ := txt_nl (z' := z') hz _ x (Nat.le_refl _) htx
                  rw [i1]
                  simp only
                  split at hs
                  · cases hs
                  · rename_i hsz
                    rw [if_neg hsz]
                    injection hs with g1 g2 g3 g4
                    subst g1 g2 g3 g4
                    refine ⟨by omega, by simp; omega, ?_⟩
                    rw [show pos2 + (pos + n + 1 - pos) = pos2 + n + 1 by omega]
              · rw [if_neg h34] at hs ⊢
                unfold tokS at hs ⊢
                obtain ⟨a1, a2⟩ := sp tokB (by decide)
                have b1 : spanB tokB s pos = ⟨(spanL tokB (b :: x)).toArray⟩ := by unfold spanB; rw [a1]
                have b2 : spanB tokB s2 pos2 = ⟨(spanL tokB (b :: x)).toArray⟩ := by unfold spanB; rw [a2]
                rw [b1] at hs
                rw [b2]
                have hsz : (⟨(spanL tokB (b :: x)).toArray⟩ : ByteArray).size = (spanL tokB (b :: x)).length := rfl
                have l1 := le tokB
                have l2 : 1 ≤ (spanL tokB (b :: x)).length := by
                  unfold spanL
                  rw [List.takeWhile_cons, if_pos (by
                    have : plainB (b.toNat : Int) = true := by simpa using hpl
                    unfold tokB
                    rw [this]
                    simp only [Bool.true_and, Bool.and_eq_true, bne_iff_ne, ne_eq]
                    omega)]
                  simp
                split at hs
                · cases hs
                · rename_i k n tt htk
                  injection hs with g1 g2 g3 g4
                  rw [hsz] at g1
                  subst g1 g2 g3 g4
                  refine ⟨by omega, by omega, ?_⟩
                  rw [hsz, show pos + (spanL tokB (b :: x)).length - pos = (spanL tokB (b :: x)).length by omega]
/-- More forms ahead, in the outermost list. -/
def exO (A : List Fm) : List (List Fm) → List (List Fm)
  | [] => []
  | l :: r => (A ++ l) :: r
def exT (A : List Fm) (O : List (List Fm)) (top : List Fm) : List Fm := match O with
  | [] => A ++ top
  | _ :: _ => top
theorem exO_nil {A : List Fm} {O : List (List Fm)} : exO A O = [] ↔ O = [] := by cases O <;> simp [exO]
theorem exO_len (A : List Fm) (O : List (List Fm)) : (exO A O).length = O.length := by cases O <;> simp [exO]
theorem exT_app (A : List Fm) (O : List (List Fm)) (top : List Fm) (f : Fm) : exT A O (top ++ [f]) = exT A O top ++ [f] := by cases O <;> simp [exT]
theorem exO_push (A : List Fm) (O : List (List Fm)) (top : List Fm) : exO A O ++ [exT A O top] = exO A (O ++ [top]) ∧ exT A (O ++ [top]) [] = [] := by cases O <;> simp [exO, exT]
theorem exO_last (A : List Fm) (O : List (List Fm)) (l : List Fm) : (exO A (O ++ [l])).getLast? = some (exT A O l) ∧ (exO A (O ++ [l])).dropLast = exO A O := by
  cases O with
  | nil => simp [exO, exT]
  | cons a r =>
    simp only [List.cons_append, exO, exT]
    refine ⟨by simp [List.getLast?_cons, List.getLast?_append], ?_⟩
    rw [List.dropLast_cons_of_ne_nil (by simp)]
    simp
/-- One step does not ask what the outermost list begins with. -/
theorem step_frame {s : ByteArray} {pos b : Nat} {A : List Fm} {O : List (List Fm)} {top : List Fm} {t : Bool} {q : Nat} {O' : List (List Fm)} {top' : List Fm} {t' : Bool} (h : stepS s pos b (exO A O) (exT A O top) t = .ok q O' top' t') :
    ∃ O1 top1, O' = exO A O1 ∧ top' = exT A O1 top1 ∧ ∀ B, stepS s pos b (exO B O) (exT B O top) t = .ok q (exO B O1) (exT B O1 top1) t' := by
  unfold stepS at h
  by_cases h59 : b = 59
  · rw [if_pos h59] at h
    injection h with g1 g2 g3 g4
    subst g1 g2 g3 g4
    exact ⟨O, top, rfl, rfl, fun B => by unfold stepS; rw [if_pos h59]⟩
  · rw [if_neg h59] at h
    by_cases hb : blankB (b : Int) = true
    · rw [if_pos hb] at h
      injection h with g1 g2 g3 g4
      subst g1 g2 g3 g4
      exact ⟨O, top, rfl, rfl, fun B => by unfold stepS; rw [if_neg h59, if_pos hb]⟩
    · rw [if_neg hb] at h
      by_cases h40 : b = 40
      · rw [if_pos h40] at h
        injection h with g1 g2 g3 g4
        subst g1 g2 g3 g4
        exact ⟨O ++ [top], [], (exO_push A O top).1, (exO_push A O top).2.symm, fun B => by unfold stepS; rw [if_neg h59, if_neg hb, if_pos h40, (exO_push B O top).1, (exO_push B O top).2]⟩
      · rw [if_neg h40] at h
        by_cases h41 : b = 41
        · rw [if_pos h41] at h
          unfold closeS at h
          rcases List.eq_nil_or_concat O with rfl | ⟨O0, l, rfl⟩
          · cases h
          · rw [List.concat_eq_append, (exO_last A O0 l).1] at h
            injection h with g1 g2 g3 g4
            subst g1 g3 g4
            simp only [List.concat_eq_append] at g2 ⊢
            have eT : ∀ C, exT C (O0 ++ [l]) top = top := fun C => by cases O0 <;> rfl
            refine ⟨O0, l ++ [.mk 3 0 ⟨#[]⟩ top], by rw [← g2]; exact (exO_last A O0 l).2, by rw [exT_app, eT], fun B => ?_⟩
            unfold stepS closeS
            rw [if_neg h59, if_neg hb, if_neg h40, if_pos h41, (exO_last B O0 l).1]
            simp only
            rw [(exO_last B O0 l).2, exT_app, eT]
        · rw [if_neg h41] at h
          split at h
          · cases h
          · rename_i hpl
            split at h
            · cases h
            · rename_i ht
              by_cases h34 : b = 34
              · rw [if_pos h34] at h
                unfold textS at h
                split at h
                · cases h
                · rename_i bs n htx
                  split at h
                  · cases h
                  · rename_i hsz
                    injection h with g1 g2 g3 g4
                    subst g1 g2 g3 g4
                    refine ⟨O, top ++ [.mk 2 0 ⟨bs.toArray⟩ []], rfl, (exT_app _ _ _ _).symm, fun B => ?_⟩
                    unfold stepS textS
                    rw [if_neg h59, if_neg hb, if_neg h40, if_neg h41, if_neg hpl, if_neg ht, if_pos h34, htx]
                    simp only
                    rw [if_neg hsz, exT_app]
              · rw [if_neg h34] at h
                unfold tokS at h
                split at h
                · cases h
                · rename_i k n tt htk
                  injection h with g1 g2 g3 g4
                  subst g1 g2 g3 g4
                  refine ⟨O, top ++ [.mk k n tt []], rfl, (exT_app _ _ _ _).symm, fun B => ?_⟩
                  unfold stepS tokS
                  rw [if_neg h59, if_neg hb, if_neg h40, if_neg h41, if_neg hpl, if_neg ht, if_neg h34, htk]
                  simp only
                  rw [exT_app]
theorem Rest.lt {s : ByteArray} {pos : Nat} {X z : List UInt8} (h : Rest s pos (X ++ z)) (hX : X ≠ []) : pos < s.size := by
  have := h.size
  have h2 : 0 < X.length := List.length_pos_iff.2 hX
  rw [List.length_append] at this
  omega
theorem baseL_len (O : List (List Fm)) (top : List Fm) : O = [] → baseL O top = top := by rintro rfl; rfl
/-- A form that begins here, in any text that goes on alike up to a line feed behind it. -/
theorem past_copy (s : ByteArray) : ∀ (n k pos : Nat) (A : List Fm) (O : List (List Fm)) (top : List Fm) (t : Bool) (F : List Fm), loopS s k pos (exO A O) (exT A O top) t = .ok [] F → s.size - pos < k → s.size < n + pos →
    (O = [] → ∃ hp : pos < s.size, blankB (s[pos].toNat : Int) = false ∧ s[pos].toNat ≠ 59) →
    ∃ k' t' f, loopS s k' (pos + pastF n (s.data.toList.drop pos) O.length) [] (A ++ (baseL O top ++ [f])) t' = .ok [] F ∧ s.size - (pos + pastF n (s.data.toList.drop pos) O.length) < k' ∧ 1 ≤ pastF n (s.data.toList.drop pos) O.length ∧ pos + pastF n (s.data.toList.drop pos) O.length ≤ s.size ∧
      ∀ (u z z' : List UInt8), s.data.toList.drop (pos + pastF n (s.data.toList.drop pos) O.length) = u ++ z → NL z → NL z' → ∀ (s2 : ByteArray) (pos2 : Nat), Rest s2 pos2 ((s.data.toList.drop pos).take (pastF n (s.data.toList.drop pos) O.length) ++ (u ++ z')) → ∀ B,
        Reach s2 pos2 (exO B O) (exT B O top) t (pos2 + pastF n (s.data.toList.drop pos) O.length) [] (B ++ (baseL O top ++ [f])) t' := by
  intro n
  induction n with
  | zero =>
    intro k pos A O top t F h hk hn hO
    exfalso
    cases O with
    | nil => obtain ⟨hp, _⟩ := hO rfl; omega
    | cons a O =>
      obtain ⟨k0, rfl⟩ : ∃ k0, k = k0 + 1 := ⟨k - 1, by omega⟩
      rw [loopS, dif_neg (by omega)] at h
      cases h
  | succ n ih =>
    intro k pos A O top t F h hk hn hO
    obtain ⟨k0, rfl⟩ : ∃ k0, k = k0 + 1 := ⟨k - 1, by omega⟩
    have hp : pos < s.size := by
      cases O with
      | nil => exact (hO rfl).1
      | cons a O =>
        rcases Nat.lt_or_ge pos s.size with h' | h'
        · exact h'
        · rw [loopS, dif_neg (by omega)] at h
          cases h
    rw [loopS, dif_pos hp] at h
    cases hs : stepS s pos s[pos].toNat (exO A O) (exT A O top) t with
    | err c => rw [hs] at h; cases h
    | ok q O' top' t' =>
      rw [hs] at h
      simp only at h
      have hC := (stC_le s[pos] (s.data.toList.drop (pos + 1))).1
      obtain ⟨g1, g2, _, _⟩ := step_goes hp hs (fun hq => by
        cases k0 with
        | zero => rw [loopS] at h; cases h
        | succ k1 => exact loop_byte h hq)
      obtain ⟨O1, top1, rfl, rfl, hfr⟩ := step_frame hs
      obtain ⟨_, _, g3, g4⟩ := step_goes hp (hfr []) (fun hq => by
        cases k0 with
        | zero => rw [loopS] at h; cases h
        | succ k1 => exact loop_byte h hq)
      have ex0 : ∀ (O : List (List Fm)) (top : List Fm), exO [] O = O ∧ exT [] O top = top := fun O top => by cases O <;> simp [exO, exT]
      rw [(ex0 O top).1, (ex0 O top).2, (ex0 O1 top1).1, (ex0 O1 top1).2] at g3
      rw [(ex0 O top).1, (ex0 O1 top1).1, (ex0 O1 top1).2] at g4
      rw [exO_len, exO_len] at g2
      have hql : q ≤ s.size := Nat.le_trans (step_shift hp hp (X := s.data.toList.drop pos) (z := []) (z' := []) (by simp) (by simp) nl_nil nl_nil (by rw [drop_byte' s pos hp]; simp) hs).2.1 (by simp; omega)
      rw [drop_byte' s pos hp, pastF, ← drop_byte' s pos hp, List.drop_drop]
      obtain ⟨C, hCC⟩ : ∃ C, stC s[pos] (s.data.toList.drop (pos + 1)) = C := ⟨_, rfl⟩
      rw [hCC] at g1 hC ⊢
      subst g1
      rw [← g2]
      have dropC : ∀ {m : Nat}, s.data.toList.drop (C + m) = s.data.toList.drop (m + C) := fun {m} => by rw [Nat.add_comm]
      by_cases hz : O1.length = 0
      · rw [if_pos (by omega)]
        have hO1 : O1 = [] := List.length_eq_zero_iff.1 hz
        subst hO1
        have ht : ∃ f, top1 = baseL O top ++ [f] := by
          rcases g3 with ⟨e, _⟩ | ⟨e, _⟩ | ⟨l, f, e, ht⟩
          · rw [← e]
            obtain ⟨_, hb, h5⟩ := hO e.symm
            obtain ⟨f, hf⟩ := g4 hb h5 e.symm rfl
            exact ⟨f, by rw [hf, ← e, (ex0 [] top).2]; rfl⟩
          · simp at e
          · rw [e]; exact ⟨f, ht⟩
        obtain ⟨f, rfl⟩ := ht
        refine ⟨k0, t', f, h, by omega, hC, hql, ?_⟩
        intro u z z' hd hz1 hz2 s2 pos2 hr B
        have hl : ((s.data.toList.drop pos).take C).length = C := by rw [List.length_take, List.length_drop]; simp; omega
        have hne : (s.data.toList.drop pos).take C ++ u ≠ [] := by
          intro e
          have := congrArg List.length e
          rw [List.length_append, hl] at this
          simp at this; omega
        have hr' : Rest s2 pos2 (((s.data.toList.drop pos).take C ++ u) ++ z') := by rw [List.append_assoc]; exact hr
        have hp2 := Rest.lt hr' hne
        have hsd : s.data.toList.drop pos = ((s.data.toList.drop pos).take C ++ u) ++ z := by
          conv => lhs; rw [← List.take_append_drop C (s.data.toList.drop pos)]
          rw [List.drop_drop, hd, List.append_assoc]
        obtain ⟨_, _, j3⟩ := step_shift hp hp2 hsd hr'.1 hz1 hz2 hne (hfr B)
        rw [show pos + C - pos = C by omega] at j3
        exact Reach.step hp2 j3 (by omega)
      · rw [if_neg (by omega)]
        have hne1 : O1 ≠ [] := fun e => hz (by rw [e]; rfl)
        have hbase : baseL O1 top1 = baseL O top := by
          rcases g3 with ⟨e, _⟩ | ⟨e, _⟩ | ⟨l, f, e, _⟩
          · subst e
            cases O1 with
            | nil => exact absurd rfl hne1
            | cons a O => rfl
          · subst e
            cases O with
            | nil => rfl
            | cons a O => rfl
          · subst e
            exact (base_app hne1).symm
        obtain ⟨k', t2, f, i1, i2, i3, i4, i5⟩ := ih k0 (pos + C) A O1 top1 t' F h (by omega) (by omega) (fun e => absurd e hne1)
        rw [hbase] at i1 i5
        obtain ⟨P, hP⟩ : ∃ P, pastF n (s.data.toList.drop (pos + C)) (O1.length : Int) = P := ⟨_, rfl⟩
        rw [hP] at i1 i2 i3 i4 i5
        have hPe : pastF n (s.data.toList.drop (C + pos)) (O1.length : Int) = P := by rw [Nat.add_comm]; exact hP
        have goal : ∃ k' t' f, loopS s k' (pos + (C + P)) [] (A ++ (baseL O top ++ [f])) t' = .ok [] F ∧ s.size - (pos + (C + P)) < k' ∧ 1 ≤ C + P ∧ pos + (C + P) ≤ s.size ∧
            ∀ (u z z' : List UInt8), s.data.toList.drop (pos + (C + P)) = u ++ z → NL z → NL z' → ∀ (s2 : ByteArray) (pos2 : Nat), Rest s2 pos2 ((s.data.toList.drop pos).take (C + P) ++ (u ++ z')) → ∀ B,
              Reach s2 pos2 (exO B O) (exT B O top) t (pos2 + (C + P)) [] (B ++ (baseL O top ++ [f])) t' := by
          rw [← Nat.add_assoc]
          refine ⟨k', t2, f, i1, i2, by omega, i4, ?_⟩
          intro u z z' hd hz1 hz2 s2 pos2 hr B
          have hl : ((s.data.toList.drop pos).take (C + P)).length = C + P := by rw [List.length_take, List.length_drop]; simp; omega
          have hne : (s.data.toList.drop pos).take (C + P) ++ u ≠ [] := by
            intro e
            have := congrArg List.length e
            rw [List.length_append, hl] at this
            simp at this; omega
          have hr' : Rest s2 pos2 (((s.data.toList.drop pos).take (C + P) ++ u) ++ z') := by rw [List.append_assoc]; exact hr
          have hp2 := Rest.lt hr' hne
          have hsd : s.data.toList.drop pos = ((s.data.toList.drop pos).take (C + P) ++ u) ++ z := by
            conv => lhs; rw [← List.take_append_drop (C + P) (s.data.toList.drop pos)]
            rw [List.drop_drop, ← Nat.add_assoc, hd, List.append_assoc]
          obtain ⟨_, _, j3⟩ := step_shift hp hp2 hsd hr'.1 hz1 hz2 hne (hfr B)
          rw [show pos + C - pos = C by omega] at j3
          have hr2 : Rest s2 (pos2 + C) ((s.data.toList.drop (pos + C)).take P ++ (u ++ z')) := by
            have e : (s.data.toList.drop pos).take (C + P) = (s.data.toList.drop pos).take C ++ (s.data.toList.drop (pos + C)).take P := by
              rw [List.take_add, List.drop_drop]
            rw [e, List.append_assoc] at hr
            have := Rest.skip hr
            rwa [show ((s.data.toList.drop pos).take C).length = C by rw [List.length_take, List.length_drop]; simp; omega] at this
          have := i5 u z z' hd hz1 hz2 s2 (pos2 + C) hr2 B
          rw [Nat.add_assoc] at this
          exact (Reach.step hp2 j3 (by omega)).trans this
        first
          | (rw [hP]; exact goal)
          | (rw [hPe]; exact goal)
end Go.Proofs.YtedabholcldgbaaGreatDoor.Y

/- The pieces of a text that are still to come, along the reader's steps. Plain. -/
namespace Go.Proofs.YtedabholcldgbaaGreatDoor.Y
open Go.RowKit Go.Deep

/-- More source ahead of the first piece. -/
def prep (x : List UInt8) : List (List UInt8 × List UInt8) → List (List UInt8 × List UInt8)
  | [] => []
  | a :: r => (x ++ a.1, a.2) :: r
theorem prep_prep (x y : List UInt8) (ps : List (List UInt8 × List UInt8)) : prep x (prep y ps) = prep (x ++ y) ps := by cases ps <;> simp [prep]
theorem prep_nil (ps : List (List UInt8 × List UInt8)) : prep [] ps = ps := by cases ps <;> simp [prep]
theorem prep_head {x : List UInt8} {ps : List (List UInt8 × List UInt8)} {src c : List UInt8} {r : List (List UInt8 × List UInt8)} (h : prep x ps = (src, c) :: r) : ∃ src', ps = (src', c) :: r ∧ src = x ++ src' := by
  cases ps with
  | nil => cases h
  | cons a r' =>
    obtain ⟨a1, a2⟩ := a
    simp only [prep, List.cons.injEq, Prod.mk.injEq] at h
    obtain ⟨⟨h1, h2⟩, h3⟩ := h
    exact ⟨a1, by rw [h2, h3], h1.symm⟩
theorem lines_shift (m : Nat) : ∀ (l : List UInt8), l.length ≤ m → ∀ (k j : Nat), linesL (k + j) l = (linesL j l).map fun x => (k + x.1, x.2) := by
  induction m with
  | zero =>
    intro l hl k j
    have e : l = [] := List.length_eq_zero_iff.1 (by omega)
    subst e
    rw [linesL_last (by decide), linesL_last (by decide)]
    simp
  | succ m ih =>
    intro l hl k j
    by_cases h : Lib.indexByte l 10 < 0
    · rw [linesL_last h, linesL_last h]; simp
    · obtain ⟨h1, h2, h3⟩ := index_lt h
      rw [linesL_more h, linesL_more h, List.map_cons]
      have := ih (l.drop (nlI l + 1)) (by simp; omega) k (j + nlI l + 1)
      rw [← this, show k + j + nlI l + 1 = k + (j + nlI l + 1) by omega]
theorem pieces_far (s : List UInt8) (k : Nat) : ∀ (ls : List (Nat × List UInt8)) (fr : Nat) (o : Int), piecesW s (ls.map fun x => (k + x.1, x.2)) (k + fr) o = piecesW (s.drop k) ls fr o
  | [], fr, o => by rw [List.map_nil, piecesW, piecesW, List.drop_drop]
  | x :: r, fr, o => by
    rw [List.map_cons, piecesW, piecesW]
    simp only
    split
    · exact pieces_far s k r fr _
    · rw [List.drop_drop, show k + x.1 - (k + fr) = x.1 - fr by omega, ← pieces_far s k r (x.1 + x.2.length) o, show k + x.1 + x.2.length = k + (x.1 + x.2.length) by omega]
theorem pieces_from (s : List UInt8) (k fr : Nat) (hf : fr ≤ k) : ∀ (ls : List (Nat × List UInt8)) (o : Int), piecesW s (ls.map fun x => (k + x.1, x.2)) fr o = prep ((s.drop fr).take (k - fr)) (piecesW (s.drop k) ls 0 o)
  | [], o => by
    rw [List.map_nil, piecesW, piecesW]
    simp only [prep, List.drop_zero]
    conv => lhs; rw [← List.take_append_drop (k - fr) (s.drop fr)]
    rw [List.drop_drop, show fr + (k - fr) = k by omega]
  | x :: r, o => by
    rw [List.map_cons, piecesW, piecesW]
    simp only
    split
    · exact pieces_from s k fr hf r _
    · simp only [prep]
      rw [show k + x.1 + x.2.length = k + (x.1 + x.2.length) by omega, pieces_far s k r (x.1 + x.2.length) o]
      congr 2
      rw [show k + x.1 - fr = (k - fr) + x.1 by omega, List.take_add, List.drop_drop, show fr + (k - fr) = k by omega, List.drop_zero, Nat.sub_zero]

/-- The pieces of a text whose first line begins with o lists open. -/
def PW (l : List UInt8) (o : Int) : List (List UInt8 × List UInt8) := piecesW l (linesL 0 l) 0 o
/-- Those where the first line is no comment. -/
def rP (l : List UInt8) (o : Int) : List (List UInt8 × List UInt8) := if endF l < l.length then prep (l.take (endF l + 1)) (PW (l.drop (endF l + 1)) o) else [(l, [])]
/-- What is still to come, in the midst of a line. -/
def futP (l : List UInt8) (o : Int) : List (List UInt8 × List UInt8) := rP l (obF (l.take (endF l)) false o)
theorem PW_view (l : List UInt8) (o : Int) : PW l o = if 0 < o ∨ Lib.hasPrefix (Lib.trimS (l.take (endF l)) [32, 9]) [59] = false then futP l o else ([], Lib.trimS (l.take (endF l)) [32, 9]) :: rP (l.drop (endF l)) o := by
  unfold PW futP rP
  rw [end_drop]
  rcases endF_index l with ⟨h1, h2⟩ | ⟨h1, h2, h3⟩
  · have e1 : ¬ endF l < l.length := by omega
    have e2 : ¬ 0 < (l.drop (endF l)).length := by rw [List.length_drop]; omega
    rw [linesL_last h1, piecesW, if_neg e1, if_neg e2]
    simp only [h2, List.take_length, piecesW, Nat.sub_zero, List.drop_zero, List.take_zero, Nat.zero_add]
  · have e2 : 0 < (l.drop (endF l)).length := by rw [List.length_drop]; omega
    rw [linesL_more h1, piecesW, if_pos h3, if_pos e2, h2]
    simp only [List.length_take, Nat.sub_zero, List.drop_zero, List.take_zero, Nat.zero_add]
    have hsh := lines_shift _ (l.drop (endF l + 1)) (Nat.le_refl _) (endF l + 1) 0
    rw [Nat.add_zero] at hsh
    rw [hsh]
    have hm : min (endF l) l.length = endF l := by omega
    rw [hm, pieces_from l (endF l + 1) 0 (by omega), pieces_from l (endF l + 1) (endF l) (by omega)]
    simp only [Nat.sub_zero, List.drop_zero, List.drop_drop, show endF l + 1 - endF l = 1 by omega]
    rfl
theorem futP_nl (b : UInt8) (r : List UInt8) (hb : b.toNat = 10) (o : Int) : futP (b :: r) o = prep [b] (PW r o) := by
  unfold futP rP
  rw [endF, if_pos hb, List.take_zero, obF, if_pos (by simp)]
  simp
theorem rP_app {x y : List UInt8} (h : ∀ c ∈ x, c ≠ 10) (o : Int) : rP (x ++ y) o = prep x (rP y o) := by
  unfold rP
  rw [end_app x y h, List.length_append]
  by_cases hl : endF y < y.length
  · rw [if_pos (by omega), if_pos hl, prep_prep, show x.length + endF y + 1 = x.length + (endF y + 1) by omega, ← List.drop_drop, List.drop_left, List.take_append, List.take_of_length_le (by omega), show x.length + (endF y + 1) - x.length = endF y + 1 by omega]
  · rw [if_neg (by omega), if_neg hl]
    simp [prep]
theorem futP_app {x y : List UInt8} (h : ∀ c ∈ x, c ≠ 10) {o o' : Int} (ho : ∀ z, obF (x ++ z) false o = obF z false o') : futP (x ++ y) o = prep x (futP y o') := by
  unfold futP
  rw [rP_app h, end_app x y h, List.take_append, List.take_of_length_le (by omega), show x.length + endF y - x.length = endF y by omega, ho]
theorem futP_open {l : List UInt8} {o : Int} (h : 0 < o) : PW l o = futP l o := by rw [PW_view, if_pos (.inl h)]
theorem rP_line (l : List UInt8) (o : Int) : rP l o = prep (l.take (endF l)) (rP (l.drop (endF l)) o) := by
  have h := rP_app (x := l.take (endF l)) (y := l.drop (endF l)) (fun c hc e => line_none l c hc (by rw [e]; rfl)) o
  rwa [List.take_append_drop] at h
theorem futP_comment {b : UInt8} {r : List UInt8} (hb : b.toNat = 59) (o : Int) : futP (b :: r) o = rP (b :: r) o := by
  have he : endF (b :: r) = endF r + 1 := by rw [endF, if_neg (by omega)]
  unfold futP
  have : obF ((b :: r).take (endF (b :: r))) false o = o := by
    rw [he, List.take_succ_cons, obF, if_neg (by omega), if_neg (by simp), if_neg (by simp), if_pos hb]
  rw [this]
theorem futP_zero {l : List UInt8} (h : endF l = 0) (o : Int) : futP l o = rP l o := by
  unfold futP
  rw [h, List.take_zero, obF]
theorem futP_step {s : ByteArray} {pos : Nat} {O : List (List Fm)} {top : List Fm} {t : Bool} {q : Nat} {O' : List (List Fm)} {top' : List Fm} {t' : Bool} (hp : pos < s.size) (h : stepS s pos s[pos].toNat O top t = .ok q O' top' t')
    (hq : q = pos + stC s[pos] (s.data.toList.drop (pos + 1))) (h10 : s[pos].toNat = 10 → 0 < O.length) : futP (s.data.toList.drop pos) O.length = prep ((s.data.toList.drop pos).take (q - pos)) (futP (s.data.toList.drop q) (stD s[pos] O.length)) := by
  by_cases h59 : s[pos].toNat = 59
  · have hd : stD s[pos] O.length = O.length := by unfold stD; rw [if_neg (by omega), if_neg (by omega)]
    have hC : stC s[pos] (s.data.toList.drop (pos + 1)) = endF (s.data.toList.drop pos) := by
      rw [drop_byte' s pos hp, endF, if_neg (by omega)]
      unfold stC
      rw [if_neg (by omega), if_pos h59]
    have hc := futP_comment (r := s.data.toList.drop (pos + 1)) h59 (O.length : Int)
    rw [← drop_byte' s pos hp] at hc
    rw [hd, hc, hq, hC, show pos + endF (s.data.toList.drop pos) - pos = endF (s.data.toList.drop pos) by omega, ← List.drop_drop, futP_zero (end_drop _), ← rP_line]
  · by_cases hn : s[pos].toNat = 10
    · have hd : stD s[pos] O.length = O.length := by unfold stD; rw [if_neg (by omega), if_neg (by omega)]
      have hC : stC s[pos] (s.data.toList.drop (pos + 1)) = 1 := by
        unfold stC
        rw [if_neg (by omega), if_neg h59, if_pos (.inr (.inr (by rw [hn]; decide)))]
      rw [hd, hq, hC, show pos + 1 - pos = 1 by omega, drop_byte' s pos hp, futP_nl _ _ hn, futP_open (by have := h10 hn; omega), List.take_succ_cons, List.take_zero]
    · obtain ⟨i1, i2⟩ := ob_step hp h h59 hn
      have hC := (stC_le s[pos] (s.data.toList.drop (pos + 1))).1
      have e : s.data.toList.drop pos = (s.data.toList.drop pos).take (q - pos) ++ s.data.toList.drop q := by
        conv => lhs; rw [← List.take_append_drop (q - pos) (s.data.toList.drop pos)]
        rw [List.drop_drop]
        first
          | rw [show pos + (q - pos) = q by omega]
          | rw [show q - pos + pos = q by omega]
      conv => lhs; rw [e]
      exact futP_app i2 fun z => i1 z _
theorem past_futP (s : ByteArray) : ∀ (n k pos : Nat) (O : List (List Fm)) (top : List Fm) (t : Bool) (F : List Fm), loopS s k pos O top t = .ok [] F → s.size - pos < k → s.size < n + pos →
    (O = [] → ∃ hp : pos < s.size, blankB (s[pos].toNat : Int) = false ∧ s[pos].toNat ≠ 59) →
    futP (s.data.toList.drop pos) O.length = prep ((s.data.toList.drop pos).take (pastF n (s.data.toList.drop pos) O.length)) (futP (s.data.toList.drop (pos + pastF n (s.data.toList.drop pos) O.length)) 0) := by
  intro n
  induction n with
  | zero =>
    intro k pos O top t F h hk hn hO
    exfalso
    cases O with
    | nil => obtain ⟨hp, _⟩ := hO rfl; omega
    | cons a O =>
      obtain ⟨k0, rfl⟩ : ∃ k0, k = k0 + 1 := ⟨k - 1, by omega⟩
      rw [loopS, dif_neg (by omega)] at h
      cases h
  | succ n ih =>
    intro k pos O top t F h hk hn hO
    obtain ⟨k0, rfl⟩ : ∃ k0, k = k0 + 1 := ⟨k - 1, by omega⟩
    have hp : pos < s.size := by
      cases O with
      | nil => exact (hO rfl).1
      | cons a O =>
        rcases Nat.lt_or_ge pos s.size with h' | h'
        · exact h'
        · rw [loopS, dif_neg (by omega)] at h
          cases h
    rw [loopS, dif_pos hp] at h
    cases hs : stepS s pos s[pos].toNat O top t with
    | err c => rw [hs] at h; cases h
    | ok q O' top' t' =>
      rw [hs] at h
      simp only at h
      have hC := (stC_le s[pos] (s.data.toList.drop (pos + 1))).1
      obtain ⟨g1, g2, g3, g4⟩ := step_goes hp hs (fun hq => by
        cases k0 with
        | zero => rw [loopS] at h; cases h
        | succ k1 => exact loop_byte h hq)
      have hf := futP_step hp hs g1 (fun h10 => by
        cases O with
        | nil => obtain ⟨_, hb, _⟩ := hO rfl; rw [h10] at hb; exact absurd hb (by decide)
        | cons a O => simp)
      obtain ⟨C, hCC⟩ : ∃ C, stC s[pos] (s.data.toList.drop (pos + 1)) = C := ⟨_, rfl⟩
      rw [hCC] at g1 hC
      have hP : pastF (n + 1) (s.data.toList.drop pos) O.length = if stD s[pos] O.length = 0 then C else C + pastF n (s.data.toList.drop (pos + C)) (stD s[pos] O.length) := by
        rw [drop_byte' s pos hp, pastF, ← drop_byte' s pos hp, List.drop_drop, hCC]
      rw [hf, hP, g1, show pos + C - pos = C by omega]
      by_cases hz : stD s[pos] O.length = 0
      · rw [if_pos hz, hz]
      · rw [if_neg hz]
        have hne : O' ≠ [] := fun e => hz (by rw [← g2, e]; rfl)
        have i := ih k0 q O' top' t' F h (by omega) (by omega) (fun e => absurd e hne)
        rw [g1] at i
        rw [← g2, i, prep_prep, Nat.add_assoc]
        congr 1
        rw [List.take_add, List.drop_drop]
end Go.Proofs.YtedabholcldgbaaGreatDoor.Y

/- The items of a text that reads, its forms, and its pieces belong together. Plain. -/
namespace Go.Proofs.YtedabholcldgbaaGreatDoor.Y
open Go.RowKit Go.Deep

/-- A source reads as G, where t tells whether a form ended just ahead. -/
def Rd (t : Bool) (src : List UInt8) (G : List Fm) : Prop := ∀ (s : ByteArray) (pos : Nat) (B : List Fm), Rest s pos src → ∃ t', Reach s pos [] B t s.size [] (B ++ G) t'
theorem rd_nil (t : Bool) : Rd t [] [] := fun s pos B h => by
  have := h.size
  have e : pos = s.size := by simpa using this
  subst e
  exact ⟨t, by rw [List.append_nil]; exact Reach.refl _ _ _ _ _⟩
theorem rd_none {t : Bool} {G : List Fm} (h : Rd t [] G) : G = [] := by
  obtain ⟨t', n, h1, h2⟩ := h ⟨#[]⟩ 0 [] ⟨rfl, by simp⟩
  have := h2 1
  rw [Nat.add_comm, loopS_end (by decide), loopS_end (by decide)] at this
  injection this with _ e
  simpa using e.symm
/-- Items, their forms and the pieces. -/
inductive Mat : Bool → List (Option (List UInt8)) → List Fm → List (List UInt8 × List UInt8) → Prop
  | last {t : Bool} {src : List UInt8} {G : List Fm} (h : Rd t src G) : Mat t (List.replicate G.length none) G [(src, [])]
  | more {t : Bool} {src c : List UInt8} {G : List Fm} {items : List (Option (List UInt8))} {G' : List Fm} {ps : List (List UInt8 × List UInt8)} (h : Rd t src G) (hc : c ≠ []) (m : Mat false items G' ps) : Mat t (List.replicate G.length none ++ some c :: items) (G ++ G') ((src, c) :: ps)
theorem rep_add {α : Type} (a : α) : ∀ n m : Nat, List.replicate (n + m) a = List.replicate n a ++ List.replicate m a
  | 0, m => by simp
  | n + 1, m => by rw [show n + 1 + m = (n + m) + 1 by omega, List.replicate_succ, List.replicate_succ, rep_add a n m, List.cons_append]
theorem Mat.prep {t t' : Bool} {x : List UInt8} {items : List (Option (List UInt8))} {G fs : List Fm} {ps : List (List UInt8 × List UInt8)} (m : Mat t' items G ps) (h : ∀ src c r, ps = (src, c) :: r → ∀ H, Rd t' src H → Rd t (x ++ src) (fs ++ H)) :
    Mat t (List.replicate fs.length none ++ items) (fs ++ G) (prep x ps) := by
  cases m with
  | last hr =>
    have := Mat.last (h _ _ _ rfl _ hr)
    rw [List.length_append, rep_add] at this
    exact this
  | more hr hc m =>
    have := Mat.more (h _ _ _ rfl _ hr) hc m
    rw [List.length_append, rep_add, List.append_assoc, List.append_assoc] at this
    exact this
theorem rd_blank {t : Bool} {b : UInt8} {src : List UInt8} {G : List Fm} (hb : blankB (b.toNat : Int) = true) (h : Rd false src G) : Rd t ([b] ++ src) ([] ++ G) := fun s pos B hr => by
  obtain ⟨t', h2⟩ := h s (pos + 1) B (Rest.head hr).2.2
  exact ⟨t', (reach_blank hr hb [] B t).trans h2⟩
theorem rd_comment {t : Bool} {b : UInt8} {x src : List UInt8} {G : List Fm} (hb : b.toNat = 59) (hx : ∀ c ∈ x, c.toNat ≠ 10) (hn : NL src) (h : Rd false src G) : Rd t (b :: x ++ src) ([] ++ G) := fun s pos B hr => by
  have hr' : Rest s pos ((b :: x) ++ src) := hr
  have hp := Rest.lt hr' (by simp)
  have hd := drop_byte' s pos hp
  rw [hr.1] at hd
  injection hd with e1 e2
  have hall : ∀ c ∈ b :: x, nnlB (c.toNat : Int) = true := fun c hc => by
    rcases List.mem_cons.1 hc with e | e
    · rw [e, hb]; rfl
    · have := hx c e
      unfold nnlB; simp; omega
  have hsp : spanL nnlB (s.data.toList.drop pos) = b :: x := by
    rw [hr'.1, span_nl (by decide) hn]
    unfold spanL
    have := takeWhile_all (p := fun c : UInt8 => nnlB (c.toNat : Int)) (b :: x) [] hall (fun c hc => by cases hc)
    rwa [List.append_nil] at this
  have hs : stepS s pos s[pos].toNat [] B t = .ok (pos + (b :: x).length) [] B false := by
    unfold stepS
    rw [← e1, if_pos hb, hsp]
  obtain ⟨t', h2⟩ := h s (pos + (b :: x).length) B hr'.skip
  exact ⟨t', (Reach.step hp hs (by simp)).trans h2⟩
/-- The first piece's source goes on as the text does, up to its first line feed. -/
theorem rP_goes {l : List UInt8} {o : Int} {src c : List UInt8} {r : List (List UInt8 × List UInt8)} (h : rP l o = (src, c) :: r) : ∃ z', l = l.take (endF l) ++ l.drop (endF l) ∧ src = l.take (endF l) ++ z' ∧ NL (l.drop (endF l)) ∧ NL z' := by
  have hnl : NL (l.drop (endF l)) := by
    have h0 := end_drop l
    intro c hc
    cases hd : l.drop (endF l) with
    | nil => rw [hd] at hc; cases hc
    | cons a x =>
      rw [hd] at hc h0
      cases hc
      rw [endF] at h0
      by_cases e : c.toNat = 10
      · exact UInt8.toNat_inj.1 (by rw [e]; rfl)
      · rw [if_neg e] at h0; omega
  unfold rP at h
  by_cases hl : endF l < l.length
  · rw [if_pos hl] at h
    obtain ⟨src', _, h2⟩ := prep_head h
    have hd : ∃ x, l.drop (endF l) = 10 :: x := by
      cases hd : l.drop (endF l) with
      | nil =>
        have := congrArg List.length hd
        rw [List.length_drop] at this
        simp at this; omega
      | cons a x => exact ⟨x, by rw [hnl a (by rw [hd]; rfl)]⟩
    obtain ⟨x, hd⟩ := hd
    refine ⟨10 :: src', (List.take_append_drop _ _).symm, ?_, hnl, nl_cons _⟩
    rw [h2, List.take_add, hd]
    simp
  · rw [if_neg hl] at h
    injection h with h _
    injection h with h _
    refine ⟨[], (List.take_append_drop _ _).symm, ?_, hnl, nl_nil⟩
    rw [← h, List.take_of_length_le (by omega), List.append_nil]
theorem rP_first {l : List UInt8} (h0 : endF l = 0) {o : Int} {src c : List UInt8} {r : List (List UInt8 × List UInt8)} (h : rP l o = (src, c) :: r) : NL src := by
  obtain ⟨z', _, h2, _, h3⟩ := rP_goes h
  rw [h0, List.take_zero, List.nil_append] at h2
  rw [h2]; exact h3
/-- The pieces to come where the line is blank so far. -/
def PB (l : List UInt8) (bare : Bool) : List (List UInt8 × List UInt8) := if bare = true ∧ Lib.hasPrefix (Lib.trimS (l.take (endF l)) [32, 9]) [59] = true then ([], Lib.trimS (l.take (endF l)) [32, 9]) :: rP (l.drop (endF l)) 0 else futP l 0
theorem PB_false (l : List UInt8) : PB l false = futP l 0 := by unfold PB; rw [if_neg (by simp)]
theorem PB_start (l : List UInt8) : PB l true = PW l 0 := by
  unfold PB
  rw [PW_view]
  cases h : Lib.hasPrefix (Lib.trimS (l.take (endF l)) [32, 9]) [59] with
  | false => simp
  | true => simp
theorem PB_no {l : List UInt8} (h : hd l = []) (bare : Bool) : PB l bare = futP l 0 := by
  unfold PB
  unfold hd at h
  split at h
  · cases h
  · rename_i hh; rw [if_neg fun e => hh e.2]
theorem PB_end {l : List UInt8} (h : endF l = 0) (bare : Bool) : PB l bare = rP l 0 := by rw [PB_no (hd_end h), futP_zero h]
/-- The main fact. -/
theorem items_mat (s : ByteArray) : ∀ (n k pos : Nat) (top : List Fm) (t bare : Bool) (F : List Fm), loopS s k pos [] top t = .ok [] F → s.size - pos < k → s.size < n + pos →
    ∃ G, F = top ++ G ∧ Mat t (itemsL (s.size + 1) n (s.data.toList.drop pos) bare) G (PB (s.data.toList.drop pos) bare) := by
  intro n
  induction n with
  | zero =>
    intro k pos top t bare F h hk hn
    obtain ⟨k0, rfl⟩ : ∃ k0, k = k0 + 1 := ⟨k - 1, by omega⟩
    rw [loopS, dif_neg (by omega)] at h
    injection h with _ e
    refine ⟨[], by rw [← e, List.append_nil], ?_⟩
    rw [List.drop_of_length_le (by simp; omega), itemsL, PB_end (by rfl)]
    have : rP ([] : List UInt8) 0 = [([], [])] := by unfold rP; rw [if_neg (by simp)]
    rw [this]
    exact Mat.last (rd_nil t)
  | succ n ih =>
    intro k pos top t bare F h hk hn
    obtain ⟨k0, rfl⟩ : ∃ k0, k = k0 + 1 := ⟨k - 1, by omega⟩
    by_cases hp : pos < s.size
    · have h0 := h
      have hdp := drop_byte' s pos hp
      have blankStep : blankB (s[pos].toNat : Int) = true → ∀ bare, ∃ G, F = top ++ G ∧ Mat false (itemsL (s.size + 1) n (s.data.toList.drop (pos + 1)) bare) G (PB (s.data.toList.drop (pos + 1)) bare) := by
        intro hb bare
        rw [loopS, dif_pos hp] at h
        unfold stepS at h
        have h59 : s[pos].toNat ≠ 59 := by intro e; rw [e] at hb; revert hb; decide
        rw [if_neg h59, if_pos hb] at h
        exact ih k0 (pos + 1) top false bare F h (by omega) (by omega)
      by_cases h10 : s[pos].toNat = 10
      · obtain ⟨G, e1, m⟩ := blankStep (by rw [h10]; decide) true
        refine ⟨G, e1, ?_⟩
        rw [PB_no (hd_end (by rw [hdp, endF, if_pos h10])), hdp, itemsL, if_pos h10, futP_nl _ _ h10, ← PB_start]
        exact Mat.prep (fs := []) m fun src c r _ H hr => rd_blank (by rw [h10]; decide) hr
      · by_cases hb : blankB (s[pos].toNat : Int) = true
        · obtain ⟨G, e1, m⟩ := blankStep hb bare
          refine ⟨G, e1, ?_⟩
          have h59 : s[pos].toNat ≠ 59 := by intro e; rw [e] at hb; revert hb; decide
          have h34 : s[pos].toNat ≠ 34 := by intro e; rw [e] at hb; revert hb; decide
          have h40 : s[pos].toNat ≠ 40 := by intro e; rw [e] at hb; revert hb; decide
          have h41 : s[pos].toNat ≠ 41 := by intro e; rw [e] at hb; revert hb; decide
          have e := @futP_step s pos [] top t (pos + 1) [] top false hp (by
            unfold stepS
            rw [if_neg h59, if_pos hb]) (by
            unfold stC
            rw [if_neg h34, if_neg h59, if_pos (.inr (.inr hb))]) (fun e => absurd e h10)
          have hD : stD s[pos] (([] : List (List Fm)).length : Int) = 0 := by
            unfold stD
            rw [if_neg h40, if_neg h41]; rfl
          rw [hD, show pos + 1 - pos = 1 by omega] at e
          have e' : futP (s.data.toList.drop pos) 0 = prep [s[pos]] (futP (s.data.toList.drop (pos + 1)) 0) := by
            have := e
            rw [hdp, List.take_succ_cons, List.take_zero, ← hdp] at this
            exact this
          have hI : itemsL (s.size + 1) (n + 1) (s.data.toList.drop pos) bare = itemsL (s.size + 1) n (s.data.toList.drop (pos + 1)) bare := by
            rw [hdp, itemsL, if_neg h10, if_pos hb]
          rw [hI]
          have hE : endF (s.data.toList.drop pos) = endF (s.data.toList.drop (pos + 1)) + 1 := by rw [hdp, endF, if_neg h10]
          by_cases hc : bare = true ∧ Lib.hasPrefix (Lib.trimS ((s.data.toList.drop (pos + 1)).take (endF (s.data.toList.drop (pos + 1)))) [32, 9]) [59] = true
          · have ht : Lib.trimS ((s.data.toList.drop pos).take (endF (s.data.toList.drop pos))) [32, 9] = Lib.trimS ((s.data.toList.drop (pos + 1)).take (endF (s.data.toList.drop (pos + 1)))) [32, 9] := by
              rw [hE, hdp, List.take_succ_cons, trim_blank (by rw [← blank_set h10]; exact hb)]
            have hPB : PB (s.data.toList.drop pos) bare = PB (s.data.toList.drop (pos + 1)) bare := by
              unfold PB
              rw [if_pos hc, ht, if_pos hc, hE]
              rw [hdp, List.drop_succ_cons]
            rw [hPB]
            have hPB2 : PB (s.data.toList.drop (pos + 1)) bare = ([], Lib.trimS ((s.data.toList.drop (pos + 1)).take (endF (s.data.toList.drop (pos + 1)))) [32, 9]) :: rP ((s.data.toList.drop (pos + 1)).drop (endF (s.data.toList.drop (pos + 1)))) 0 := by
              unfold PB; rw [if_pos hc]
            rw [hPB2] at m ⊢
            have := Mat.prep (t := t) (x := []) (fs := []) m (fun src c r hps H hr => by
              injection hps with hps _
              injection hps with hps _
              subst hps
              have := rd_none hr
              subst this
              exact rd_nil t)
            rw [prep_nil] at this
            exact this
          · have h1 : PB (s.data.toList.drop (pos + 1)) bare = futP (s.data.toList.drop (pos + 1)) 0 := by unfold PB; rw [if_neg hc]
            have h2 : PB (s.data.toList.drop pos) bare = futP (s.data.toList.drop pos) 0 := by
              unfold PB
              rw [if_neg]
              intro hh
              apply hc
              refine ⟨hh.1, ?_⟩
              have := hh.2
              rw [hE, hdp, List.take_succ_cons, trim_blank (by rw [← blank_set h10]; exact hb)] at this
              exact this
            rw [h2, e']
            rw [h1] at m
            exact Mat.prep (fs := []) m fun src c r _ H hr => rd_blank hb hr
        · have hb' : blankB (s[pos].toNat : Int) = false := by simpa using hb
          by_cases h59 : s[pos].toNat = 59
          · rw [loopS, dif_pos hp] at h
            unfold stepS at h
            rw [if_pos h59, nnl_end] at h
            have hpos : 1 ≤ endF (s.data.toList.drop pos) := by
              rw [drop_byte' s pos hp, endF, if_neg (by omega)]; omega
            obtain ⟨G, e1, m⟩ := ih k0 (pos + endF (s.data.toList.drop pos)) top false bare F h (by omega) (by omega)
            rw [← List.drop_drop, PB_end (end_drop _)] at m
            refine ⟨G, e1, ?_⟩
            have hI : itemsL (s.size + 1) (n + 1) (s.data.toList.drop pos) bare = (if bare = true then [some (trmF ((s.data.toList.drop pos).take (endF (s.data.toList.drop pos))))] else []) ++ itemsL (s.size + 1) n ((s.data.toList.drop pos).drop (endF (s.data.toList.drop pos))) bare := by
              rw [drop_byte' s pos hp, itemsL, if_neg h10, if_neg hb, if_pos h59]
            have hh := hd_comment (r := s.data.toList.drop (pos + 1)) h59
            rw [← hdp] at hh
            have hpre : Lib.hasPrefix (Lib.trimS ((s.data.toList.drop pos).take (endF (s.data.toList.drop pos))) [32, 9]) [59] = true := by
              unfold hd at hh
              split at hh
              · rename_i h; exact h
              · cases hh
            have htr : Lib.trimS ((s.data.toList.drop pos).take (endF (s.data.toList.drop pos))) [32, 9] = trmF ((s.data.toList.drop pos).take (endF (s.data.toList.drop pos))) := by
              unfold hd at hh
              rw [if_pos hpre] at hh
              injection hh
            rw [hI]
            cases bare with
            | true =>
              have hPB : PB (s.data.toList.drop pos) true = ([], trmF ((s.data.toList.drop pos).take (endF (s.data.toList.drop pos)))) :: rP ((s.data.toList.drop pos).drop (endF (s.data.toList.drop pos))) 0 := by
                unfold PB
                rw [if_pos ⟨rfl, hpre⟩, htr]
              rw [hPB]
              have hne : trmF ((s.data.toList.drop pos).take (endF (s.data.toList.drop pos))) ≠ [] := by
                rw [← htr]
                intro e
                rw [e] at hpre
                exact absurd hpre (by decide)
              exact Mat.more (rd_nil t) hne m
            | false =>
              rw [PB_false]
              have hc := futP_comment (r := s.data.toList.drop (pos + 1)) h59 0
              rw [← hdp] at hc
              rw [hc, rP_line]
              have hx : (s.data.toList.drop pos).take (endF (s.data.toList.drop pos)) = s[pos] :: (s.data.toList.drop (pos + 1)).take (endF (s.data.toList.drop (pos + 1))) := by
                rw [hdp, endF, if_neg h10, List.take_succ_cons]
              rw [hx]
              exact Mat.prep (fs := []) m fun src c r hps H hr => rd_comment h59 (line_none _) (rP_first (end_drop _) hps) hr
          · obtain ⟨k', t', f, i1, i2, i3, i4, i5⟩ := past_copy s (s.size + 1) (k0 + 1) pos top [] [] t F (by simpa [exO, exT] using h0) hk (by omega) (fun _ => ⟨hp, hb', h59⟩)
            have j := past_futP s (s.size + 1) (k0 + 1) pos [] top t F h0 hk (by omega) (fun _ => ⟨hp, hb', h59⟩)
            simp only [List.length_nil] at i1 i2 i3 i4 i5 j
            obtain ⟨P, hP⟩ : ∃ P, pastF (s.size + 1) (s.data.toList.drop pos) 0 = P := ⟨_, rfl⟩
            have hP' : pastF (s.size + 1) (s.data.toList.drop pos) ((0 : Nat) : Int) = P := hP
            rw [hP'] at i1 i2 i3 i4 i5 j
            have hb0 : baseL [] ([] : List Fm) = [] := rfl
            rw [hb0, List.nil_append] at i1 i5
            obtain ⟨G, e1, m⟩ := ih k' (pos + P) (top ++ [f]) t' false F i1 i2 (by omega)
            have j' : futP (s.data.toList.drop pos) 0 = prep ((s.data.toList.drop pos).take P) (futP (s.data.toList.drop (pos + P)) 0) := j
            have hI : itemsL (s.size + 1) (n + 1) (s.data.toList.drop pos) bare = none :: itemsL (s.size + 1) n (s.data.toList.drop (pos + P)) false := by
              rw [drop_byte' s pos hp, itemsL, if_neg h10, if_neg hb, if_neg h59, ← drop_byte' s pos hp, hP, List.drop_drop]
            have hh : hd (s.data.toList.drop pos) = [] := by rw [drop_byte' s pos hp]; exact hd_form h10 hb' h59
            refine ⟨f :: G, by rw [e1]; simp, ?_⟩
            rw [hI, PB_no hh, j']
            rw [PB_false] at m
            refine Mat.prep (fs := [f]) m fun src c r hps H hr => ?_
            obtain ⟨z', g1, g2, g3, g4⟩ := rP_goes (show rP _ _ = _ from hps)
            intro s2 pos2 B hrest
            rw [g2] at hrest
            have hre := i5 _ _ z' g1 g3 g4 s2 pos2 hrest B
            have hsk := hrest.skip
            rw [show ((s.data.toList.drop pos).take P).length = P by rw [List.length_take, List.length_drop]; simp; omega, ← g2] at hsk
            obtain ⟨t3, h3⟩ := hr s2 (pos2 + P) (B ++ [f]) hsk
            refine ⟨t3, ?_⟩
            have := hre.trans h3
            simpa [exO, exT] using this
    · obtain ⟨e⟩ : Nonempty (top = F) := by
        rw [loopS, dif_neg hp] at h
        injection h with _ e
        exact ⟨e⟩
      refine ⟨[], by rw [← e, List.append_nil], ?_⟩
      rw [List.drop_of_length_le (by simp; omega), itemsL, PB_end (by rfl)]
      have : rP ([] : List UInt8) 0 = [([], [])] := by unfold rP; rw [if_neg (by simp)]
      rw [this]
      exact Mat.last (rd_nil t)
/-- Of a text that reads. -/
theorem read_mat {s : ByteArray} {fs : List Fm} (h : readR s = .ok fs) : Mat false (itemsL (s.size + 1) (s.size + 1) s.data.toList true) fs (piecesT s.data.toList) := by
  obtain ⟨_, hl⟩ := readR_loop h
  obtain ⟨G, e, m⟩ := items_mat s (s.size + 1) (s.size + 1) 0 [] false true fs hl (by omega) (by omega)
  rw [List.drop_zero, PB_start] at m
  rw [List.nil_append] at e
  subst e
  exact m
end Go.Proofs.YtedabholcldgbaaGreatDoor.Y

/- layout's page: what lies in memory, and what is put behind it. -/
namespace Go.Proofs.YtedabholcldgbaaGreatDoor.Y
open Go.RowKit Go.Deep

/-- The page in block S, with its bytes l; nothing of w0 has turned. -/
structure Pg (w0 w : World) (S : Nat) (ov : Value) (wd : Nat) (la : Int) (l : List UInt8) : Prop where
  blk : w.heap[S]? = some (.cells #[ov, .int .i64 wd, .int .i64 la] 62 (0, 0))
  own : w.ownsRow w0.heap.size 5 1 ov l.length (bytesV l)
  below : Below w0.heap.size w0 w
  hS : w0.heap.size ≤ S
  ne : ov.ownBlock ≠ some S
theorem Pg.cells {w0 w : World} {S : Nat} {ov : Value} {wd : Nat} {la : Int} {l : List UInt8} (h : Pg w0 w S ov wd la l) : w.cell? ⟨S, 0, none⟩ = some ov ∧ w.cell? ⟨S, 1, none⟩ = some (.int .i64 wd) ∧ w.cell? ⟨S, 2, none⟩ = some (.int .i64 la) ∧ w.frozen? ⟨S, 0, none⟩ = false ∧ w.frozen? ⟨S, 2, none⟩ = false := by
  refine ⟨?_, ?_, ?_, ?_, ?_⟩ <;> simp [World.cell?, World.frozen?, h.blk]
theorem Pg.next {w0 w w' : World} {S : Nat} {ov : Value} {wd : Nat} {la : Int} {l : List UInt8} (h : Pg w0 w S ov wd la l) (hb : Below w.heap.size w w') : Pg w0 w' S ov wd la l :=
  ⟨(hb.block S (lt_of_block h.blk)).trans h.blk, own_same h.own fun k hk => hb.block k (h.own.lt k hk).2, upB h.below hb (Nat.le_refl _), h.hS, h.ne⟩
theorem Pg.alloc {w0 w : World} {S : Nat} {ov : Value} {wd : Nat} {la : Int} {l : List UInt8} (h : Pg w0 w S ov wd la l) (o : Obj) : Pg w0 (w.alloc o) S ov wd la l := h.next (bel1 _ _)
theorem Pg.drew {w0 w : World} {S : Nat} {ov : Value} {wd : Nat} {la : Int} {l : List UInt8} (h : Pg w0 w S ov wd la l) : Pg w0 w.drew S ov wd la l := h.next (Below.refl _ _).drew
/-- What a method of the page leaves: the page's own block and the one of its bytes may turn; its bytes lie in that block, or in a new one. -/
structure KeptP (S : Nat) (ov v' : Value) (w w' : World) : Prop where
  kept : Kept S w w'
  blks : ∀ k, k < w.heap.size → k ≠ S → ov.ownBlock ≠ some k → w'.heap[k]? = w.heap[k]?
  lies : ∀ r, v'.ownBlock = some r → ov.ownBlock = some r ∨ w.heap.size ≤ r
theorem KeptP.of {S : Nat} {ov : Value} {w w' : World} (hb : Below w.heap.size w w') : KeptP S ov ov w w' := ⟨Kept.of hb, fun k hk _ _ => hb.block k hk, fun _ h => .inl h⟩
theorem KeptP.trans {S : Nat} {a b c : Value} {w w' w'' : World} (h : KeptP S a b w w') (k : KeptP S b c w' w'') : KeptP S a c w w'' :=
  ⟨h.kept.trans k.kept, fun j hj hS ha => (k.blks j (Nat.lt_of_lt_of_le hj h.kept.size) hS fun e => by
      rcases h.lies j e with e2 | e2
      · exact ha e2
      · omega).trans (h.blks j hj hS ha), fun r hr => by
    rcases k.lies r hr with e | e
    · exact h.lies r e
    · exact .inr (Nat.le_trans h.kept.size e)⟩
/-- Where a string's bytes are put behind: the old block, or the heap's end. -/
theorem own_string_lies {w : World} {base : Nat} (t u ty e : TypeId) (i : TypeInfo) (ht : Tryz.prog.underlying t = some (.slice e)) (hu : Tryz.prog.underlying u = some .string) (hi : Tryz.prog.info? e = some i) (hz : i.zero = some (.int .u8 0))
    (hsize : i.size = 1) (hby : i.bytes = 1) (v : Value) (n : Nat) (xs : List Value) (hown : w.ownsRow base e 1 v n xs) (s : ByteArray) (h63 : n + s.size ≤ maxLen) (hbytes : n + s.size ≤ 140737488355328) (hbase : base ≤ w.heap.size) :
    ∃ v' w', (Builtin.append_ #[t, u] ty #[v, .string s]).run Tryz.prog w = .ok v' w' ∧ w'.ownsRow base e 1 v' (n + s.size) (xs ++ Lib.strCells s) ∧ w.grownBy w' v.ownBlock ∧ (v'.ownBlock = v.ownBlock ∨ v'.ownBlock = some w.heap.size) := by
  obtain ⟨v', w', hr, h2, h3, h4⟩ := Lib.run_append_own_string (P := Tryz.prog) w base t u ty e i ht hu hi hz hsize hby v n xs hown s h63 hbytes hbase
  refine ⟨v', w', hr, h2, h3, ?_⟩
  have hxl : xs.length = n := by simpa using hown.1
  rcases hown.2 with ⟨rfl, rfl⟩ | ⟨g, cap, cur, rfl, hbg, hg, hnc, hcm, hcs, htake⟩
  · by_cases hm : s.size = 0
    · rw [h4.2 ⟨rfl, hm⟩]; exact .inl rfl
    · have hk := run_append_nil_string (P := Tryz.prog) w t u ty e i (.int .u8 0) ht hu hi hz s (by omega) (by unfold maxLen at h63; omega) (by rw [hby]; omega)
      rw [hr] at hk
      injection hk with hk _
      exact .inr (by rw [hk]; rfl)
  · by_cases hroom : n + s.size ≤ cap
    · have hcc : cur.size = cap := by simpa using hcs
      have hk := Lib.run_append_room_string (P := Tryz.prog) w t u ty e i ht hu hi hsize g n cap cur hg s hroom (by omega)
      rw [hr] at hk
      injection hk with hk _
      exact .inl (by rw [hk]; rfl)
    · have holds : ∀ j u, xs[j]? = some u → w.cell? ((⟨g, 0, none⟩ : Addr).add j) = some u := hown.cells (g := g) rfl
      have hk := Lib.run_append_grow_string (P := Tryz.prog) w t u ty e i (.int .u8 0) ht hu hi hz ⟨g, 0, none⟩ n cap xs (by rw [hsize]; simpa using hxl) holds s (by omega) (by unfold maxLen at h63; omega) (by rw [hby]; exact growslice_fits (by omega) (by omega))
      rw [hr] at hk
      injection hk with hk _
      exact .inr (by rw [hk]; rfl)
/-- Between an append and its store. -/
structure PgMid (w0 w w' : World) (S : Nat) (ov v' : Value) (wd : Nat) (la : Int) (l : List UInt8) : Prop where
  blk : w'.heap[S]? = some (.cells #[ov, .int .i64 wd, .int .i64 la] 62 (0, 0))
  own : w'.ownsRow w0.heap.size 5 1 v' l.length (bytesV l)
  below : Below w0.heap.size w0 w'
  hS : w0.heap.size ≤ S
  kept : KeptP S ov v' w w'
theorem PgMid.cells {w0 w w' : World} {S : Nat} {ov v' : Value} {wd : Nat} {la : Int} {l : List UInt8} (h : PgMid w0 w w' S ov v' wd la l) : w'.cell? ⟨S, 0, none⟩ = some ov ∧ w'.frozen? ⟨S, 0, none⟩ = false := by
  refine ⟨?_, ?_⟩ <;> simp [World.cell?, World.frozen?, h.blk]
theorem PgMid.ne {w0 w w' : World} {S : Nat} {ov v' : Value} {wd : Nat} {la : Int} {l : List UInt8} (h : PgMid w0 w w' S ov v' wd la l) : v'.ownBlock ≠ some S := fun e => by
  obtain ⟨c, fz, hc⟩ := row_bytes h.own S e
  rw [h.blk] at hc
  injection hc with hc
  injection hc with _ hc _
  exact absurd hc (by decide)
/-- A store to the page's own block. -/
theorem KeptP.store {S : Nat} {a b : Value} {w w' : World} (h : KeptP S a b w w') (n : Nat) (x : Value) : KeptP S a b w (w'.setCell ⟨S, n, none⟩ x) :=
  ⟨⟨h.kept.others.setCell ⟨S, n, none⟩ rfl _, by simpa using h.kept.size⟩, fun k hk hS ha => (Below.heap_setCell _ _ _ _ hS).trans (h.blks k hk hS ha), h.lies⟩
/-- The store. -/
theorem PgMid.store {w0 w w' : World} {S : Nat} {ov v' : Value} {wd : Nat} {la : Int} {l : List UInt8} (h : PgMid w0 w w' S ov v' wd la l) : Pg w0 (w'.setCell ⟨S, 0, none⟩ v') S v' wd la l ∧ KeptP S ov v' w (w'.setCell ⟨S, 0, none⟩ v') := by
  refine ⟨⟨?_, ownsRow_setCell_other h.own (by simpa using h.ne) _, h.below.setCell (p := ⟨S, 0, none⟩) h.hS _, h.hS, h.ne⟩, h.kept.store 0 v'⟩
  simpa using heap_setCell_same w' S 0 _ _ v' h.blk
theorem Pg.grown {w0 w W w' : World} {S : Nat} {ov v' : Value} {wd : Nat} {la : Int} {l l' : List UInt8} (h : Pg w0 W S ov wd la l) (hk : Below w.heap.size w W) (hg : W.grownBy w' ov.ownBlock) (ho : w'.ownsRow w0.heap.size 5 1 v' l'.length (bytesV l')) (hl : v'.ownBlock = ov.ownBlock ∨ v'.ownBlock = some W.heap.size) : PgMid w0 w w' S ov v' wd la l' :=
  ⟨(hg.block S (lt_of_block h.blk) fun e => h.ne e.symm).trans h.blk, ho, h.below.grown hg h.below.size fun b hb => (h.own.lt b hb).1, h.hS,
    ⟨(Kept.of hk).others.grown hg (row_bytes h.own), Nat.le_trans hk.size hg.size⟩, fun k hk2 _ ha => (hg.block k (Nat.lt_of_lt_of_le hk2 hk.size) fun e => ha e.symm).trans (hk.block k hk2), fun r hr => by
      rcases hl with e | e
      · exact .inl (by rw [← e]; exact hr)
      · rw [e] at hr; cases hr; exact .inr hk.size⟩
/-- append of bytes that were laid for the statement. -/
theorem pg_bytes {ops : Array Oper} {rest : List Oper} {o : Oper} {a : Act} {Q : Exit → Act → World → Prop} (hgd : o.guard = none) (s x : Operand) (t : TypeId)
    (ho : o.op = .call { callee := .builtin .append, args := #[s, x], argTypes := #[t, t] }) (ht : Tryz.prog.underlying t = some (.slice 5))
    {w0 w : World} {S : Nat} {ov : Value} {wd : Nat} {la : Int} {l : List UInt8} (hs : a.eval s = ov) (hb : Pg w0 w S ov wd la l) (news : List UInt8) (cs : Array Value) (hcs : cs.toList = bytesV news) (m : Nat) (hm0 : 0 < m) (hm : news.length = m) (c A : Nat)
    (hx : a.eval x = .slice (some ⟨A, 0, none⟩) m c) (hA : w.heap.size = A) (hlen : l.length + m ≤ 140737488355328)
    (h : ∀ va vn vc w', PgMid w0 w w' S ov (.slice va vn vc) wd la (l ++ news) → wpList Tryz.prog ops Q rest (a.put o.dst (.slice va vn vc)) w') : wpList Tryz.prog ops Q (o :: rest) a (w.alloc (.cells cs 5)) := by
  subst hA
  obtain ⟨i0, hi0, hz0, hz1, hz2⟩ := info_parts info5
  have hb' := hb.alloc (.cells cs 5)
  have hl : (l ++ news).length = l.length + m := by simp [hm]
  refine wpList_append_lies _ hgd s x t ho w0.heap.size 5 i0 (.int .u8 0) 1 1 ht hi0 hz0 hz1 hz2 rfl (by decide) ov l.length (bytesV l) hs hb'.own ⟨w.heap.size, 0, none⟩ m c (bytesV news) hx (by simp [bytesV, hm])
    (fun j u hu => World.news_of_block (cs := cs) (t := 5) (fr := (0, 0)) (heap_alloc_new w _) j u (by rw [hcs]; exact hu)) (bytesV_one news) hm0 (by unfold maxLen; omega) (by omega) hb'.below.size _ rfl ?_
  intro g cap w' ho' hg hlies _
  exact h _ _ _ w' (hb'.grown (l' := l ++ news) (bel1 _ _) hg (by rw [hl, bytesV_append]; exact ho') (by
    rcases hlies with e | e
    · exact .inl (by rw [e]; rfl)
    · exact .inr (by rw [← e]; rfl)))
/-- append of a string's bytes. -/
theorem pg_text {ops : Array Oper} {rest : List Oper} {o : Oper} {a : Act} {Q : Exit → Act → World → Prop} (hgd : o.guard = none) (s x : Operand) (t u : TypeId)
    (ho : o.op = .call { callee := .builtin .append, args := #[s, x], argTypes := #[t, u] }) (ht : Tryz.prog.underlying t = some (.slice 5)) (hu : Tryz.prog.underlying u = some .string)
    {w0 w : World} {S : Nat} {ov : Value} {wd : Nat} {la : Int} {l : List UInt8} (hs : a.eval s = ov) (hb : Pg w0 w S ov wd la l) (d : ByteArray) (hx : a.eval x = .string d) (hlen : l.length + d.size ≤ 140737488355328)
    (h : ∀ va vn vc w', PgMid w0 w w' S ov (.slice va vn vc) wd la (l ++ d.data.toList) → wpList Tryz.prog ops Q rest (a.put o.dst (.slice va vn vc)) w') : wpList Tryz.prog ops Q (o :: rest) a w := by
  obtain ⟨i0, hi0, hz0, hz1, hz2⟩ := info_parts info5
  have hl : (l ++ d.data.toList).length = l.length + d.size := by simp
  refine wpList_plain hgd fun K hK => ?_
  obtain ⟨v', w', hr, ho', hg, hlies⟩ := own_string_lies t u o.type 5 i0 ht hu hi0 hz0 hz1 hz2 ov l.length (bytesV l) hb.own d (by unfold maxLen; omega) (by omega) hb.below.size
  have hm := hb.grown (l' := l ++ d.data.toList) (Below.refl _ _) hg (by rw [hl, bytesV_append]; exact ho') hlies
  obtain ⟨va, vn, vc, rfl⟩ := row_slice hm.own
  unfold Oper.wp execOp
  simp only [ho, resolve, invoke, builtin, Sem.run_bind, Sem.run_pure, Result.andThen_ok, List.map_toArray, List.map_cons, List.map_nil, hs, hx, hr]
  exact hK _ _ (h va vn vc w' hm)
/-- What stands last is turned. -/
theorem Pg.setLast {w0 w : World} {S : Nat} {ov : Value} {wd : Nat} {la : Int} {l : List UInt8} (h : Pg w0 w S ov wd la l) (x : Int) : Pg w0 (w.setCell ⟨S, 2, none⟩ (.int .i64 x)) S ov wd x l ∧ KeptP S ov ov w (w.setCell ⟨S, 2, none⟩ (.int .i64 x)) := by
  refine ⟨⟨?_, ownsRow_setCell_other h.own (by simpa using h.ne) _, h.below.setCell (p := ⟨S, 2, none⟩) h.hS _, h.hS, h.ne⟩, (KeptP.of (Below.refl _ _)).store 2 _⟩
  simpa using heap_setCell_same w S 2 _ _ (.int .i64 x) h.blk
/-- What a method of the page has done: l stands there, and la is last. -/
def PWrote (w0 w w' : World) (S : Nat) (ov : Value) (wd : Nat) (la : Int) (l : List UInt8) (e : Ending) : Prop := e = .returned (.tuple #[]) ∧ ∃ ov', Pg w0 w' S ov' wd la l ∧ KeptP S ov ov' w w'

set_option linter.unusedSimpArgs false in
set_option maxHeartbeats 4000000 in
set_option maxRecDepth 100000 in
theorem add_any (d : ByteArray) (x : Int) (ap : Bool) (w0 w : World) (S : Nat) (ov : Value) (wd : Nat) (la : Int) (l : List UInt8) (h : Pg w0 w S ov wd la l) (hl : l.length ≤ 70000000000000) (hd : d.size ≤ 100000000) :
    Calls Tryz.prog 83 #[.pointer (some ⟨S, 0, none⟩), .string d, .int .i64 x, .bool ap] w fun e w' => PWrote w0 w w' S ov wd x (l ++ ((if ap then [10] else []) ++ (d.data.toList ++ [10]))) e := by
  obtain ⟨s0, s1, s2, s3, s4⟩ := h.cells
  have H := Lib.hid h
  clear h
  cases ap with
  | true =>
    go_enter Tryz.func83, Tryz.ntmps83
    go_wp2_with (first
      | (at_builtin; (refine pg_bytes rfl _ _ 46 rfl Tryz.underlying46 rfl H.out [10] _ (by simp [bytesV]) 1 (by decide) rfl 1 _ rfl (by simp) (by omega) ?_); intro va vn vc w1 hm; obtain ⟨m0, m1⟩ := hm.cells; have HM := Lib.hid hm.store; obtain ⟨p0, p1, p2, p3, p4⟩ := hm.store.1.cells; clear hm)
      | (at_builtin; (refine pg_text rfl _ _ 46 9 rfl Tryz.underlying46 Tryz.underlying9 rfl HM.out.1 d rfl (by rw [List.length_append]; simp only [List.length_cons, List.length_nil]; omega) ?_); intro va2 vn2 vc2 w2 hm; obtain ⟨m2, m3⟩ := hm.cells; have HM2 := Lib.hid hm.store; obtain ⟨q0, q1, q2, q3, q4⟩ := hm.store.1.cells; clear hm)
      | (at_builtin; (refine pg_bytes rfl _ _ 46 rfl Tryz.underlying46 rfl HM2.out.1 [10] _ (by simp [bytesV]) 1 (by decide) rfl 1 _ rfl (by simp) (by rw [List.length_append, List.length_append]; simp only [List.length_cons, List.length_nil]; simp; omega) ?_); intro va3 vn3 vc3 w3 hm; obtain ⟨m4, m5⟩ := hm.cells; have HM3 := Lib.hid hm.store; obtain ⟨r0, r1, r2, r3, r4⟩ := hm.store.1.cells; clear hm))
    go_end0
    have hz := HM3.out.1.setLast x
    exact ⟨rfl, _, by simpa using hz.1, HM.out.2.trans (HM2.out.2.trans (HM3.out.2.trans hz.2))⟩
  | false =>
    go_enter Tryz.func83, Tryz.ntmps83
    go_wp2_with (first
      | (at_builtin; (refine pg_text rfl _ _ 46 9 rfl Tryz.underlying46 Tryz.underlying9 rfl H.out d rfl (by omega) ?_); intro va2 vn2 vc2 w2 hm; obtain ⟨m2, m3⟩ := hm.cells; have HM2 := Lib.hid hm.store; obtain ⟨q0, q1, q2, q3, q4⟩ := hm.store.1.cells; clear hm)
      | (at_builtin; (refine pg_bytes rfl _ _ 46 rfl Tryz.underlying46 rfl HM2.out.1 [10] _ (by simp [bytesV]) 1 (by decide) rfl 1 _ rfl (by simp) (by rw [List.length_append]; simp; omega) ?_); intro va3 vn3 vc3 w3 hm; obtain ⟨m4, m5⟩ := hm.cells; have HM3 := Lib.hid hm.store; obtain ⟨r0, r1, r2, r3, r4⟩ := hm.store.1.cells; clear hm))
    go_end0
    have hz := HM3.out.1.setLast x
    exact ⟨rfl, _, by simpa using hz.1, HM2.out.2.trans (HM3.out.2.trans hz.2)⟩
end Go.Proofs.YtedabholcldgbaaGreatDoor.Y

/- layout's page: addForm, addComment, addSource. -/
namespace Go.Proofs.YtedabholcldgbaaGreatDoor.Y
open Go.RowKit Go.Deep

/-- What stands last behind a form's lines. -/
def stI (x : List UInt8) : Int := if 0 ≤ Lib.indexByte x 10 then 3 else 2
/-- What a form puts on a page, where la stands last. -/
def putI (la : Int) (x : List UInt8) : List UInt8 := (if stI x = 3 ∧ la = 3 then [10] else []) ++ (x ++ [10])
theorem up' {w0 w w' : World} (h : Below w0.heap.size w0 w) (h2 : Below w.heap.size w w') : Below w0.heap.size w0 w' := up h h2
set_option linter.unusedSimpArgs false in
set_option maxHeartbeats 4000000 in
set_option maxRecDepth 100000 in
theorem addForm_any (t : T) (w0 w : World) (S : Nat) (ov : Value) (wd : Nat) (la : Int) (l : List UInt8) (h : Pg w0 w S ov wd la l) (hin : In w t) (hv : validF t.form = true) (htab : Tab w.heap.size w) (hwd : wd ≤ 200) (hl : l.length ≤ 60000000000000) :
    Calls Tryz.prog 82 #[.pointer (some ⟨S, 0, none⟩), t.val] w fun e w' => PWrote w0 w w' S ov wd (stI (linF t.form 0 wd 0)) (l ++ putI la (linF t.form 0 wd 0)) e := by
  have hln := linF_len hv 0 wd 0 (by have := valid_parts hv; omega)
  obtain ⟨X, hX⟩ : ∃ X, linF t.form 0 wd 0 = X := ⟨_, rfl⟩
  have HIL := inLines_any t (w.alloc (.cells #[.int .i64 t.kd, .int .i64 t.nn, .string t.tx, .slice t.ad t.ks.length t.cp] 29)).drew wd (hin.below (bel1 _ _).drew) hv (Tab.mono (htab.on (bel1 _ _).drew) (bel1 _ _).drew.size) hwd
  rw [hX] at HIL hln ⊢
  obtain ⟨D, hD⟩ : ∃ D : ByteArray, (⟨X.toArray⟩ : ByteArray) = D := ⟨_, rfl⟩
  rw [hD] at HIL
  have hDX : D.data.toList = X := by rw [← hD]
  have hDz : D.size ≤ 100000000 := by have := ba_size hDX; omega
  have hSw := lt_of_block h.blk
  have hxb : Box4 (w.alloc (.cells #[.int .i64 t.kd, .int .i64 t.nn, .string t.tx, .slice t.ad t.ks.length t.cp] 29)).drew w.heap.size t := heap_alloc_new w _
  have HX := Lib.hid hxb
  have HP0 := Lib.hid ((h.alloc (.cells #[.int .i64 t.kd, .int .i64 t.nn, .string t.tx, .slice t.ad t.ks.length t.cp] 29)).drew)
  have HB0 : Hid (Below w.heap.size w (w.alloc (.cells #[.int .i64 t.kd, .int .i64 t.nn, .string t.tx, .slice t.ad t.ks.length t.cp] 29)).drew) := Lib.hid (bel1 _ _).drew
  have HC := Lib.hid (fun W => Tryz.strings_Contains_one D 10 W)
  rw [hDX] at HC
  replace HIL := Lib.hid HIL
  have HADD : Hid (∀ W (x : Int) ap, Pg w0 W S ov wd la l → Calls Tryz.prog 83 #[.pointer (some ⟨S, 0, none⟩), .string D, .int .i64 x, .bool ap] W fun e w' => PWrote w0 W w' S ov wd x (l ++ ((if ap then [10] else []) ++ (X ++ [10]))) e) := Lib.hid fun W x ap hp => by
    have := add_any D x ap w0 W S ov wd la l hp (by omega) hDz
    rwa [hDX] at this
  clear hin hv htab hX hD hDX hxb h
  by_cases hc : 0 ≤ Lib.indexByte X 10
  · have dc : decide (0 ≤ Lib.indexByte X 10) = true := by simpa using hc
    have e3 : stI X = 3 := by unfold stI; rw [if_pos hc]
    rw [dc] at HC
    rw [e3]
    by_cases hla : la = 3
    · have eP : putI la X = [10] ++ (X ++ [10]) := by unfold putI; rw [if_pos ⟨e3, hla⟩]
      have gl : (la == 3) = true := by simpa using hla
      rw [eP]
      clear hc dc e3 eP hla
      go_enter Tryz.func82, Tryz.ntmps82
      go_wp2_with fail
      go_region_held3 (fun w' => w'.cell? ⟨w.heap.size, 0, none⟩ = some (.int .i64 t.kd) ∧ w'.cell? ⟨w.heap.size, 1, none⟩ = some (.int .i64 t.nn) ∧ w'.cell? ⟨w.heap.size, 2, none⟩ = some (.string t.tx) ∧ w'.cell? ⟨w.heap.size, 3, none⟩ = some (.slice t.ad t.ks.length t.cp) ∧ w'.cell? ⟨S, 1, none⟩ = some (.int .i64 wd))
        (first
          | exact ⟨HX.out.cells.1, HX.out.cells.2.1, HX.out.cells.2.2.1, HX.out.cells.2.2.2, HP0.out.cells.2.1⟩
          | exact ⟨HX2.out.cells.1, HX2.out.cells.2.1, HX2.out.cells.2.2.1, HX2.out.cells.2.2.2, HP2.out.cells.2.1⟩)
        (first
          | (go_at_call 45; (with_reducible refine HIL.out.mono ?_); rintro e w2 ⟨rfl, hB⟩; have HX2 : Hid (Box4 w2 w.heap.size t) := Lib.hid ((hB.block _ (lt_of_block HX.out)).trans HX.out); have HP2 := Lib.hid (HP0.out.next hB); obtain ⟨p0, p1, p2, p3, p4⟩ := (HP0.out.next hB).cells; have HB2 := Lib.hid hB; clear hB))
      go_wp2_with (first
        | (go_at_call 125; (with_reducible refine (HC.out _).mono ?_); rintro e w3 ⟨rfl, rfl⟩)
        | (go_at_call 83; (with_reducible refine (HADD.out _ _ _ HP2.out).mono ?_); rintro e w4 ⟨rfl, ov4, hp4, hk4⟩; have HP4 := Lib.hid hp4; have HK4 := Lib.hid hk4; clear hp4 hk4))
      go_end0
      exact ⟨rfl, ov4, by simpa using HP4.out, (KeptP.of (up' HB0.out HB2.out)).trans HK4.out⟩
    · have eP : putI la X = [] ++ (X ++ [10]) := by unfold putI; rw [if_neg (fun h => hla h.2)]
      have gl : (la == 3) = false := by simpa using hla
      rw [eP]
      clear hc dc e3 eP hla
      go_enter Tryz.func82, Tryz.ntmps82
      go_wp2_with fail
      go_region_held3 (fun w' => w'.cell? ⟨w.heap.size, 0, none⟩ = some (.int .i64 t.kd) ∧ w'.cell? ⟨w.heap.size, 1, none⟩ = some (.int .i64 t.nn) ∧ w'.cell? ⟨w.heap.size, 2, none⟩ = some (.string t.tx) ∧ w'.cell? ⟨w.heap.size, 3, none⟩ = some (.slice t.ad t.ks.length t.cp) ∧ w'.cell? ⟨S, 1, none⟩ = some (.int .i64 wd))
        (first
          | exact ⟨HX.out.cells.1, HX.out.cells.2.1, HX.out.cells.2.2.1, HX.out.cells.2.2.2, HP0.out.cells.2.1⟩
          | exact ⟨HX2.out.cells.1, HX2.out.cells.2.1, HX2.out.cells.2.2.1, HX2.out.cells.2.2.2, HP2.out.cells.2.1⟩)
        (first
          | (go_at_call 45; (with_reducible refine HIL.out.mono ?_); rintro e w2 ⟨rfl, hB⟩; have HX2 : Hid (Box4 w2 w.heap.size t) := Lib.hid ((hB.block _ (lt_of_block HX.out)).trans HX.out); have HP2 := Lib.hid (HP0.out.next hB); obtain ⟨p0, p1, p2, p3, p4⟩ := (HP0.out.next hB).cells; have HB2 := Lib.hid hB; clear hB))
      go_wp2_with (first
        | (go_at_call 125; (with_reducible refine (HC.out _).mono ?_); rintro e w3 ⟨rfl, rfl⟩)
        | (go_at_call 83; (with_reducible refine (HADD.out _ _ _ HP2.out).mono ?_); rintro e w4 ⟨rfl, ov4, hp4, hk4⟩; have HP4 := Lib.hid hp4; have HK4 := Lib.hid hk4; clear hp4 hk4))
      go_end0
      exact ⟨rfl, ov4, by simpa using HP4.out, (KeptP.of (up' HB0.out HB2.out)).trans HK4.out⟩
  · have dc : decide (0 ≤ Lib.indexByte X 10) = false := by simpa using hc
    have e3 : stI X = 2 := by unfold stI; rw [if_neg hc]
    rw [dc] at HC
    rw [e3]
    have eP : putI la X = [] ++ (X ++ [10]) := by unfold putI; rw [if_neg (fun h => by rw [e3] at h; exact absurd h.1 (by decide))]
    rw [eP]
    clear hc dc e3 eP
    go_enter Tryz.func82, Tryz.ntmps82
    go_wp2_with fail
    go_region_held3 (fun w' => w'.cell? ⟨w.heap.size, 0, none⟩ = some (.int .i64 t.kd) ∧ w'.cell? ⟨w.heap.size, 1, none⟩ = some (.int .i64 t.nn) ∧ w'.cell? ⟨w.heap.size, 2, none⟩ = some (.string t.tx) ∧ w'.cell? ⟨w.heap.size, 3, none⟩ = some (.slice t.ad t.ks.length t.cp) ∧ w'.cell? ⟨S, 1, none⟩ = some (.int .i64 wd))
      (first
        | exact ⟨HX.out.cells.1, HX.out.cells.2.1, HX.out.cells.2.2.1, HX.out.cells.2.2.2, HP0.out.cells.2.1⟩
        | exact ⟨HX2.out.cells.1, HX2.out.cells.2.1, HX2.out.cells.2.2.1, HX2.out.cells.2.2.2, HP2.out.cells.2.1⟩)
      (first
        | (go_at_call 45; (with_reducible refine HIL.out.mono ?_); rintro e w2 ⟨rfl, hB⟩; have HX2 : Hid (Box4 w2 w.heap.size t) := Lib.hid ((hB.block _ (lt_of_block HX.out)).trans HX.out); have HP2 := Lib.hid (HP0.out.next hB); obtain ⟨p0, p1, p2, p3, p4⟩ := (HP0.out.next hB).cells; have HB2 := Lib.hid hB; clear hB))
    go_wp2_with (first
      | (go_at_call 125; (with_reducible refine (HC.out _).mono ?_); rintro e w3 ⟨rfl, rfl⟩)
      | (go_at_call 83; (with_reducible refine (HADD.out _ _ _ HP2.out).mono ?_); rintro e w4 ⟨rfl, ov4, hp4, hk4⟩; have HP4 := Lib.hid hp4; have HK4 := Lib.hid hk4; clear hp4 hk4))
    go_end0
    exact ⟨rfl, ov4, by simpa using HP4.out, (KeptP.of (up' HB0.out HB2.out)).trans HK4.out⟩
end Go.Proofs.YtedabholcldgbaaGreatDoor.Y

/- layout's page: addSource. -/
namespace Go.Proofs.YtedabholcldgbaaGreatDoor.Y
open Go.RowKit Go.Deep

/-- What stands last, and the page's bytes, behind a form. -/
def frmS (wd : Nat) (st : Int × List UInt8) (f : Fm) : Int × List UInt8 := (stI (linF f 0 wd 0), st.2 ++ putI st.1 (linF f 0 wd 0))
def frmsS (wd : Nat) (st : Int × List UInt8) (fs : List Fm) : Int × List UInt8 := fs.foldl (frmS wd) st
theorem putI_len (la : Int) (x : List UInt8) : (putI la x).length ≤ x.length + 2 := by
  unfold putI
  split <;> simp <;> omega
theorem frmS_len {wd : Nat} {st : Int × List UInt8} {f : Fm} (hv : validF f = true) : (frmS wd st f).2.length ≤ st.2.length + 96600002 := by
  have h1 := linF_len hv 0 wd 0 (by have := valid_parts hv; omega)
  have h2 := putI_len st.1 (linF f 0 wd 0)
  unfold frmS
  simp only [List.length_append]
  omega
theorem frmsS_len (wd : Nat) : ∀ (fs : List Fm) (st : Int × List UInt8), (∀ f ∈ fs, validF f = true) → (frmsS wd st fs).2.length ≤ st.2.length + fs.length * 96600002
  | [], st, _ => by simp [frmsS]
  | f :: fs, st, h => by
    have h1 := frmS_len (wd := wd) (st := st) (h f (by simp))
    have h2 := frmsS_len wd fs (frmS wd st f) fun g hg => h g (by simp [hg])
    have e : frmsS wd st (f :: fs) = frmsS wd (frmS wd st f) fs := rfl
    rw [e, List.length_cons]
    omega
theorem frmsS_next (wd : Nat) (st : Int × List UInt8) (fs : List Fm) (k : Nat) (h : k < fs.length) : frmsS wd st (fs.take (k + 1)) = frmS wd (frmsS wd st (fs.take k)) fs[k] := by
  unfold frmsS
  rw [List.take_succ_eq_append_getElem h, List.foldl_append]
  rfl
set_option linter.unusedSimpArgs false in
set_option maxHeartbeats 4000000 in
set_option maxRecDepth 100000 in
theorem addSource_any (d : ByteArray) (fs : List Fm) (hd : d.size ≤ maxLen) (hr : readR d = .ok fs) (hv : ∀ f ∈ fs, validF f = true) (w0 w : World) (hg : Glob w) (h6 : 8 ≤ w.heap.size) (S : Nat) (ov : Value) (wd : Nat) (la : Int) (l : List UInt8) (h : Pg w0 w S ov wd la l) (htab : Tab w0.heap.size w0) (hwd : wd ≤ 200) (hl : l.length + fs.length * 96600002 ≤ 60000000000000) :
    Calls Tryz.prog 50 #[.pointer (some ⟨S, 0, none⟩), .string d] w fun e w' => PWrote w0 w w' S ov wd (frmsS wd (la, l) fs).1 (frmsS wd (la, l) fs).2 e := by
  have HR := Lib.hid ((read_any d w hd hg h6).mono fun e w' hh => (by rw [hr] at hh; exact hh : ∃ v, e = .returned (.tuple #[v, .int .i64 0]) ∧ Forms w.heap.size w' v fs ∧ Below w.heap.size w w'))
  have H := Lib.hid h
  have HT := Lib.hid htab
  have hSw := lt_of_block h.blk
  have hOw : ∀ r, ov.ownBlock = some r → r < w.heap.size := fun r e => (h.own.lt r e).2
  have HOW := Lib.hid hOw
  have HV := Lib.hid hv
  clear h htab hg hr hOw hv
  go_enter Tryz.func50, Tryz.ntmps50
  go_wp2_with (go_at_call 48; (with_reducible refine HR.out.mono ?_); rintro e w2 ⟨v, rfl, ⟨va, vc, ts, rfl, hts, hmap, hcap, hlow, hlow2⟩, hB⟩; have HTS := Lib.hid hts; have HMP := Lib.hid hmap; have HB := Lib.hid hB; have HLO := Lib.hid hlow; have HLO2 := Lib.hid hlow2; have HC := Lib.hid hcap; clear hts hmap hcap hlow hlow2 hB)
  have HLN : Hid (ts.length = fs.length) := Lib.hid (by have := congrArg List.length HMP.out; simpa using this)
  have hl63 : ts.length ≤ 9223372036854775807 := by have := HC.out; unfold maxLen at this; omega
  have HL := Lib.hid hl
  clear hl
  go_loopg [15] (ts.length) (fun m i wr => ∃ k : Nat, k ≤ ts.length ∧ m = ts.length - k ∧ i = .int .i64 k ∧ ∃ ov', Pg w0 wr S ov' wd (frmsS wd (la, l) (fs.take k)).1 (frmsS wd (la, l) (fs.take k)).2 ∧ KeptP S ov ov' w2 wr)
  case atStart => exact ⟨0, by omega, rfl, rfl, ov, H.out.next HB.out, KeptP.of (Below.refl _ _)⟩
  case round =>
    obtain ⟨k, hk, rfl, rfl, ov', hp, hkp⟩ := hrel
    by_cases hlt : k < ts.length
    · have gi : (k : Int) < (ts.length : Int) := by omega
      have gi0 : (0 : Int) ≤ (k : Int) := by omega
      obtain ⟨⟨b, o, rfl, hc4⟩, hin⟩ := HTS.out.at k hlt
      have hfar : ∀ x, w.heap.size ≤ x → x < w2.heap.size → wr.heap[x]? = w2.heap[x]? := fun x hx hx2 => hkp.blks x hx2 (by omega) fun e => by have := HOW.out x e; omega
      have hb0 := HLO2.out b o none rfl
      have lb2 : b < w2.heap.size := World.block_lt_of_cell? _ _ hc4.1
      obtain ⟨x0, x1, x2, x3⟩ := hc4.same (hfar b hb0 lb2)
      have lb : b < wr.heap.size := Nat.lt_of_lt_of_le lb2 hkp.kept.size
      have hin' : In wr ts[k] := In.same _ (Nat.lt_succ_self _) hin fun x hx => hfar x (HLO.out _ (List.getElem_mem hlt) x hx) (In.lt hx hin)
      have hkf : k < fs.length := by have := HLN.out; omega
      have htf : ts[k].form = fs[k] := by
        have e : (ts.map T.form)[k]? = some ts[k].form := by simp [hlt]
        rw [HMP.out] at e
        have e2 : fs[k]? = some fs[k] := by simp [hkf]
        rw [e2] at e
        exact (Option.some.inj e).symm
      have hvk : validF ts[k].form = true := by rw [htf]; exact HV.out _ (List.getElem_mem hkf)
      have hlen2 : (frmsS wd (la, l) (fs.take k)).2.length ≤ 60000000000000 := by
        have h1 := frmsS_len wd (fs.take k) (la, l) fun f hf => HV.out f (List.mem_of_mem_take hf)
        have h2 := HL.out
        have h3 : (fs.take k).length * 96600002 ≤ fs.length * 96600002 := Nat.mul_le_mul_right _ (by rw [List.length_take]; omega)
        simp only at h1
        omega
      have HAF := Lib.hid (addForm_any ts[k] w0 (wr.alloc (.cells #[.int .i64 ts[k].kd, .int .i64 ts[k].nn, .string ts[k].tx, .slice ts[k].ad ts[k].ks.length ts[k].cp] 29)) S ov' wd _ _ (hp.alloc _) (hin'.alloc _) hvk ((HT.out.next hp.below).next (bel1 _ _)) hwd hlen2)
      have HN := Lib.hid (frmsS_next wd (la, l) fs k hkf)
      rw [htf] at HAF
      have HKP := Lib.hid hkp
      clear hin hin' hc4 hfar htf hvk hlen2 hp hkp hb0
      go_wp2_with (go_at_call 82; (with_reducible refine HAF.out.mono ?_); rintro e w4 ⟨rfl, ov4, hp4, hk4⟩; have HP4 := Lib.hid hp4; have HK4 := Lib.hid hk4; clear hp4 hk4)
      go_roundg (ts.length - (k + 1))
      case measure => omega
      case rel => exact ⟨k + 1, by omega, rfl, by go_num, ov4, by rw [HN.out]; exact HP4.out, HKP.out.trans ((KeptP.of (bel1 _ _)).trans HK4.out)⟩
    · have gi : ¬ (k : Int) < (ts.length : Int) := by omega
      have hkl : fs.take k = fs := List.take_of_length_le (by have := HLN.out; omega)
      rw [hkl] at hp
      have HP := Lib.hid hp
      have HKP := Lib.hid hkp
      clear hp hkp hkl
      go_wp2_with fail
      go_end0
      exact ⟨rfl, ov', HP.out, (KeptP.of HB.out).trans HKP.out⟩
theorem addSource_one (d : ByteArray) (f : Fm) (hd : d.size ≤ maxLen) (hr : readR d = .ok [f]) (hv : validF f = true) (w0 w : World) (hg : Glob w) (h6 : 8 ≤ w.heap.size) (S : Nat) (ov : Value) (wd : Nat) (la : Int) (l : List UInt8) (h : Pg w0 w S ov wd la l) (htab : Tab w0.heap.size w0) (hwd : wd ≤ 200) (hl : l.length ≤ 50000000000000) :
    Calls Tryz.prog 50 #[.pointer (some ⟨S, 0, none⟩), .string d] w fun e w' => PWrote w0 w w' S ov wd (stI (linF f 0 wd 0)) (l ++ putI la (linF f 0 wd 0)) e :=
  addSource_any d [f] hd hr (by simpa using hv) w0 w hg h6 S ov wd la l h htab hwd (by simp only [List.length_cons, List.length_nil]; omega)
end Go.Proofs.YtedabholcldgbaaGreatDoor.Y
