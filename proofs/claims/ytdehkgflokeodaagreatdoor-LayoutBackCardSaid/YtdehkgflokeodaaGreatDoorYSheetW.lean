/- layout's sheet: write, startLine, layFront. -/
import Derived.Test.YtdehkgflokeodaaGreatDoorYSheet
namespace Go.Proofs.YtdehkgflokeodaaGreatDoor.Y
open Go.RowKit Go.Deep

set_option linter.unusedSimpArgs false in
set_option maxHeartbeats 4000000 in
set_option maxRecDepth 100000 in
theorem write_any (t : T) (w0 w : World) (S : Nat) (ov : Value) (wd : Nat) (l : List UInt8) (h : Sh w0 w S ov wd l) (hin : In w t) (hv : validF t.form = true) (htab : Tab w.heap.size w) (hl : l.length ≤ 1000000000) :
    Calls Tryz.prog 101 #[.pointer (some ⟨S, 0, none⟩), t.val] w fun e w' => Wrote w0 w w' S wd l (txF t.form) e := by
  have hvp := valid_parts hv
  have hsl : (txF t.form).length ≤ 80200000 := by have := txF_len hvp.2.2; omega
  have HW : Hid (∀ W, Below w.heap.size w W → Calls Tryz.prog 140 #[t.val] W fun e w' => ∃ d : ByteArray, e = .returned (.string d) ∧ d.data.toList = txF t.form ∧ Below W.heap.size W w') := Lib.hid fun W hB => by
    have := Go.Proofs.YtdehkgflokeodaaGreatDoor.write_any t W (hin.below hB) (by omega) (Tab.mono (htab.on hB) hB.size)
    exact this.mono fun e w' hh => (by rw [wrF_yes hv] at hh; exact ⟨_, hh.1, rfl, hh.2⟩)
  have hbx := heap_alloc_new w (.cells #[.int .i64 t.kd, .int .i64 t.nn, .string t.tx, .slice t.ad t.ks.length t.cp] 29)
  have H := Lib.hid h
  have HBX := Lib.hid hbx
  have hSw := lt_of_block h.blk
  clear h hin hv hvp htab hbx
  go_enter Tryz.func101, Tryz.ntmps101
  go_wp2_with fail
  have HD := Lib.hid ((H.out.alloc (.cells #[.int .i64 t.kd, .int .i64 t.nn, .string t.tx, .slice t.ad t.ks.length t.cp] 29)).drew)
  obtain ⟨s0, _, s2⟩ := (H.out.alloc (.cells #[.int .i64 t.kd, .int .i64 t.nn, .string t.tx, .slice t.ad t.ks.length t.cp] 29)).cells
  have HB0 : Hid (Below w.heap.size w (w.alloc (.cells #[.int .i64 t.kd, .int .i64 t.nn, .string t.tx, .slice t.ad t.ks.length t.cp] 29)).drew) := Lib.hid (bel1 _ _).drew
  have HX : Hid (Box4 (w.alloc (.cells #[.int .i64 t.kd, .int .i64 t.nn, .string t.tx, .slice t.ad t.ks.length t.cp] 29)).drew w.heap.size t) := Lib.hid HBX.out
  refine wp_region_noPanic ?_
  refine wp_region_held_drew (S := fun W => W.cell? ⟨w.heap.size, 0, none⟩ = some (.int .i64 t.kd) ∧ W.cell? ⟨w.heap.size, 1, none⟩ = some (.int .i64 t.nn) ∧ W.cell? ⟨w.heap.size, 2, none⟩ = some (.string t.tx) ∧ W.cell? ⟨w.heap.size, 3, none⟩ = some (.slice t.ad t.ks.length t.cp)) (by kernel_rfl) HX.out.cells (fun hHeld => ?_)
  refine wpAnyH_take (i := 0) (v := ?_) rfl (by kernel_rfl) (by kernel_rfl) (by kernel_rfl) (fun _ _ _ h => h) (Or.inl ⟨by rfl, ?_⟩) (by assumption) ?_
  rotate_left
  · intro W hSw
    obtain ⟨q0, q1, q2, q3⟩ := hSw
    go_simp
    try with_reducible rfl
  try simp only [Act.put, List.setIfInBounds_toArray, List.set_cons_zero, List.set_cons_succ]
  refine wpAnyH_take (i := 1) (v := ?_) rfl (by kernel_rfl) (by kernel_rfl) (by kernel_rfl) (fun _ _ _ h => h) (Or.inl ⟨by rfl, ?_⟩) (by assumption) ?_
  rotate_left
  · intro W hSw
    obtain ⟨q0, q1, q2, q3⟩ := hSw
    go_simp
    try with_reducible rfl
  try simp only [Act.put, List.setIfInBounds_toArray, List.set_cons_zero, List.set_cons_succ]
  refine wpAnyH_take (i := 2) (v := ?_) rfl (by kernel_rfl) (by kernel_rfl) (by kernel_rfl) (fun _ _ _ h => h) (Or.inl ⟨by rfl, ?_⟩) (by assumption) ?_
  rotate_left
  · intro W hSw
    obtain ⟨q0, q1, q2, q3⟩ := hSw
    go_simp
    try with_reducible rfl
  try simp only [Act.put, List.setIfInBounds_toArray, List.set_cons_zero, List.set_cons_succ]
  refine wpAnyH_take (i := 3) (v := ?_) rfl (by kernel_rfl) (by kernel_rfl) (by kernel_rfl) (fun _ _ _ h => h) (Or.inl ⟨by rfl, ?_⟩) (by assumption) ?_
  rotate_left
  · intro W hSw
    obtain ⟨q0, q1, q2, q3⟩ := hSw
    go_simp
    try with_reducible rfl
  try simp only [Act.put, List.setIfInBounds_toArray, List.set_cons_zero, List.set_cons_succ]
  refine wpAnyH_take (i := 5) (v := ?_) rfl (by kernel_rfl) (by kernel_rfl) (by kernel_rfl) (fun _ _ _ h => h) (Or.inl ⟨by rfl, ?_⟩) (by assumption) ?_
  rotate_left
  · intro W hSw
    obtain ⟨q0, q1, q2, q3⟩ := hSw
    go_simp
    try with_reducible rfl
  try simp only [Act.put, List.setIfInBounds_toArray, List.set_cons_zero, List.set_cons_succ]
  refine wpAnyH_ready (rs := [4, 6]) (by kernel_rfl) (by simp) ?_
  refine AllReadyH.cons rfl (fun K hK => ?_) (AllReadyH.cons rfl (fun K hK => ?_) AllReadyH.nil)
  · go_simp
    refine hK.out _ _ HX.out.cells (fun hHeld => ?_)
    clear hK K
    try simp only [Act.put, List.setIfInBounds_toArray, List.set_cons_zero, List.set_cons_succ]
    refine wpAnyH_ready (rs := [6]) (by kernel_rfl) (by simp) ?_
    refine AllReadyH.cons rfl (fun K hK => ?_) AllReadyH.nil
    go_simp
    go_at_call 140
    refine (HW.out _ HB0.out).mono ?_
    rintro e w3 ⟨d, rfl, hd, hB⟩
    have HB3 := Lib.hid hB
    have HX3 : Hid (Box4 w3 w.heap.size t) := Lib.hid ((hB.block _ (lt_of_block HX.out)).trans HX.out)
    have HD3 := Lib.hid (HD.out.next hB)
    have hdz : d.size ≤ 80200000 := Nat.le_trans (Nat.le_of_eq (by rw [← hd]; simp)) hsl
    have HDD := Lib.hid hd
    clear hd hB
    go_wp2_with fail
    refine hK.out _ _ HX3.out.cells (fun hHeld => ?_)
    clear hK K
    try simp only [Act.put, List.setIfInBounds_toArray, List.set_cons_zero, List.set_cons_succ]
    refine wpAnyH_ready (rs := [7]) (by kernel_rfl) (by simp) ?_
    refine AllReadyH.cons rfl (fun K hK => ?_) AllReadyH.nil
    refine step_text rfl _ _ 46 9 rfl Tryz.underlying46 Tryz.underlying9 rfl HD3.out d rfl (by omega) ?_
    intro va4 vn4 vc4 w4 hm
    have HM := Lib.hid hm
    obtain ⟨m0, m1⟩ := hm.cells
    have HX4 : Hid (Box4 w4 w.heap.size t) := Lib.hid (hm.kept.box HX3.out (by omega))
    clear hm
    refine hK.out _ _ HX4.out.cells (fun hHeld => ?_)
    clear hK K
    try simp only [Act.put, List.setIfInBounds_toArray, List.set_cons_zero, List.set_cons_succ]
    refine wpAnyH_take (i := 8) (v := ?_) rfl (by kernel_rfl) (by kernel_rfl) (by kernel_rfl) (fun _ _ _ h => h) (Or.inl ⟨by rfl, ?_⟩) (by assumption) ?_
    rotate_left
    · intro W hSw
      obtain ⟨q0, q1, q2, q3⟩ := hSw
      go_simp
      try with_reducible rfl
    try simp only [Act.put, List.setIfInBounds_toArray, List.set_cons_zero, List.set_cons_succ]
    refine wpAnyH_take (i := 9) (v := ?_) rfl (by kernel_rfl) (by kernel_rfl) (by kernel_rfl) (fun _ _ _ h => h) (Or.inl ⟨by rfl, ?_⟩) (by assumption) ?_
    rotate_left
    · intro W hSw
      obtain ⟨q0, q1, q2, q3⟩ := hSw
      go_simp
      try with_reducible rfl
    try simp only [Act.put, List.setIfInBounds_toArray, List.set_cons_zero, List.set_cons_succ]
    refine wpAnyH_ready (rs := [10]) (by kernel_rfl) (by simp) ?_
    refine AllReadyH.cons rfl (fun K hK => ?_) AllReadyH.nil
    go_simp
    refine hK.out _ _ (HM.out.store.2.box HX3.out (by omega)).cells (fun hHeld => ?_)
    clear hK K
    try simp only [Act.put, List.setIfInBounds_toArray, List.set_cons_zero, List.set_cons_succ]
    refine wpAnyH_done (by kernel_rfl) ?_ _
    refine NoPanic.normal ?_
    go_wp2_with fail
    go_end0
    have hs := HM.out.store
    refine ⟨rfl, .slice va4 vn4 vc4, ?_, ((Kept.of HB0.out).below HB3.out).trans hs.2⟩
    rw [← HDD.out]
    exact hs.1
  · go_simp
    go_at_call 140
    refine (HW.out _ HB0.out).mono ?_
    rintro e w3 ⟨d, rfl, hd, hB⟩
    have HB3 := Lib.hid hB
    have HX3 : Hid (Box4 w3 w.heap.size t) := Lib.hid ((hB.block _ (lt_of_block HX.out)).trans HX.out)
    have HD3 := Lib.hid (HD.out.next hB)
    have hdz : d.size ≤ 80200000 := Nat.le_trans (Nat.le_of_eq (by rw [← hd]; simp)) hsl
    have HDD := Lib.hid hd
    clear hd hB
    go_wp2_with fail
    refine hK.out _ _ HX3.out.cells (fun hHeld => ?_)
    clear hK K
    try simp only [Act.put, List.setIfInBounds_toArray, List.set_cons_zero, List.set_cons_succ]
    refine wpAnyH_ready (rs := [4]) (by kernel_rfl) (by simp) ?_
    refine AllReadyH.cons rfl (fun K hK => ?_) AllReadyH.nil
    obtain ⟨p0, _, _⟩ := HD3.out.cells
    go_simp
    refine hK.out _ _ HX3.out.cells (fun hHeld => ?_)
    clear hK K
    try simp only [Act.put, List.setIfInBounds_toArray, List.set_cons_zero, List.set_cons_succ]
    refine wpAnyH_ready (rs := [7]) (by kernel_rfl) (by simp) ?_
    refine AllReadyH.cons rfl (fun K hK => ?_) AllReadyH.nil
    refine step_text rfl _ _ 46 9 rfl Tryz.underlying46 Tryz.underlying9 rfl HD3.out d rfl (by omega) ?_
    intro va4 vn4 vc4 w4 hm
    have HM := Lib.hid hm
    obtain ⟨m0, m1⟩ := hm.cells
    have HX4 : Hid (Box4 w4 w.heap.size t) := Lib.hid (hm.kept.box HX3.out (by omega))
    clear hm
    refine hK.out _ _ HX4.out.cells (fun hHeld => ?_)
    clear hK K
    try simp only [Act.put, List.setIfInBounds_toArray, List.set_cons_zero, List.set_cons_succ]
    refine wpAnyH_take (i := 8) (v := ?_) rfl (by kernel_rfl) (by kernel_rfl) (by kernel_rfl) (fun _ _ _ h => h) (Or.inl ⟨by rfl, ?_⟩) (by assumption) ?_
    rotate_left
    · intro W hSw
      obtain ⟨q0, q1, q2, q3⟩ := hSw
      go_simp
      try with_reducible rfl
    try simp only [Act.put, List.setIfInBounds_toArray, List.set_cons_zero, List.set_cons_succ]
    refine wpAnyH_take (i := 9) (v := ?_) rfl (by kernel_rfl) (by kernel_rfl) (by kernel_rfl) (fun _ _ _ h => h) (Or.inl ⟨by rfl, ?_⟩) (by assumption) ?_
    rotate_left
    · intro W hSw
      obtain ⟨q0, q1, q2, q3⟩ := hSw
      go_simp
      try with_reducible rfl
    try simp only [Act.put, List.setIfInBounds_toArray, List.set_cons_zero, List.set_cons_succ]
    refine wpAnyH_ready (rs := [10]) (by kernel_rfl) (by simp) ?_
    refine AllReadyH.cons rfl (fun K hK => ?_) AllReadyH.nil
    go_simp
    refine hK.out _ _ (HM.out.store.2.box HX3.out (by omega)).cells (fun hHeld => ?_)
    clear hK K
    try simp only [Act.put, List.setIfInBounds_toArray, List.set_cons_zero, List.set_cons_succ]
    refine wpAnyH_done (by kernel_rfl) ?_ _
    refine NoPanic.normal ?_
    go_wp2_with fail
    go_end0
    have hs := HM.out.store
    refine ⟨rfl, .slice va4 vn4 vc4, ?_, ((Kept.of HB0.out).below HB3.out).trans hs.2⟩
    rw [← HDD.out]
    exact hs.1
end Go.Proofs.YtdehkgflokeodaaGreatDoor.Y
