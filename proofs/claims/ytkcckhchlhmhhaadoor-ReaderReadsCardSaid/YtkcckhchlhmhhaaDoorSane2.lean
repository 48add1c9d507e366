/- sane: the chapter's example holds. -/
import Derived.Test.YtkcckhchlhmhhaaDoorOne
import Derived.Test.YtkcckhchlhmhhaaDoorSane
namespace Go.Proofs.YtkcckhchlhmhhaaDoor
open Go.RowKit Go.Deep

theorem sane_one : oneR saneS = .ok saneF := by unfold oneR; rw [sane_read]; rfl
theorem sane_head : headF saneF = ⟨#[102]⟩ := by kernel_rfl
set_option maxHeartbeats 2000000 in
set_option maxRecDepth 100000 in
theorem sane_any (w : World) (hg : Glob w) (h6 : 6 ≤ w.heap.size) :
    Calls Tryd.prog 15 #[] w fun e w' => e = .returned (.bool true) ∧ Below w.heap.size w w' := by
  have HO := one_any saneS w (by unfold maxLen; decide) hg h6
  rw [sane_one] at HO
  have HO := Lib.hid HO
  have HS := Lib.hid fun (t : T) (h : t.form = saneF) w' (hi : In w' t) => (size_any t w' hi (by rw [h, sane_size]; omega)).mono fun e w'' g => (by rw [h, sane_size] at g; exact g : e = .returned (.int .i64 6) ∧ Below w'.heap.size w' w'')
  have HD := Lib.hid fun (t : T) (h : t.form = saneF) w' (hi : In w' t) => (depth_any t w' hi (by rw [h, sane_size]; omega)).mono fun e w'' g => (by rw [h, sane_depth] at g; exact g : e = .returned (.int .i64 3) ∧ Below w'.heap.size w' w'')
  have HH := Lib.hid fun (t : T) (h : t.form = saneF) w' (hi : In w' t) => (head_any t w' hi).mono fun e w'' g => (by rw [h, sane_head] at g; exact g : e = .returned (.string ⟨#[102]⟩) ∧ Below w'.heap.size w' w'')
  clear hg
  go_enter Tryd.func15, Tryd.ntmps15
  go_wp2_with (first
    | (go_at_call 11; refine HO.out.mono ?_; rintro e w2 ⟨t, rfl, hf, hin, hB⟩; have HF := Lib.hid hf; have HIN := Lib.hid hin; have HB := Lib.hid hB; have hz2 := hB.size; clear hf hin hB)
    | (go_at_call 20; refine (HS.out _ HF.out _ (HIN.out.alloc _)).mono ?_; rintro e w3 ⟨rfl, hB3⟩; obtain ⟨k0, k1, k2, k3⟩ := Box4.cells (w := w3) (t := t) ((hB3.block _ (by simp)).trans (Box4.new w2 t)); have HB3 := Lib.hid hB3; have hz3 := hB3.size; simp only [World.size_alloc] at hz3; clear hB3)
    | (go_at_call 22; refine (HD.out _ HF.out _ ((HIN.out.alloc _).below HB3.out)).mono ?_; rintro e w4 ⟨rfl, hB4⟩; obtain ⟨m0, m1, m2, m3⟩ := Box4.cells (w := w4) (t := t) ((hB4.block _ (by omega)).trans ((HB3.out.block _ (by simp)).trans (Box4.new w2 t))); have HB4 := Lib.hid hB4; clear hB4)
    | (go_at_call 26; refine (HH.out _ HF.out _ (((HIN.out.alloc _).below HB3.out).below HB4.out)).mono ?_; rintro e w5 ⟨rfl, hB5⟩; have HB5 := Lib.hid hB5; clear hB5))
  go_goals
  go_ret
  exact ⟨rfl, up HB.out (up (bel1 _ _) (up HB3.out (up HB4.out HB5.out)))⟩
end Go.Proofs.YtkcckhchlhmhhaaDoor
