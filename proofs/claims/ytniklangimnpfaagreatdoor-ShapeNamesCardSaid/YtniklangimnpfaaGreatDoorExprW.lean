/- shape.Expr of a word. -/
import Derived.Test.YtniklangimnpfaaGreatDoorAskW
import Derived.Shelf.Abstract
namespace Go.Proofs.YtniklangimnpfaaGreatDoor
open Go.RowKit Go.Deep

theorem enters_expr1 : ∀ args w, (callFunc 26 args).run Tryz.prog w = .ok (.enter 26 args) w := fun args w => by
  exact enters_of Tryz.func26 (by kernel_rfl) rfl args w
set_option maxHeartbeats 1000000 in
theorem askWord_any (t : T) (hk : t.kd = 1) (hs : t.tx.size ≤ 1000) (w : World) (hm : MaxIs w) :
    Calls Tryz.prog 27 #[t.val] w fun e w' => AnsE (if exprW t.tx then none else some 4) e ∧ Below w.heap.size w w' := by
  have HM := Lib.hid fun (W : World) (h : Below w.heap.size w W) => exprWord_any t.tx hs W (hm.below h)
  clear hm hs
  have hk' := hk
  have HK := Lib.hid hk
  have hv : t.val = .agg #[.int .i64 1, .int .i64 t.nn, .string t.tx, .slice t.ad t.ks.length t.cp] := by rw [← hk]
  rw [hv]
  clear hk hk' hv
  cases hx : exprW t.tx with
  | true =>
    rw [hx] at HM
    clear hx
    go_enter Tryz.func27, Tryz.ntmps27
    go_wp2_with (first
      | (go_at_call 44; refine (HM.out _ (bel1 _ _)).mono ?_; rintro e w2 ⟨rfl, rfl⟩)
      | (go_at_call 43; refine (must_any _ _ _).mono ?_; rintro e w3 ⟨he, rfl⟩; simp only [AnsE, if_true] at he; subst he))
    go_end0
    exact ⟨rfl, bel1 _ _⟩
  | false =>
    rw [hx] at HM
    clear hx
    go_enter Tryz.func27, Tryz.ntmps27
    go_wp2_with (first
      | (go_at_call 44; refine (HM.out _ (bel1 _ _)).mono ?_; rintro e w2 ⟨rfl, rfl⟩)
      | (go_at_call 43; refine (must_any _ _ _).mono ?_; rintro e w3 ⟨he, rfl⟩; simp only [AnsE, Bool.false_eq_true, if_false] at he; subst he))
    exact ⟨rfl, rfl, bel1 _ _⟩
theorem word_boxed (t : T) (hk : t.kd = 1) (hs : t.tx.size ≤ 1000) (b : Nat) (w : World) (hb : Box4 w b t) (hm : MaxIs w) :
    Calls Tryz.prog 26 #[.pointer (some ⟨b, 0, none⟩)] w fun e w' => AnsE (if exprW t.tx then none else some 4) e ∧ Below w.heap.size w w' := by
  have HA := Lib.hid (askWord_any t hk hs w hm)
  obtain ⟨x0, x1, x2, x3⟩ := hb.cells
  clear hk hs hm hb
  cases hx : exprW t.tx with
  | true =>
    rw [hx] at HA
    clear hx
    go_enter Tryz.func26, Tryz.ntmps26
    go_wp2_with (go_at_call 27; refine HA.out.mono ?_; rintro e w2 ⟨he, hB⟩; simp only [AnsE, if_true] at he; subst he; have HB := Lib.hid hB; clear hB)
    go_end0
    exact ⟨rfl, HB.out⟩
  | false =>
    rw [hx] at HA
    clear hx
    go_enter Tryz.func26, Tryz.ntmps26
    go_wp2_with (go_at_call 27; refine HA.out.mono ?_; rintro e w2 ⟨he, hB⟩; simp only [AnsE, Bool.false_eq_true, if_false] at he; subst he; have HB := Lib.hid hB; clear hB)
    exact ⟨rfl, rfl, HB.out⟩
set_option maxHeartbeats 1000000 in
theorem expr_word (t : T) (hk : t.kd = 1) (hs : t.tx.size ≤ 1000) (w : World) (hin : In w t) (hm : MaxIs w) :
    Calls Tryz.prog 18 #[t.val] w fun e w' => e = .returned (.int .i64 (refR t.form (if exprW t.tx then none else some 4))) ∧ Below w.heap.size w w' := by
  have hmf : ∀ (fn : Fn) (first cap : Array Value) (w : World), (Instr.makeFunc fn first cap).run Tryz.prog w = .ok (.func fn first cap) w := fun _ _ _ _ => rfl
  have HR := Lib.hid (refusal_any t 26 enters_expr1 #[.pointer (some ⟨w.heap.size, 0, none⟩)] (if exprW t.tx then none else some 4) (w.alloc (.cells #[.int .i64 t.kd, .int .i64 t.nn, .string t.tx, .slice t.ad t.ks.length t.cp] 34)) (hin.alloc _)
    (fun _ w' hB => word_boxed t hk hs w.heap.size w' ((hB.block _ (by simp)).trans (Box4.new w t)) (hm.below (up (bel1 _ _) hB))))
  obtain ⟨q, hq⟩ : ∃ q, refR t.form (if exprW t.tx then none else some 4) = q := ⟨_, rfl⟩
  rw [hq] at HR ⊢
  clear hk hs hm hin hq
  go_enter Tryz.func18, Tryz.ntmps18
  go_wp2_with (go_at_call 25; refine HR.out.mono ?_; rintro e w2 ⟨rfl, hB⟩; have HB := Lib.hid hB; clear hB)
  go_ret
  exact ⟨rfl, up (bel1 _ _) HB.out⟩
end Go.Proofs.YtniklangimnpfaaGreatDoor
