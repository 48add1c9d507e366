/- shape.refusal: what an asking tells, or stops with. -/
import Derived.Test.YtmlfiopbdlaaaaaGreatVal
import Derived.Defers
import Derived.Recover
import Derived.Laws.Pointers
namespace Go.Proofs.YtmlfiopbdlaaaaaGreat
open Go.RowKit Go.Deep

/-- What an asking ends with: nothing, or an error's panic. -/
def AnsE (r : Option Int) (e : Ending) : Prop :=
  match r with
  | none => e = .returned (.tuple #[])
  | some c => e = .panicked [{ v := .iface 26 (.int .i64 c), recovered := false }]

set_option maxHeartbeats 1000000 in
theorem catch_panicking (p : Addr) (x c : Int) (w : World) (hc : w.cell? p = some (.int .i64 x)) (hz : w.frozen? p = false) :
    CallsD Tryz.prog 77 #[.pointer (some p)] (.panicking ({ v := .iface 26 (.int .i64 c), recovered := false } :: [])) w fun e u' w' =>
      e = .returned (.tuple #[]) ∧ u' = .panicking ({ v := .iface 26 (.int .i64 c), recovered := true } :: []) ∧ w' = w.setCell p (.int .i64 c) := by
  have hta : ∀ (X : TypeId) (w : World), Sem.run Tryz.prog (Instr.typeAssert (.iface 26 (.int .i64 c)) X 26 false) w = .ok (.int .i64 c) w := fun X w => by simp [Instr.typeAssert, run_underlying Tryz.underlying26]
  refine callsD_of_wpS Tryz.func77 rfl fun c₀ cs hu => ?_
  apply wpS_seq
  apply wpS_region
  simp [wpOpsS, go_sem, recoverD, hu, Tryz.ntmps77, Exit.thenS]
  apply wpS_seq
  apply wpS_region
  simp [wpOpsS, go_sem, Exit.thenS]
  refine wpS_cond (t := true) (by simp [Act.eval, Array.replicate]) ?_
  simp only [if_true]
  apply wpS_region
  simp [wpOpsS, go_sem, hta, hc, hz, bodyPostS, results, Tryz.results77]
theorem catch_idle (p : Addr) (w : World) :
    CallsD Tryz.prog 77 #[.pointer (some p)] .returning w fun e u' w' => e = .returned (.tuple #[]) ∧ u' = .returning ∧ w' = w := by
  refine callsD_of_wpS Tryz.func77 rfl fun c₀ cs hu => ?_
  apply wpS_seq
  apply wpS_region
  simp [wpOpsS, go_sem, recoverD, hu, Tryz.ntmps77, Exit.thenS]
  apply wpS_seq
  apply wpS_region
  simp [wpOpsS, go_sem, Exit.thenS]
  refine wpS_cond (t := false) (by simp [Act.eval, Array.replicate]) ?_
  simp only [Bool.false_eq_true, if_false]
  refine wpS_of_wp (wp_skip ?_)
  cases c₀
  simp_all [bodyPostS, results, Tryz.results77]
/-- What refusal tells. -/
def refR (f : Fm) (r : Option Int) : Int := if validF f then r.getD 0 else 1
/-- The variable that holds the error. -/
abbrev ErrAt (w : World) (P : Nat) (x : Int) : Prop := w.heap[P]? = some (.cells #[.int .i64 x] 26 (0, 0))
theorem ErrAt.new2 (w : World) (o : Obj) : ErrAt ((w.alloc o).alloc (.cells #[.int .i64 0] 26)) (w.heap.size + 1) 0 := by
  have := heap_alloc_new (w.alloc o) (.cells #[.int .i64 0] 26)
  rw [show (w.alloc o).heap.size = w.heap.size + 1 by simp] at this
  exact this
theorem ErrAt.below {w w' : World} {P : Nat} {x : Int} (h : ErrAt w P x) (hb : Below w.heap.size w w') : ErrAt w' P x := (hb.block P (lt_of_block h)).trans h
theorem below_set {B : Nat} {w w' : World} {P : Nat} {v : Value} (h : Below B w w') (hP : B ≤ P) : Below B w (w'.setCell ⟨P, 0, none⟩ v) :=
  ⟨h.os, h.tape, h.output, by simpa [World.setCell] using h.size, fun k hk => (Below.heap_setCell w' ⟨P, 0, none⟩ v k (by show k ≠ P; omega)).trans (h.block k hk)⟩
set_option maxHeartbeats 2000000 in
set_option maxRecDepth 100000 in
theorem refusal_any (t : T) (K : FuncId) (eK : ∀ args w, (callFunc K args).run Tryz.prog w = .ok (.enter K args) w) (caps : Array Value) (r : Option Int) (w : World) (hin : In w t)
    (hask : validF t.form = true → ∀ w', Below w.heap.size w w' → Calls Tryz.prog K caps w' fun e w'' => AnsE r e ∧ Below w'.heap.size w' w'') :
    Calls Tryz.prog 51 #[t.val, .func (.func K) #[] caps] w fun e w' => e = .returned (.int .i64 (refR t.form r)) ∧ Below w.heap.size w w' := by
  have HV := Lib.hid fun (W : World) (h : In W t) => valid_big t W h
  have HIN := Lib.hid hin
  have HASK := Lib.hid hask
  clear hin hask
  have hmf : ∀ (fn : Fn) (first cap : Array Value) (w : World), (Instr.makeFunc fn first cap).run Tryz.prog w = .ok (.func fn first cap) w := fun _ _ _ _ => rfl
  cases hv : validF t.form with
  | false =>
    rw [hv] at HV
    have e : refR t.form r = 1 := by simp [refR, hv]
    rw [e]
    clear hv e
    go_enter_defers Tryz.func51, Tryz.ntmps51
    go_wp2_with (go_at_call 76; refine (HV.out _ ((HIN.out.alloc _).alloc _)).mono ?_; rintro e w2 ⟨rfl, hB⟩; have hE := (ErrAt.new2 _ _).below hB; have c0 := cell_of_one hE; have f0 := free_of_one hE; have HE := Lib.hid hE; have HB := Lib.hid (up (bel2 _ _ _) hB); clear hB hE)
    simp [bodyPostD, Leaves, results, Tryz.results51, go_sem, c0]
    exact below_set HB.out (by omega)
  | true =>
    rw [hv] at HV
    have e : refR t.form r = r.getD 0 := by simp [refR, hv]
    rw [e]
    have HA := Lib.hid (HASK.out hv)
    clear hv e HASK
    cases r with
    | none =>
      go_enter_defers Tryz.func51, Tryz.ntmps51
      go_wp2_with (first
        | (go_at_call 76; refine (HV.out _ ((HIN.out.alloc _).alloc _)).mono ?_; rintro e w2 ⟨rfl, hB⟩; have HE := Lib.hid ((ErrAt.new2 _ _).below hB); have HB := Lib.hid (up (bel2 _ _ _) hB); clear hB)
        | (go_at_fn K; refine (HA.out _ HB.out).mono ?_; rintro e w3 ⟨he, hB⟩; simp only [AnsE] at he; subst he; have hE := HE.out.below hB; have c0 := cell_of_one hE; have f0 := free_of_one hE; have HE2 := Lib.hid hE; have HB2 := Lib.hid (up HB.out hB); clear hB hE))
      refine leaves_cons (f := 77) (args := #[.pointer (some ⟨w.heap.size + 1, 0, none⟩)]) (by simp) (by simp [go_sem]) ?_
      refine (catch_idle ⟨w.heap.size + 1, 0, none⟩ _).mono ?_
      rintro e u' w'' ⟨rfl, rfl, rfl⟩
      simp [Leaves, settle, results, Tryz.results51, go_sem, c0]
      exact below_set HB2.out (by omega)
    | some c =>
      go_enter_defers Tryz.func51, Tryz.ntmps51
      go_wp2_with (first
        | (go_at_call 76; refine (HV.out _ ((HIN.out.alloc _).alloc _)).mono ?_; rintro e w2 ⟨rfl, hB⟩; have HE := Lib.hid ((ErrAt.new2 _ _).below hB); have HB := Lib.hid (up (bel2 _ _ _) hB); clear hB)
        | (go_at_fn K; refine (HA.out _ HB.out).mono ?_; rintro e w3 ⟨he, hB⟩; simp only [AnsE] at he; subst he; have hE := HE.out.below hB; have c0 := cell_of_one hE; have f0 := free_of_one hE; have HE2 := Lib.hid hE; have HB2 := Lib.hid (up HB.out hB); clear hB hE))
      refine leaves_cons (f := 77) (args := #[.pointer (some ⟨w.heap.size + 1, 0, none⟩)]) (by simp) (by simp [go_sem]) ?_
      refine (catch_panicking ⟨w.heap.size + 1, 0, none⟩ 0 c _ c0 f0).mono ?_
      rintro e u' w'' ⟨rfl, rfl, rfl⟩
      simp [Leaves, settle, results, Tryz.results51, go_sem, c0]
      exact below_set HB2.out (by omega)
end Go.Proofs.YtmlfiopbdlaaaaaGreat
