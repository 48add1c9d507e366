/- The small sayings: names, types, numbers; rows put together. -/
import Derived.Test.YtmlfiopbdlaaaaaGreatSh0
namespace Go.Proofs.YtmlfiopbdlaaaaaGreat
open Go.RowKit Go.Deep
variable {S : Nat → Prop}

def nameF (f : Fm) : Bool := decide (f.kd = 1) && nameB f.tx
def typeF (f : Fm) : Bool := decide (f.kd = 1) || decide (f.kd = 3)
def listF (f : Fm) : Bool := decide (f.kd = 3)
def nameP : PS := ⟨nameF, none, false⟩
def typeP : PS := ⟨typeF, none, false⟩
theorem In.tx_le {w : World} {t : T} (h : In w t) : t.tx.size ≤ maxLen := h.ok.tx

theorem nameForm_any (t : T) (w : World) (hin : In w t) (hm : MaxIs w) :
    Calls Tryz.prog 64 #[t.val] w fun e w' => e = .returned (.bool (nameF t.form)) ∧ Below w.heap.size w w' := by
  have HN := Lib.hid fun (W : World) (h : Below w.heap.size w W) => isName_any t.tx hin.tx_le W (hm.below h)
  by_cases hk : t.kd = 1
  · have e : nameF t.form = nameB t.tx := by simp [nameF, T.form_kd, T.form_tx, hk]
    have hv : t.val = .agg #[.int .i64 1, .int .i64 t.nn, .string t.tx, .slice t.ad t.ks.length t.cp] := by rw [← hk]
    rw [e, hv]
    clear e hv hk hin hm
    go_enter Tryz.func64, Tryz.ntmps64
    go_wp2_with (go_at_call 28; refine (HN.out _ (bel1 _ _)).mono ?_; rintro e w2 ⟨rfl, rfl⟩)
    go_ret
    exact ⟨rfl, bel1 _ _⟩
  · have e : nameF t.form = false := by simp [nameF, T.form_kd, hk]
    have g : (t.kd == 1) = false := by simpa using hk
    rw [e]
    clear e hk hin hm
    go_enter Tryz.func64, Tryz.ntmps64
    go_wp2_with fail
    go_ret
    exact ⟨rfl, bel1 _ _⟩
theorem isList_any (t : T) (w : World) :
    Calls Tryz.prog 62 #[t.val] w fun e w' => e = .returned (.bool (listF t.form)) ∧ Below w.heap.size w w' := by
  have e : listF t.form = (t.kd == 3) := by simp [listF, T.form_kd]; rfl
  rw [e]
  clear e
  go_enter Tryz.func62, Tryz.ntmps62
  go_wp2_with fail
  go_ret
  exact ⟨rfl, bel1 _ _⟩
theorem mayBe_any (t : T) (w : World) :
    Calls Tryz.prog 157 #[t.val] w fun e w' => e = .returned (.bool (typeF t.form)) ∧ Below w.heap.size w w' := by
  by_cases h1 : t.kd = 1
  · have e : typeF t.form = true := by simp [typeF, T.form_kd, h1]
    have g1 : (t.kd == 1) = true := by simpa using h1
    rw [e]; clear e h1
    go_enter Tryz.func157, Tryz.ntmps157
    go_wp2_with fail
    go_ret
    exact ⟨rfl, bel1 _ _⟩
  · have e : typeF t.form = (t.kd == 3) := by simp [typeF, T.form_kd, h1]; rfl
    have g1 : (t.kd == 1) = false := by simpa using h1
    rw [e]; clear e h1
    go_enter Tryz.func157, Tryz.ntmps157
    go_wp2_with fail
    go_ret
    exact ⟨rfl, bel1 _ _⟩
theorem anything_any (t : T) (w : World) :
    Calls Tryz.prog 143 #[t.val] w fun e w' => e = .returned (.bool true) ∧ Below w.heap.size w w' := by
  go_enter Tryz.func143, Tryz.ntmps143
  go_wp2_with fail
  go_ret
  exact ⟨rfl, bel1 _ _⟩

/-- A part that a function hands back. -/
def PartEnd (n : Nat) (S : Nat → Prop) (w w' : World) (p : PS) (e : Ending) : Prop := ∃ vf vi ve, e = .returned (.agg #[vf, vi, ve]) ∧ PartIs n S w' vf vi ve p ∧ Below w.heap.size w w'
theorem fnT_name (n : Nat) (w : World) : FnT n S w (.func (.func 64) #[] #[]) nameF :=
  ⟨_, _, rfl, enters_of Tryz.func64 (by kernel_rfl) rfl, fun W _ hm t hin _ => nameForm_any t W hin hm⟩
theorem fnT_type (n : Nat) (w : World) : FnT n S w (.func (.func 157) #[] #[]) typeF :=
  ⟨_, _, rfl, enters_of Tryz.func157 (by kernel_rfl) rfl, fun W _ _ t _ _ => mayBe_any t W⟩
theorem fnT_list (n : Nat) (w : World) : FnT n S w (.func (.func 62) #[] #[]) listF :=
  ⟨_, _, rfl, enters_of Tryz.func62 (by kernel_rfl) rfl, fun W _ _ t _ _ => isList_any t W⟩
theorem fnT_any (n : Nat) (w : World) : FnT n S w (.func (.func 143) #[] #[]) (fun _ => true) :=
  ⟨_, _, rfl, enters_of Tryz.func143 (by kernel_rfl) rfl, fun W _ _ t _ _ => anything_any t W⟩
theorem aName_any (n : Nat) (w : World) : Calls Tryz.prog 83 #[] w (fun e w' => PartEnd n S w w' nameP e) := by
  have hmf : ∀ (fn : Fn) (first cap : Array Value) (w : World), (Instr.makeFunc fn first cap).run Tryz.prog w = .ok (.func fn first cap) w := fun _ _ _ _ => rfl
  have HF := Lib.hid (fnT_name (S := S) n w)
  go_enter Tryz.func83, Tryz.ntmps83
  go_wp2_with fail
  refine bodyPost_ret (v := .agg #[.func (.func 64) #[] #[], .nilFunc, .bool false]) (by simp [results, Tryz.results83, go_sem]) rfl ?_
  exact ⟨_, _, _, rfl, ⟨HF.out.below (bel1 _ _), rfl, rfl⟩, bel1 _ _⟩
theorem aType_any (n : Nat) (w : World) : Calls Tryz.prog 96 #[] w (fun e w' => PartEnd n S w w' typeP e) := by
  have HF := Lib.hid (fnT_type (S := S) n w)
  go_enter Tryz.func96, Tryz.ntmps96
  go_wp2_with fail
  refine bodyPost_ret (v := .agg #[.func (.func 157) #[] #[], .nilFunc, .bool false]) (by simp [results, Tryz.results96, go_sem]) rfl ?_
  exact ⟨_, _, _, rfl, ⟨HF.out.below (bel1 _ _), rfl, rfl⟩, bel1 _ _⟩
end Go.Proofs.YtmlfiopbdlaaaaaGreat
