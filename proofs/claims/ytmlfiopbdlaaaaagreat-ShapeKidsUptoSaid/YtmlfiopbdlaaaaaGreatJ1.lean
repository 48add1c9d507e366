/- Several texts, one behind the other. -/
import Derived.Test.YtmlfiopbdlaaaaaGreatBase
import Derived.Test.YtmlfiopbdlaaaaaGreatProg
import Derived.Deep.Slices
import Derived.ChangeArms
import Derived.OpenShut
import Derived.Lib.SmallJoins
import Derived.Test.YtmlfiopbdlaaaaaGreatRows
import Derived.Test.YtmlfiopbdlaaaaaGreatVal
import Derived.Test.YtmlfiopbdlaaaaaGreatNRes
import Derived.Test.YtmlfiopbdlaaaaaGreatNIs
import Derived.ChangeMaps5
import Derived.LaidMore
import Derived.MakeChecks
import Derived.Stop.LaidErr
import Derived.Carry
import Derived.Deep.DeepHandedRow
import Derived.Deep.DeepWitnessRowRef
import Derived.Lib.LaidTab
import Derived.Lay
import Derived.PinnedBridge
namespace Go.Proofs.YtmlfiopbdlaaaaaGreat
open Go.RowKit Go.Deep Go.ChangeShapes Go.WideShapes
instance : Inhabited T := ⟨.mk 0 0 ⟨#[]⟩ none 0 []⟩
theorem cellsOf27 : Tryz.prog.cellsOf 24 = 4 := by kernel_rfl
theorem cellsOf3 : Tryz.prog.cellsOf 3 = 1 := by kernel_rfl
theorem cellsOf9 : Tryz.prog.cellsOf 9 = 1 := by kernel_rfl
theorem cellsOf22 : Tryz.prog.cellsOf 22 = 1 := by kernel_rfl
theorem i64_of_wf {n : Int} (h : (Lit.int .i64 n).wf = true) : I64 n := by
  exact bounds_i64 h
section
variable {H : Type} {enc : TypeId × Value → H} {w : World} {base : Nat} {sp : Nat → Bool} {hd : Bool}
abbrev T.cs (t : T) : List Value := [.int .i64 t.kd, .int .i64 t.nn, .string t.tx, .slice t.ad t.ks.length t.cp]
end
end Go.Proofs.YtmlfiopbdlaaaaaGreat

namespace Go.Proofs.YtmlfiopbdlaaaaaGreat
open Go.ChangeShapes Go.WideShapes Go.ChangeAt Go.RowKit Go.Deep
theorem own : ownKnob Tryz.prog.godebug = none := by kernel_rfl
theorem laidOut : laidOutB Tryz.prog = true := by kernel_rfl
theorem max_of_shaped {W : World} (h : W.ShapedOpen Tryz.prog) : MaxIs W := by
  obtain ⟨m, hm⟩ := Tryz.laysM144.s1_3 W h
  exact ⟨m, hm⟩
theorem all_metN (os : Os) (args : Array Value) : laidMetH Tryz.prog [] ((World.laidAll Tryz.prog os []).forCall (fun _ _ => 0) ⟨#[], args, []⟩).memory := by
  rw [MakeChecks.laidMetH_plain _ _ _ (by kernel_rfl)]
  exact laidMet_laidAll _ (by kernel_rfl) (by kernel_rfl)
theorem all_shapedN (os : Os) (args : Array Value) : ((World.laidAll Tryz.prog os []).forCall (fun _ _ => 0) ⟨#[], args, []⟩).Shaped Tryz.prog :=
  World.shaped_of_ZipB (by kernel_rfl) (by kernel_rfl)
theorem witnessN {H : Type} {enc : TypeId × Value → H} {C : Checked} {os : Os} {f : FuncId} {fn : Func} {s : OpenSpec} {conds : List PathCond} {apart : Bool} {laid : List (String × DataW Unit)} (modest : Bool) (w0 : World) (args : Array Value) (hos : w0.os = os)
    (hsh : (w0.forCall (fun _ _ => 0) ⟨#[], args, []⟩).Shaped C.prog)
    (hok : Input.okWideB C.prog (w0.forCall (fun _ _ => 0) ⟨#[], args, []⟩) f ⟨#[], args, []⟩ = true)
    (hrow : s.preRow enc C.prog fn conds apart laid (w0.forCall (fun _ _ => 0) ⟨#[], args, []⟩).memory args) :
    ∃ (w : World) (tape : Tape) (i : Input), w.os = os ∧ (w.forCall tape i).Shaped C.prog ∧ i.vars = [] ∧ Input.okWide C.prog (w.forCall tape i) .any w.heap.size f i ∧
      s.preRow enc C.prog fn conds apart laid (w.forCall tape i).memory i.args ∧ ({ modest := modest } : Assume).holds C.prog (lone (Frame.enter C.prog f i.args .normal) [] (w.forCall tape i)) :=
  ⟨w0, fun _ _ => 0, ⟨#[], args, []⟩, hos, hsh, (Input.okWide_of_okWideB (base := 0) hok).1, (Input.okWide_of_okWideB hok).2, hrow, by
    simp only [Assume.holds]
    exact ⟨by simp, by simp, fun _ => Modest.zero, by simp, by simp⟩⟩
section
variable {H : Type} {enc : TypeId × Value → H} {w : World} {sp : Nat → Bool} {hd : Bool}
theorem agg_of_cells {v : Value} {cs : List Value} (h : v.cells.toList = cs) (h1 : cs.length ≠ 1) : v = .agg ⟨cs⟩ := by
  cases v <;> simp [Value.cells] at h <;> first | (subst h; simp at h1; done) | skip
  rename_i xs
  subst h
  rfl
theorem rowForm : 24 < Tryz.prog.types.size := by
  exact of_decide_eq_true (by kernel_rfl)
theorem recForm : Tryz.prog.readableRec 24 = true := by kernel_rfl
theorem again_arg {w' : World} {v : Value} {d : DataW H} {ps : List MemPlace} (h : DataW.Trod enc Tryz.prog w 0 (fun _ => true) true 24 v d ps) (hb : Below w.heap.size w w') (hlt : ∀ x ∈ ps, x.block < w.heap.size) :
    DataW.Trod enc Tryz.prog w' 0 (fun b => decide (b < w.heap.size)) true 24 v d ps :=
  Below.trod laidOut recForm rowForm h hb hlt
end
mutual
def bkF : Fm → Nat
  | .mk _ _ s ks => 5 + s.size + bkL ks
def bkL : List Fm → Nat
  | [] => 0
  | f :: fs => bkF f + bkL fs
end
theorem bkF_eq (f : Fm) : bkF f = 5 + f.tx.size + bkL f.ks := by
  cases f; unfold bkF; rfl
theorem szL_bk : ∀ l : List Fm, (∀ f ∈ l, 5 * szF f ≤ bkF f) → 5 * szL l ≤ bkL l
  | [], _ => by simp [szL, bkL]
  | f :: fs, h => by
    have h1 := h f (by simp)
    have h2 := szL_bk fs fun g hg => h g (by simp [hg])
    simp only [szL, bkL]; omega
theorem szF_bk' (n : Nat) : ∀ f : Fm, SizeOf.sizeOf f < n → 5 * szF f ≤ bkF f := by
  induction n with
  | zero => intro f h; omega
  | succ n ih =>
    intro f h
    rw [szF_eq, bkF_eq]
    unfold Fm.kids
    split
    · have := szL_bk f.ks fun g hg => ih g (by have := Fm.kid_lt hg; omega)
      omega
    · simp only [szL]; omega
theorem szF_bk (f : Fm) : 5 * szF f ≤ bkF f := szF_bk' _ f (Nat.lt_succ_self _)
theorem bkL_le {H : Type} : ∀ (fs : List Fm) (ds : List (DataW H)), fs.length = ds.length → (∀ i (h : i < fs.length) (h' : i < ds.length), bkF fs[i] ≤ Rows.uptoBulk ds[i]) → bkL fs ≤ Rows.uptoBulkAll ds
  | [], [], _, _ => by simp [bkL, Rows.uptoBulkAll]
  | [], _ :: _, h, _ => by simp at h
  | _ :: _, [], h, _ => by simp at h
  | f :: fs, d :: ds, h, g => by
    have h0 := g 0 (by simp) (by simp)
    have h1 := bkL_le fs ds (by simpa using h) fun i a b => by have := g (i + 1) (by simpa using a) (by simpa using b); simpa using this
    simp only [bkL, Rows.uptoBulkAll]
    simp only [List.getElem_cons_zero] at h0
    omega
section
variable {H : Type} {enc : TypeId × Value → H} {w : World} {base : Nat} {sp : Nat → Bool} {hd : Bool}
set_option maxRecDepth 100000 in
theorem open_formB : ∀ (fuel : Nat) (cs : List Value) (x : DataW H × List MemPlace), DataW.trod enc Tryz.prog w base sp hd fuel 24 cs = some x → ∃ t : T, cs = t.cs ∧ In w t ∧ bkF t.form ≤ Rows.uptoBulk x.1 := by
  intro fuel
  induction fuel using Nat.strongRecOn with
  | _ fuel ih =>
    intro cs x h
    obtain ⟨xs, n, rfl, rfl, hl, hlen, hf⟩ := DataW.trod_struct Tryz.underlying24 h
    rw [cellsOf27] at hl
    match xs, hlen, cs, hl with
    | [y0, y1, y2, y3], _, [v0, v1, v2, v3], _ =>
      have g0 := hf 0 _ rfl
      have g1 := hf 1 _ rfl
      have g2 := hf 2 _ rfl
      have g3 := hf 3 _ rfl
      simp [cellsOf3, cellsOf9, cellsOf22] at g0 g1 g2 g3
      obtain ⟨k, e0, x0, w0⟩ := DataW.trod_int Tryz.underlying3 g0
      obtain ⟨m, e1, x1, w1⟩ := DataW.trod_int Tryz.underlying3 g1
      obtain ⟨s, e2, x2, w2⟩ := DataW.trod_string Tryz.underlying9 g2
      simp at e0 e1 e2
      subst e0 e1 e2 x0 x1 x2
      rcases DataW.trod_slice Tryz.underlying22 g3 with ⟨e3, x3⟩ | ⟨a, len, cap, elems, rest, n', rfl, e3, x3, _, hle, hcm, hel, hcell, _⟩
      · simp at e3
        subst e3 x3
        refine ⟨.mk k m s none 0 [], rfl, In.mk ⟨i64_of_wf w0, i64_of_wf w1, w2, Nat.le_refl _, Nat.zero_le _⟩ (by simp [T.ks, InL]), ?_⟩
        simp [T.form, T.forms, bkF, bkL, Rows.uptoBulk, Rows.uptoBulkAll]
        omega
      · simp at e3
        subst e3 x3
        have hx : ∀ i, i < len → ∃ t : T, In w t ∧ (∀ j, j < 4 → w.cell? ((a.add (i * 4)).add j) = t.cs[j]?) ∧ ∀ h : i < elems.length, bkF t.form ≤ Rows.uptoBulk elems[i].1 := fun i hi => by
          have h1 := hcell i hi
          rw [cellsOf27, List.getElem?_eq_getElem (by omega)] at h1
          obtain ⟨cs', hc, ht⟩ := Option.bind_eq_some_iff.1 h1
          obtain ⟨t, rfl, hin, hb⟩ := ih n' (by omega) cs' _ ht
          obtain ⟨_, _, hat⟩ := World.cells?_some hc
          exact ⟨t, hin, hat, fun _ => hb⟩
        obtain ⟨f, hfx⟩ := choose_lt hx
        have hks : ((List.range len).map f).length = len := by simp
        refine ⟨.mk k m s (some a) cap ((List.range len).map f), by simp [T.cs, T.kd, T.nn, T.tx, T.ad, T.cp, T.ks], In.mk ⟨i64_of_wf w0, i64_of_wf w1, w2, by show ((List.range len).map f).length ≤ cap; rw [hks]; exact hle, hcm⟩ (InL_mk fun j hj => ?_), ?_⟩
        · have hj' : j < len := by simpa [T.ks] using hj
          obtain ⟨hin, hc, _⟩ := hfx j hj'
          have hkj : (T.mk k m s (some a) cap ((List.range len).map f)).ks[j] = f j := by simp [T.ks]
          rw [hkj]
          refine ⟨?_, hin⟩
          have hspot : a.spot = none := by
            have h0 := (hfx 0 (by omega)).2.1 0 (by omega)
            have := World.cell?_spot h0
            simpa [Addr.add] using this
          obtain ⟨b, o, spt⟩ := a
          obtain rfl : spt = none := hspot
          have hadd : ∀ i, ((⟨b, o, none⟩ : Addr).add (j * 4)).add i = ⟨b, o + (0 + j) * 4 + i, none⟩ := fun i => by
            rw [add_add]
            unfold Addr.add
            split
            · rename_i h0
              have : j * 4 + i = 0 := h0
              rw [show o + (0 + j) * 4 + i = o by omega]
            · rw [show o + (0 + j) * 4 + i = o + (j * 4 + i) by omega]
          refine ⟨b, o, rfl, ?_, ?_, ?_, ?_⟩
          · have := hc 0 (by omega); rw [hadd 0] at this; simpa using this
          · have := hc 1 (by omega); rw [hadd 1] at this; simpa using this
          · have := hc 2 (by omega); rw [hadd 2] at this; simpa using this
          · have := hc 3 (by omega); rw [hadd 3] at this; simpa using this
        · have hb := bkL_le (((List.range len).map f).map T.form) (elems.map (·.1)) (by simp [hel]) (fun i h1 h2 => by
            have hi : i < len := by simpa using h1
            have := (hfx i hi).2.2 (by simpa using h2)
            simpa using this)
          simp [T.form, T.forms_map, bkF, Rows.uptoBulk, Rows.uptoBulkAll] at hb ⊢
          omega
theorem open_argB {v : Value} {d : DataW H} {ps : List MemPlace} (h : DataW.Trod enc Tryz.prog w base sp hd 24 v d ps) : ∃ t : T, v = t.val ∧ In w t ∧ bkF t.form ≤ Rows.uptoBulk d := by
  obtain ⟨fuel, hf⟩ := h
  obtain ⟨t, hc, hin, hb⟩ := open_formB fuel _ _ hf
  exact ⟨t, agg_of_cells hc (by simp), hin, hb⟩
end
theorem upto_small {H : Type} {ds : List (DataW H)} (h : Rows.uptoSmall H ds = true) : Rows.uptoBulkAll ds ≤ 1048576 := of_decide_eq_true h
end Go.Proofs.YtmlfiopbdlaaaaaGreat
