/- What reads as a form is one. -/
import Derived.Test.YtedabholcldgbaaGreatDoorBase
import Derived.Test.YtedabholcldgbaaGreatDoorProg
import Derived.Deep.Slices
import Derived.ChangeArms
import Derived.OpenShut
import Derived.Lib.SmallJoins
namespace Go.Proofs.YtedabholcldgbaaGreatDoor
open Go.RowKit Go.Deep Go.ChangeShapes Go.WideShapes

instance : Inhabited T := ⟨.mk 0 0 ⟨#[]⟩ none 0 []⟩
theorem cellsOf27 : Tryz.prog.cellsOf 29 = 4 := by kernel_rfl
theorem cellsOf3 : Tryz.prog.cellsOf 3 = 1 := by kernel_rfl
theorem cellsOf9 : Tryz.prog.cellsOf 9 = 1 := by kernel_rfl
theorem cellsOf22 : Tryz.prog.cellsOf 22 = 1 := by kernel_rfl
theorem i64_of_wf {n : Int} (h : (Lit.int .i64 n).wf = true) : I64 n := by
  exact bounds_i64 h
section
variable {H : Type} {enc : TypeId × Value → H} {w : World} {base : Nat} {sp : Nat → Bool} {hd : Bool}
abbrev T.cs (t : T) : List Value := [.int .i64 t.kd, .int .i64 t.nn, .string t.tx, .slice t.ad t.ks.length t.cp]
set_option maxRecDepth 100000 in
theorem open_form : ∀ (fuel : Nat) (cs : List Value) (x : DataW H × List MemPlace), DataW.trod enc Tryz.prog w base sp hd fuel 29 cs = some x → ∃ t : T, cs = t.cs ∧ In w t := by
  intro fuel
  induction fuel using Nat.strongRecOn with
  | _ fuel ih =>
    intro cs x h
    obtain ⟨xs, n, rfl, rfl, hl, hlen, hf⟩ := DataW.trod_struct Tryz.underlying29 h
    rw [cellsOf27] at hl
    match xs, hlen, cs, hl with
    | [y0, y1, y2, y3], _, [v0, v1, v2, v3], _ =>
      have g0 := hf 0 _ rfl
      have g1 := hf 1 _ rfl
      have g2 := hf 2 _ rfl
      have g3 := hf 3 _ rfl
      simp [cellsOf3, cellsOf9, cellsOf22] at g0 g1 g2 g3
      obtain ⟨k, e0, _, w0⟩ := DataW.trod_int Tryz.underlying3 g0
      obtain ⟨m, e1, _, w1⟩ := DataW.trod_int Tryz.underlying3 g1
      obtain ⟨s, e2, _, w2⟩ := DataW.trod_string Tryz.underlying9 g2
      simp at e0 e1 e2
      subst e0 e1 e2
      rcases DataW.trod_slice Tryz.underlying22 g3 with ⟨e3, _⟩ | ⟨a, len, cap, elems, rest, n', rfl, e3, _, _, hle, hcm, hel, hcell, _⟩
      · simp at e3
        subst e3
        exact ⟨.mk k m s none 0 [], rfl, In.mk ⟨i64_of_wf w0, i64_of_wf w1, w2, Nat.le_refl _, Nat.zero_le _⟩ (by simp [T.ks, InL])⟩
      · simp at e3
        subst e3
        have hx : ∀ i, i < len → ∃ t : T, In w t ∧ ∀ j, j < 4 → w.cell? ((a.add (i * 4)).add j) = t.cs[j]? := fun i hi => by
          have h1 := hcell i hi
          rw [cellsOf27, List.getElem?_eq_getElem (by omega)] at h1
          obtain ⟨cs', hc, ht⟩ := Option.bind_eq_some_iff.1 h1
          obtain ⟨t, rfl, hin⟩ := ih n' (by omega) cs' _ ht
          obtain ⟨_, _, hat⟩ := World.cells?_some hc
          exact ⟨t, hin, hat⟩
        obtain ⟨f, hfx⟩ := choose_lt hx
        have hks : ((List.range len).map f).length = len := by simp
        refine ⟨.mk k m s (some a) cap ((List.range len).map f), by simp [T.cs, T.kd, T.nn, T.tx, T.ad, T.cp, T.ks], In.mk ⟨i64_of_wf w0, i64_of_wf w1, w2, by show ((List.range len).map f).length ≤ cap; rw [hks]; exact hle, hcm⟩ (InL_mk fun j hj => ?_)⟩
        have hj' : j < len := by simpa [T.ks] using hj
        obtain ⟨hin, hc⟩ := hfx j hj'
        have hkj : (T.mk k m s (some a) cap ((List.range len).map f)).ks[j] = f j := by simp [T.ks]
        rw [hkj]
        refine ⟨?_, hin⟩
        have hspot : a.spot = none := by
          have h0 := (hfx 0 (by omega)).2 0 (by omega)
          have := World.cell?_spot h0
          simpa [Addr.add] using this
        obtain ⟨b, o, spt⟩ := a
        obtain rfl : spt = none := hspot
        have hadd : ∀ i, ((⟨b, o, none⟩ : Addr).add (j * 4)).add i = ⟨b, o + (0 + j) * 4 + i, none⟩ := fun i => by
          rw [add_add]
          unfold Addr.add
          split
          · rename_i h0
            have : j * 4 + i = 0 := h0
            rw [show o + (0 + j) * 4 + i = o by omega]
          · rw [show o + (0 + j) * 4 + i = o + (j * 4 + i) by omega]
        refine ⟨b, o, rfl, ?_, ?_, ?_, ?_⟩
        · have := hc 0 (by omega); rw [hadd 0] at this; simpa using this
        · have := hc 1 (by omega); rw [hadd 1] at this; simpa using this
        · have := hc 2 (by omega); rw [hadd 2] at this; simpa using this
        · have := hc 3 (by omega); rw [hadd 3] at this; simpa using this
end
end Go.Proofs.YtedabholcldgbaaGreatDoor
