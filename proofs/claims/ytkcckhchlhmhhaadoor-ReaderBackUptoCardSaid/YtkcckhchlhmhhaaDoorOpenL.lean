/- An argument that reads as a list of forms, with its bulk. -/
import Derived.Test.YtkcckhchlhmhhaaDoorBulk
namespace Go.Proofs.YtkcckhchlhmhhaaDoor
open Go.RowKit Go.Deep Go.ChangeShapes Go.WideShapes

section
variable {H : Type} {enc : TypeId × Value → H} {w : World} {base : Nat} {sp : Nat → Bool} {hd : Bool}
set_option maxRecDepth 100000 in
theorem open_list {b0 : Nat} {r : Reach} {v : Value} {d : DataW H} {ps : List MemPlace} (hv : Value.okWide Tryd.prog w r b0 22 v) (h : DataW.Trod enc Tryd.prog w base sp hd 22 v d ps) :
    ∃ (va : Option Addr) (vc : Nat) (ts : List T), v = .slice va ts.length vc ∧ InL w va 0 ts ∧ ts.length ≤ vc ∧ vc ≤ maxLen ∧ bkL (ts.map T.form) ≤ Rows.uptoBulk d := by
  obtain ⟨a0, l0, c0, rfl⟩ := okWide_slice Tryd.underlying22 hv
  obtain ⟨fuel, hf⟩ := h
  rcases DataW.trod_slice Tryd.underlying22 hf with ⟨hc, _⟩ | ⟨a, len, cap, elems, rest, n', _, hc, hx, _, hle, hcm, hel, hcell, _⟩
  · simp [Value.cells] at hc
    obtain ⟨rfl, rfl, rfl⟩ := hc
    exact ⟨none, 0, [], rfl, by simp [InL], Nat.le_refl _, Nat.zero_le _, by simp [bkL]⟩
  · simp [Value.cells] at hc
    obtain ⟨rfl, rfl, rfl⟩ := hc
    have hxx : ∀ i, i < l0 → ∃ t : T, In w t ∧ (∀ j, j < 4 → w.cell? ((a.add (i * 4)).add j) = t.cs[j]?) ∧ ∀ h : i < elems.length, bkF t.form ≤ Rows.uptoBulk elems[i].1 := fun i hi => by
      have h1 := hcell i hi
      rw [cellsOf27, List.getElem?_eq_getElem (by omega)] at h1
      obtain ⟨cs', hc, ht⟩ := Option.bind_eq_some_iff.1 h1
      obtain ⟨t, rfl, hin, hb⟩ := open_formB n' cs' _ ht
      obtain ⟨_, _, hat⟩ := World.cells?_some hc
      exact ⟨t, hin, hat, fun _ => hb⟩
    obtain ⟨f, hfx⟩ := choose_lt hxx
    have hks : ((List.range l0).map f).length = l0 := by simp
    refine ⟨some a, c0, (List.range l0).map f, by rw [hks], InL_mk fun j hj => ?_, by rw [hks]; exact hle, hcm, ?_⟩
    · have hj' : j < l0 := by simpa using hj
      obtain ⟨hin, hc, _⟩ := hfx j hj'
      have hkj : ((List.range l0).map f)[j] = f j := by simp
      rw [hkj]
      refine ⟨?_, hin⟩
      have hspot : a.spot = none := by
        have h0 := (hfx 0 (by omega)).2.1 0 (by omega)
        have := World.cell?_spot h0
        simpa [Addr.add] using this
      obtain ⟨b, o, spt⟩ := a
      obtain rfl : spt = none := hspot
      have hadd : ∀ i, ((⟨b, o, none⟩ : Addr).add (j * 4)).add i = ⟨b, o + (0 + j) * 4 + i, none⟩ := fun i => by
        rw [add_add]
        unfold Addr.add
        split
        · rename_i h0
          have : j * 4 + i = 0 := h0
          rw [show o + (0 + j) * 4 + i = o by omega]
        · rw [show o + (0 + j) * 4 + i = o + (j * 4 + i) by omega]
      refine ⟨b, o, rfl, ?_, ?_, ?_, ?_⟩
      · have := hc 0 (by omega); rw [hadd 0] at this; simpa using this
      · have := hc 1 (by omega); rw [hadd 1] at this; simpa using this
      · have := hc 2 (by omega); rw [hadd 2] at this; simpa using this
      · have := hc 3 (by omega); rw [hadd 3] at this; simpa using this
    · have hb := bkL_le (((List.range l0).map f).map T.form) (elems.map (·.1)) (by simp [hel]) (fun i h1 h2 => by
        have hi : i < l0 := by simpa using h1
        have := (hfx i hi).2.2 (by simpa using h2)
        simpa using this)
      simp only [Prod.mk.injEq] at hx
      rw [hx.1]
      simp only [Rows.uptoBulk]
      omega
theorem rowList : 22 < Tryd.prog.types.size := of_decide_eq_true (by kernel_rfl)
theorem recList : Tryd.prog.readableRec 22 = true := by kernel_rfl
theorem again_list {w' : World} {v : Value} {d : DataW H} {ps : List MemPlace} (h : DataW.Trod enc Tryd.prog w 0 (fun _ => true) true 22 v d ps) (hb : Below w.heap.size w w') (hlt : ∀ x ∈ ps, x.block < w.heap.size) :
    DataW.Trod enc Tryd.prog w' 0 (fun b => decide (b < w.heap.size)) true 22 v d ps :=
  Below.trod laidOut recList rowList h hb hlt
end
end Go.Proofs.YtkcckhchlhmhhaaDoor
