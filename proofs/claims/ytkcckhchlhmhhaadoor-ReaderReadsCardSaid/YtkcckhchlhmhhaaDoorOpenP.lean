/- Arguments that read as a row of ints, as a text, as an int. -/
import Derived.Test.YtkcckhchlhmhhaaDoorBulk
import Derived.Test.YtkcckhchlhmhhaaDoorAt
import Derived.ChangeMaps5
namespace Go.Proofs.YtkcckhchlhmhhaaDoor
open Go.RowKit Go.Deep Go.ChangeShapes Go.WideShapes Go.ChangeMaps

section
variable {H : Type} {enc : TypeId × Value → H} {w : World} {base : Nat} {sp : Nat → Bool} {hd : Bool}
theorem recPath : Tryd.prog.readableRec 39 = true := by kernel_rfl
theorem rowPath : 39 < Tryd.prog.types.size := of_decide_eq_true (by kernel_rfl)
set_option maxRecDepth 100000 in
/-- An argument that reads as a row of ints. -/
theorem open_path {b0 : Nat} {r : Reach} {v : Value} {d : DataW H} {ps : List MemPlace} (hv : Value.okWide Tryd.prog w r b0 39 v) (h : DataW.Trod enc Tryd.prog w base sp hd 39 v d ps) : ∃ (pa : Option Addr) (pc : Nat) (zs : List Int), v = .slice pa zs.length pc ∧ InP w pa zs ∧ zs.length ≤ pc ∧ pc ≤ maxLen := by
  obtain ⟨a0, l0, c0, rfl⟩ := okWide_slice Tryd.underlying39 hv
  obtain ⟨fuel, hf⟩ := h
  rcases open_ints Tryd.underlying39 Tryd.underlying3 cellsOf3 hf with ⟨hc, _⟩ | ⟨a, len, cap, zs, hc, _, hle, hcm, hlen, _, hcell, _⟩
  · simp [Value.cells] at hc
    obtain ⟨rfl, rfl, rfl⟩ := hc
    exact ⟨none, 0, [], rfl, fun k hk => absurd hk (Nat.not_lt_zero _), Nat.le_refl _, Nat.zero_le _⟩
  · simp [Value.cells] at hc
    obtain ⟨rfl, rfl, rfl⟩ := hc
    have hl : l0 ≤ zs.length := by rw [hlen]; split <;> omega
    have hz : (zs.take l0).length = l0 := by simp; omega
    refine ⟨some a, c0, zs.take l0, by rw [hz], fun k hk => ?_, by omega, hcm⟩
    have hk' : k < l0 := by omega
    have hs : a.spot = none := by
      have := World.cell?_spot (hcell 0 (by omega))
      simpa [Addr.add] using this
    have h0 := hcell k (by omega)
    obtain ⟨b, o, s⟩ := a
    obtain rfl : s = none := hs
    refine ⟨b, o, rfl, ?_⟩
    have hadd : (⟨b, o, none⟩ : Addr).add k = ⟨b, o + k, none⟩ := by unfold Addr.add; split <;> simp_all
    rw [← hadd, h0, List.getElem_take, List.getD_eq_getElem?_getD, List.getElem?_eq_getElem (by omega)]
    rfl
theorem again_path {w' : World} {v : Value} {d : DataW H} {ps : List MemPlace} (h : DataW.Trod enc Tryd.prog w 0 (fun _ => true) true 39 v d ps) (hb : Below w.heap.size w w') (hlt : ∀ x ∈ ps, x.block < w.heap.size) :
    DataW.Trod enc Tryd.prog w' 0 (fun b => decide (b < w.heap.size)) true 39 v d ps :=
  Below.trod laidOut recPath rowPath h hb hlt
theorem recStr : Tryd.prog.readableRec 9 = true := by kernel_rfl
theorem rowStr : 9 < Tryd.prog.types.size := of_decide_eq_true (by kernel_rfl)
set_option maxRecDepth 100000 in
/-- An argument that reads as a text. -/
theorem open_str {b0 : Nat} {r : Reach} {v : Value} {d : DataW H} {ps : List MemPlace} (hv : Value.okWide Tryd.prog w r b0 9 v) (h : DataW.Trod enc Tryd.prog w base sp hd 9 v d ps) : ∃ s : ByteArray, v = .string s ∧ s.size ≤ maxLen ∧ s.size + 1 ≤ Rows.uptoBulk d := by
  obtain ⟨s, rfl, rfl, _, hs⟩ := open_string Tryd.underlying9 hv h
  exact ⟨s, rfl, hs, by simp [Rows.uptoBulk]⟩
theorem again_str {w' : World} {v : Value} {d : DataW H} {ps : List MemPlace} (h : DataW.Trod enc Tryd.prog w 0 (fun _ => true) true 9 v d ps) (hb : Below w.heap.size w w') (hlt : ∀ x ∈ ps, x.block < w.heap.size) :
    DataW.Trod enc Tryd.prog w' 0 (fun b => decide (b < w.heap.size)) true 9 v d ps :=
  Below.trod laidOut recStr rowStr h hb hlt
theorem recNum : Tryd.prog.readableRec 3 = true := by kernel_rfl
theorem rowNum : 3 < Tryd.prog.types.size := of_decide_eq_true (by kernel_rfl)
set_option maxRecDepth 100000 in
/-- An argument that reads as an int. -/
theorem open_num {b0 : Nat} {r : Reach} {v : Value} {d : DataW H} {ps : List MemPlace} (hv : Value.okWide Tryd.prog w r b0 3 v) (h : DataW.Trod enc Tryd.prog w base sp hd 3 v d ps) : ∃ n : Int, v = .int .i64 n ∧ I64 n := by
  obtain ⟨n, rfl⟩ := okWide_int Tryd.underlying3 hv
  obtain ⟨fuel, hf⟩ := h
  obtain ⟨n', e, _, hw⟩ := DataW.trod_int Tryd.underlying3 hf
  simp [Value.cells] at e
  subst e
  exact ⟨n, rfl, i64_of_wf hw⟩
theorem again_num {w' : World} {v : Value} {d : DataW H} {ps : List MemPlace} (h : DataW.Trod enc Tryd.prog w 0 (fun _ => true) true 3 v d ps) (hb : Below w.heap.size w w') (hlt : ∀ x ∈ ps, x.block < w.heap.size) :
    DataW.Trod enc Tryd.prog w' 0 (fun b => decide (b < w.heap.size)) true 3 v d ps :=
  Below.trod laidOut recNum rowNum h hb hlt
end
end Go.Proofs.YtkcckhchlhmhhaaDoor
