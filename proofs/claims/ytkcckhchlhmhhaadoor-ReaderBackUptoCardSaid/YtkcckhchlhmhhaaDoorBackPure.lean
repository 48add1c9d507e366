/- ReaderBack: what the loops gather. Plain. -/
import Derived.Test.YtkcckhchlhmhhaaDoorRound
import Derived.Test.YtkcckhchlhmhhaaDoorWriteAll
namespace Go.Proofs.YtkcckhchlhmhhaaDoor
open Go.RowKit Go.Deep

/-- The valid forms of the first k. -/
def vld (ts : List T) (k : Nat) : List T := (ts.take k).filter fun t => validF t.form
theorem vld_yes {ts : List T} {k : Nat} (h : k < ts.length) (hv : validF ts[k].form = true) : vld ts (k + 1) = vld ts k ++ [ts[k]] := by
  unfold vld
  rw [List.take_succ_eq_append_getElem h, List.filter_append]
  simp [hv]
theorem vld_no {ts : List T} {k : Nat} (h : k < ts.length) (hv : validF ts[k].form = false) : vld ts (k + 1) = vld ts k := by
  unfold vld
  rw [List.take_succ_eq_append_getElem h, List.filter_append]
  simp [hv]
theorem vld_mem {ts : List T} {k : Nat} : ∀ t ∈ vld ts k, t ∈ ts ∧ validF t.form = true := fun t h => by
  unfold vld at h
  obtain ⟨h1, h2⟩ := List.mem_filter.1 h
  exact ⟨List.mem_of_mem_take h1, h2⟩
theorem vld_len (ts : List T) (k : Nat) : (vld ts k).length ≤ ts.length := by
  unfold vld
  have h1 := List.length_filter_le (fun t : T => validF t.form) (ts.take k)
  have h2 := List.length_take_le' k ts
  omega
theorem vld_sz (ts : List T) (k : Nat) : szL ((vld ts k).map T.form) ≤ szL (ts.map T.form) := by
  have key : ∀ l : List T, szL ((l.filter fun t => validF t.form).map T.form) ≤ szL (l.map T.form) := by
    intro l
    induction l with
    | nil => simp
    | cons x l ih =>
      rw [List.filter_cons]
      split
      · simp only [List.map_cons, szL]; omega
      · simp only [List.map_cons, szL]; omega
  have h1 := key (ts.take k)
  have h2 := szL_takes (ts.map T.form) k
  rw [← List.map_take] at h2
  unfold vld
  omega
theorem wAllG_valid {fs : List Fm} (h : ∀ f ∈ fs, validF f = true) : wAllG fs = wAll fs := by
  induction fs with
  | nil => rfl
  | cons f fs ih =>
    have e1 : wAllG (f :: fs) = wrF f ++ [10] ++ wAllG fs := by simp [wAllG]
    have e2 : wAll (f :: fs) = txF f ++ [10] ++ wAll fs := by simp [wAll]
    rw [e1, e2, wrF_yes (h f (by simp)), ih fun g hg => h g (by simp [hg])]
theorem wMix_len : ∀ fs : List Fm, (wMix fs).length = (wAll fs).length + 5 * fs.length
  | [] => rfl
  | f :: fs => by
    have e1 : wMix (f :: fs) = 9 :: (txF f ++ [32, 59, 34, 10, 10]) ++ wMix fs := by simp [wMix]
    have e2 : wAll (f :: fs) = txF f ++ [10] ++ wAll fs := by simp [wAll]
    rw [e1, e2]
    simp only [List.length_append, List.length_cons, List.length_nil, wMix_len fs]
    omega
theorem wMix_next (us : List T) (k : Nat) (h : k < us.length) : wMix ((us.take (k + 1)).map T.form) = wMix ((us.take k).map T.form) ++ 9 :: (txF us[k].form ++ [32, 59, 34, 10, 10]) := by
  rw [List.take_succ_eq_append_getElem h]
  simp only [wMix, List.map_append, List.flatMap_append, List.map_cons, List.map_nil, List.flatMap_cons, List.flatMap_nil, List.append_nil]
theorem wMix_take (us : List T) (k : Nat) : (wMix ((us.take k).map T.form)).length ≤ (wMix (us.map T.form)).length := by
  have key : ∀ (l : List Fm) (k : Nat), (wMix (l.take k)).length ≤ (wMix l).length := by
    intro l
    induction l with
    | nil => intro k; simp
    | cons f l ih =>
      intro k
      cases k with
      | zero => simp [wMix]
      | succ k =>
        have := ih k
        have e : ∀ x, wMix (f :: x) = 9 :: (txF f ++ [32, 59, 34, 10, 10]) ++ wMix x := fun x => by simp [wMix]
        rw [List.take_succ_cons, e, e]
        simp only [List.length_append]
        omega
  have := key (us.map T.form) k
  rwa [← List.map_take] at this
theorem mix_data {dk dw : ByteArray} {us : List T} {k : Nat} (h : k < us.length) (hd : dk.data.toList = [32, 59, 32, 40, 10] ++ wMix ((us.take k).map T.form)) (hw : dw.data.toList = txF us[k].form) :
    (dk ++ ⟨#[9]⟩ ++ dw ++ ⟨#[32, 59, 34, 10, 10]⟩).data.toList = [32, 59, 32, 40, 10] ++ wMix ((us.take (k + 1)).map T.form) := by
  rw [wMix_next us k h]
  simp [hd, hw]
end Go.Proofs.YtkcckhchlhmhhaaDoor
