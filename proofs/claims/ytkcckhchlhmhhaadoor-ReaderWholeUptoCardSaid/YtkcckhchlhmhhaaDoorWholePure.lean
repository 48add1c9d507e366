/- A part is no larger and no deeper; a form with its own part put in is itself. Plain. -/
import Derived.Test.YtkcckhchlhmhhaaDoorPut0
namespace Go.Proofs.YtkcckhchlhmhhaaDoor
open Go.RowKit

theorem szL_mem {l : List Fm} {f : Fm} (h : f ∈ l) : szF f ≤ szL l := szL_le h
theorem dpL_mem {l : List Fm} {f : Fm} (h : f ∈ l) : dpF f ≤ dpL l := by
  induction l with
  | nil => cases h
  | cons g l ih =>
    simp only [dpL]
    rcases List.mem_cons.1 h with rfl | h
    · omega
    · have := ih h; omega
theorem atF_le : ∀ (p : List Int) (f g : Fm), atF f p = some g → szF g ≤ szF f ∧ dpF g ≤ dpF f
  | [], f, g, h => by
    rw [atF_nil] at h
    injection h with h
    subst h
    exact ⟨Nat.le_refl _, Nat.le_refl _⟩
  | i :: p, f, g, h => by
    unfold atF at h
    split at h
    · rename_i hk
      obtain ⟨h1, h2⟩ := atF_le p _ g h
      have hm := List.getElem_mem hk.2
      have h3 := szL_mem hm
      have h4 := dpL_mem hm
      rw [szF_eq f, dpF_eq f]
      omega
    · cases h
theorem putF_at : ∀ (p : List Int) (f g : Fm), atF f p = some g → putF p f g = f
  | [], f, g, h => by
    rw [atF_nil] at h
    injection h with h
    rw [putF, h]
  | i :: p, f, g, h => by
    unfold atF at h
    split at h
    · rename_i hk
      have h1 := putF_at p _ g h
      have h3 : f.kd = 3 := by
        have h2 := hk.2
        unfold Fm.kids at h2
        by_cases e : f.kd = 3
        · exact e
        · rw [if_neg e] at h2; simp at h2
      have hks : f.kids = f.ks := by unfold Fm.kids; rw [if_pos h3]
      have hl : i.toNat < f.ks.length := by rw [← hks]; exact hk.2
      have he : f.kids[i.toNat]'hk.2 = f.ks[i.toNat] := by simp only [hks]
      rw [he] at h1
      rw [putF]
      have : f.ks.modify i.toNat (fun x => putF p x g) = f.ks := by
        apply List.ext_getElem?
        intro j
        rw [List.getElem?_modify]
        by_cases e : i.toNat = j
        · subst e
          rw [List.getElem?_eq_getElem hl]
          simp [h1]
        · simp [e]
      rw [this]
      cases f; rfl
    · cases h
end Go.Proofs.YtkcckhchlhmhhaaDoor
