/- What At and Put tell, in one shape; what was put is there. -/
import Derived.Test.YtkcckhchlhmhhaaDoorPub
import Derived.Test.YtkcckhchlhmhhaaDoorRAt
namespace Go.Proofs.YtkcckhchlhmhhaaDoor
open Go.RowKit Go.Deep

theorem atF_put : ∀ (ps : List Int) (f g : Fm), (atF f ps).isSome = true → atF (putF ps f g) ps = some g
  | [], f, g, _ => by rw [putF, atF_nil]
  | i :: p, f, g, h => by
    unfold atF at h
    split at h
    · rename_i hk
      have h3 : f.kd = 3 := by
        have h2 := hk.2
        unfold Fm.kids at h2
        by_cases e : f.kd = 3
        · exact e
        · rw [if_neg e] at h2; simp at h2
      have hks : f.kids = f.ks := by unfold Fm.kids; rw [if_pos h3]
      have hl : i.toNat < f.ks.length := by rw [← hks]; exact hk.2
      have he : f.kids[i.toNat]'hk.2 = f.ks[i.toNat] := by simp only [hks]
      rw [he] at h
      have hK : (Fm.mk f.kd f.nn f.tx (f.ks.modify i.toNat fun x => putF p x g)).kids = f.ks.modify i.toNat fun x => putF p x g := by
        unfold Fm.kids
        rw [if_pos (show Fm.kd (Fm.mk f.kd f.nn f.tx (f.ks.modify i.toNat fun x => putF p x g)) = 3 from h3)]
        rfl
      rw [putF, atF, dif_pos (show 0 ≤ i ∧ i.toNat < (Fm.mk f.kd f.nn f.tx (f.ks.modify i.toNat fun x => putF p x g)).kids.length by rw [hK]; simpa using ⟨hk.1, hl⟩)]
      have hg : (Fm.mk f.kd f.nn f.tx (f.ks.modify i.toNat fun x => putF p x g)).kids[i.toNat]'(by rw [hK]; simpa using hl) = putF p f.ks[i.toNat] g := by
        simp only [hK, List.getElem_modify, if_true]
      rw [hg]
      exact atF_put p _ g h
    · simp at h
/-- A form and a code. -/
def Got (w w' : World) (f : Fm) (c : Int) (e : Ending) : Prop := ∃ u : T, e = .returned (.tuple #[u.val, .int .i64 c]) ∧ u.form = f ∧ In w' u ∧ Below w.heap.size w w'
def zeroFm : Fm := .mk 0 0 ⟨#[]⟩ []
def atVal : Option Fm → Fm
  | some f => f
  | none => zeroFm
def atCode : Option Fm → Int
  | some _ => 0
  | none => 3
def pubVal : PR → Fm
  | .ok f => f
  | _ => zeroFm
def pubCode : PR → Int
  | .ok _ => 0
  | .none => 3
  | .lim => 2
theorem Got.zero {w w' : World} {c : Int} {e : Ending} (he : e = .returned (.tuple #[.agg #[.int .i64 0, .int .i64 0, .string ⟨#[]⟩, .slice none 0 0], .int .i64 c])) (hB : Below w.heap.size w w') : Got w w' zeroFm c e :=
  ⟨T.leaf 0 0 ⟨#[]⟩, he, rfl, leaf_in _ _ _ _ (by unfold I64; omega) (by unfold I64; omega) (Nat.zero_le _), hB⟩
theorem got_at {w w' : World} {r : Option Fm} {e : Ending} (h : AtEnd w w' r e) : Got w w' (atVal r) (atCode r) e := by
  cases r with
  | none => exact Got.zero h.1 h.2
  | some f => exact h
theorem got_rat {w w' : World} {r : Option Fm} {e : Ending} (h : RAtEnd w w' r e) : Got w w' (atVal r) (atCode r) e := by
  cases r with
  | none => exact Got.zero h.1 h.2
  | some f => exact h
theorem got_pub {w w' : World} {r : PR} {e : Ending} (h : PubEnd w w' r e) : Got w w' (pubVal r) (pubCode r) e := by
  cases r with
  | none => exact Got.zero h.1 h.2
  | lim => exact Got.zero h.1 h.2
  | ok f => exact h
theorem pubR_ok {f g h : Fm} {ps : List Int} (e : pubR f g ps = .ok h) : h = putF ps f g ∧ (atF f ps).isSome = true := by
  unfold pubR at e
  split at e
  · cases e
  · rename_i x hx
    split at e
    · injection e with e
      exact ⟨e.symm, by rw [hx]; rfl⟩
    · cases e
theorem pubCode_ne {r : PR} (h : ∀ f, r ≠ .ok f) : (pubCode r == 0) = false := by
  cases r with
  | ok f => exact absurd rfl (h f)
  | none => rfl
  | lim => rfl
end Go.Proofs.YtkcckhchlhmhhaaDoor
