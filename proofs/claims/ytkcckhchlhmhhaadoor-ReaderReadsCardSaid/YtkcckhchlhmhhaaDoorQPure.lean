/- What is read has right fields, so only its size and its depth can be wrong. -/
import Derived.Test.YtkcckhchlhmhhaaDoorReadPure
import Derived.Test.YtkcckhchlhmhhaaDoorRef3
namespace Go.Proofs.YtkcckhchlhmhhaaDoor.Q
open Go.RowKit Go.Deep

def FldL (l : List Fm) : Prop := ∀ f ∈ l, fieldsF f = true
def FldO (O : List (List Fm)) (top : List Fm) : Prop := (∀ l ∈ O, FldL l) ∧ FldL top
theorem FldL.snoc {l : List Fm} {f : Fm} (h : FldL l) (hf : fieldsF f = true) : FldL (l ++ [f]) := fun g hg => by
  rcases List.mem_append.1 hg with hg | hg
  · exact h g hg
  · rw [List.mem_singleton.1 hg]; exact hf
theorem fields_leaf {k n : Int} {t : ByteArray} (hk : k ≠ 3) : fieldsF (.mk k n t []) = aloneF (.mk k n t []) := by
  rw [fieldsF_eq]
  unfold Fm.kids
  rw [if_neg (by exact hk)]
  simp [fieldsL]
theorem fields_list {l : List Fm} (h : FldL l) : fieldsF (.mk 3 0 ⟨#[]⟩ l) = true := by
  rw [fieldsF_eq]
  have e : (Fm.mk 3 0 ⟨#[]⟩ l).kids = l := by unfold Fm.kids; simp [Fm.kd, Fm.ks]
  rw [e, fieldsL_all]
  have : l.all fieldsF = true := List.all_eq_true.2 h
  rw [this]
  rfl
theorem allB_list (p : Int → Bool) (l : List UInt8) : allB p ⟨l.toArray⟩ = l.all fun c => p (c.toNat : Int) := by
  unfold allB; simp
theorem mem_while (p : UInt8 → Bool) : ∀ (l : List UInt8) (c : UInt8), c ∈ l.takeWhile p → p c = true
  | [], c, h => by simp at h
  | b :: r, c, h => by
    rw [List.takeWhile_cons] at h
    split at h
    · rename_i hb
      rcases List.mem_cons.1 h with rfl | h
      · exact hb
      · exact mem_while p r c h
    · cases h
theorem tok_fields {s : ByteArray} {pos : Nat} {k n : Int} {t : ByteArray} (h : tokenR (spanB tokB s pos) = .form k n t) (h1 : 1 ≤ (spanB tokB s pos).size) : fieldsF (.mk k n t []) = true := by
  have hall : allB tokB (spanB tokB s pos) = true := by
    unfold spanB
    rw [allB_list, List.all_eq_true]
    intro c hc
    unfold spanL at hc
    exact mem_while _ _ _ hc
  unfold tokenR at h
  split at h
  · rename_i hn
    split at h
    · cases h
    · rename_i h30
      injection h with e1 e2 e3
      subst e1 e2 e3
      rw [fields_leaf (by omega)]
      unfold aloneF wordB
      simp only [Fm.kd, Fm.nn, Fm.tx, Fm.ks]
      rw [hall, hn]
      have h31 : (spanB tokB s pos).size ≤ 30 := by omega
      simp [h1, h31]
  · split at h
    · cases h
    · split at h
      · split at h
        · rename_i v _ hr
          injection h with e1 e2 e3
          subst e1 e2 e3
          rw [fields_leaf (by omega)]
          unfold aloneF
          simp only [Fm.kd, Fm.nn, Fm.tx, Fm.ks]
          rw [hr]
          rfl
        · cases h
      · cases h
theorem un_txt {c : UInt8} (h : unOk (c.toNat : Int) = true) : txtB ((unB c).toNat : Int) = true := by
  unfold unOk at h
  simp only [Bool.or_eq_true, beq_iff_eq] at h
  have inj : ∀ n : UInt8, (c.toNat : Int) = (n.toNat : Int) → c = n := fun n e => UInt8.toNat_inj.1 (Int.ofNat.inj e)
  rcases h with (h | h) | h
  · obtain rfl := inj 34 h; rfl
  · obtain rfl := inj 92 h; rfl
  · obtain rfl := inj 110 h; rfl
theorem txt_bytes : ∀ (n : Nat) (l : List UInt8), l.length ≤ n → ∀ {bs : List UInt8} {k : Nat}, txtL l = .done bs k → ∀ c ∈ bs, txtB (c.toNat : Int) = true := by
  intro n
  induction n with
  | zero =>
    intro l hl bs k h
    cases l with
    | nil => rw [txtL] at h; cases h
    | cons b r => simp at hl
  | succ n ih =>
    intro l hl bs k h
    cases l with
    | nil => rw [txtL] at h; cases h
    | cons b r =>
      rw [txtL_cons] at h
      have pre : ∀ (t : TX) (a : List UInt8) (j : Nat), t.pre a j = .done bs k → ∃ bs' k', t = .done bs' k' ∧ bs = a ++ bs' := by
        intro t a j ht
        cases t with
        | err e => cases ht
        | done bs' k' => simp only [TX.pre, TX.done.injEq] at ht; exact ⟨bs', k', rfl, ht.1.symm⟩
      simp only [List.length_cons] at hl
      split at h
      · injection h with e1 _
        subst e1
        intro c hc; cases hc
      · split at h
        · cases r with
          | nil => cases h
          | cons c r' =>
            simp only at h
            split at h
            · rename_i hu
              obtain ⟨bs', k', ht, rfl⟩ := pre _ _ _ h
              simp only [List.length_cons] at hl
              have := ih r' (by omega) ht
              intro x hx
              rcases List.mem_cons.1 hx with rfl | hx
              · exact un_txt hu
              · exact this x hx
            · cases h
        · split at h
          · rename_i hp
            obtain ⟨bs', k', ht, rfl⟩ := pre _ _ _ h
            have := ih r (by omega) ht
            intro x hx
            rcases List.mem_cons.1 hx with rfl | hx
            · unfold txtB
              rcases hp with hp | hp
              · rw [hp]; rfl
              · rw [hp]; simp
            · exact this x hx
          · cases h
theorem stepS_fields {s : ByteArray} {pos : Nat} {O : List (List Fm)} {top : List Fm} {tight : Bool} (hpos : pos < s.size) (hf : FldO O top) {q : Nat} {O' : List (List Fm)} {top' : List Fm} {t' : Bool}
    (h : stepS s pos s[pos].toNat O top tight = .ok q O' top' t') : FldO O' top' := by
  unfold stepS at h
  split at h
  · injection h with e1 e2 e3 e4
    subst e2 e3; exact hf
  · split at h
    · injection h with e1 e2 e3 e4
      subst e2 e3; exact hf
    · split at h
      · injection h with e1 e2 e3 e4
        subst e2 e3
        refine ⟨fun l hl => ?_, fun f hf => by cases hf⟩
        rcases List.mem_append.1 hl with hl | hl
        · exact hf.1 l hl
        · rw [List.mem_singleton.1 hl]; exact hf.2
      · split at h
        · unfold closeS at h
          split at h
          · cases h
          · rename_i l hl
            injection h with e1 e2 e3 e4
            subst e2 e3
            exact ⟨fun x hx => hf.1 x ((List.dropLast_sublist O).subset hx), (hf.1 l (List.mem_of_getLast? hl)).snoc (fields_list hf.2)⟩
        · split at h
          · cases h
          · split at h
            · cases h
            · rename_i hb59 hbl hb40 hb41 hpl htight
              split at h
              · unfold textS at h
                split at h
                · cases h
                · rename_i bs n htx
                  split at h
                  · cases h
                  · rename_i h2000
                    injection h with e1 e2 e3 e4
                    subst e2 e3
                    refine ⟨hf.1, hf.2.snoc ?_⟩
                    rw [fields_leaf (by omega)]
                    have ht : textB ⟨bs.toArray⟩ = true := by
                      unfold textB
                      rw [allB_list, Bool.and_eq_true]
                      exact ⟨by simpa using Nat.le_of_not_lt h2000, List.all_eq_true.2 fun c hc => txt_bytes _ _ (Nat.le_refl _) htx c hc⟩
                    unfold aloneF
                    simp only [Fm.kd, Fm.nn, Fm.tx, Fm.ks]
                    rw [ht]
                    rfl
              · rename_i hb34
                unfold tokS at h
                split at h
                · cases h
                · rename_i k n t htk
                  injection h with e1 e2 e3 e4
                  subst e2 e3
                  refine ⟨hf.1, hf.2.snoc (tok_fields htk ?_)⟩
                  have h2 := span_pos tokB s pos hpos (by
                    have hp : plainB (s[pos].toNat : Int) = true := by cases h : plainB (s[pos].toNat : Int) with
                                                                       | true => rfl
                                                                       | false => exact absurd h hpl
                    unfold tokB; rw [hp]; simp; omega)
                  rw [← spanB_size] at h2
                  exact h2
/-- Only the size and the depth can be wrong. -/
theorem all_small {top : List Fm} (h : FldL top) : top.all validF = top.all smallF := by
  rw [Bool.eq_iff_iff, List.all_eq_true, List.all_eq_true]
  refine forall_congr' fun f => ⟨fun k hf => ?_, fun k hf => ?_⟩
  · have := k hf; rw [valid_small, h f hf, Bool.true_and] at this; exact this
  · rw [valid_small, h f hf, Bool.true_and]; exact k hf
end Go.Proofs.YtkcckhchlhmhhaaDoor.Q
