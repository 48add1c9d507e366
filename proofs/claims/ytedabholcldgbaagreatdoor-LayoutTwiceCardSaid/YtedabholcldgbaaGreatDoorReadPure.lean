/- Reading, as plain data; what one step leaves is bounded by the place. -/
import Derived.Test.YtedabholcldgbaaGreatDoorStepLem
namespace Go.Proofs.YtedabholcldgbaaGreatDoor
open Go.RowKit Go.Deep

theorem szL_append (a b : List Fm) : szL (a ++ b) = szL a + szL b := by
  induction a with
  | nil => simp [szL]
  | cons x a ih => simp only [List.cons_append, szL, ih]; omega
theorem szF_leaf (k n : Int) (t : ByteArray) : szF (.mk k n t []) = 1 := by
  rw [szF_eq]; unfold Fm.kids; by_cases h : k = 3 <;> simp [Fm.kd, Fm.ks, h, szL]
theorem szF_list (n : Int) (t : ByteArray) (l : List Fm) : szF (.mk 3 n t l) = 1 + szL l := by
  rw [szF_eq]; unfold Fm.kids; simp [Fm.kd, Fm.ks]
theorem szF_pos (f : Fm) : 1 ≤ szF f := by rw [szF_eq]; omega
theorem szL_len (l : List Fm) : l.length ≤ szL l := by
  induction l with
  | nil => simp [szL]
  | cons f l ih => have := szF_pos f; simp only [List.length_cons, szL]; omega
def szO (O : List (List Fm)) : Nat := (O.map fun l => 1 + szL l).sum
theorem szO_append (a b : List (List Fm)) : szO (a ++ b) = szO a + szO b := by simp [szO]
theorem szO_one (l : List Fm) : szO [l] = 1 + szL l := by simp [szO]
/-- All that was read, and the open lists. -/
def tot (O : List (List Fm)) (top : List Fm) : Nat := szO O + szL top
theorem szO_mem {O : List (List Fm)} {l : List Fm} (h : l ∈ O) : 1 + szL l ≤ szO O := by
  induction O with
  | nil => cases h
  | cons a O ih =>
    have e : szO (a :: O) = 1 + szL a + szO O := by simp [szO]
    rw [e]
    rcases List.mem_cons.1 h with rfl | h
    · omega
    · have := ih h; omega
theorem szO_len (O : List (List Fm)) : O.length ≤ szO O := by
  induction O with
  | nil => simp [szO]
  | cons a O ih =>
    have e : szO (a :: O) = 1 + szL a + szO O := by simp [szO]
    rw [e]; simp only [List.length_cons]; omega
theorem tot_bounds {O : List (List Fm)} {top : List Fm} {n : Nat} (h : tot O top ≤ n) : O.length ≤ n ∧ top.length ≤ n ∧ ∀ l ∈ O, l.length ≤ n := by
  unfold tot at h
  refine ⟨by have := szO_len O; omega, by have := szL_len top; omega, fun l hl => by have := szO_mem hl; have := szL_len l; omega⟩

theorem txtL_used : ∀ (n : Nat) (l : List UInt8), l.length ≤ n → ∀ {bs : List UInt8} {k : Nat}, txtL l = .done bs k → 1 ≤ k ∧ k ≤ l.length := by
  intro n
  induction n with
  | zero =>
    intro l hl bs k h
    cases l with
    | nil => rw [txtL] at h; cases h
    | cons b r => simp at hl
  | succ n ih =>
    intro l hl bs k h
    cases l with
    | nil => rw [txtL] at h; cases h
    | cons b r =>
      rw [txtL_cons] at h
      have pre : ∀ (t : TX) (a : List UInt8) (j : Nat), t.pre a j = .done bs k → ∃ bs' k', t = .done bs' k' ∧ k = j + k' := by
        intro t a j ht
        cases t with
        | err e => cases ht
        | done bs' k' => simp only [TX.pre, TX.done.injEq] at ht; exact ⟨bs', k', rfl, ht.2.symm⟩
      simp only [List.length_cons] at hl ⊢
      split at h
      · cases h; omega
      · split at h
        · cases r with
          | nil => cases h
          | cons c r' =>
            simp only at h
            split at h
            · obtain ⟨bs', k', ht, rfl⟩ := pre _ _ _ h
              simp only [List.length_cons] at hl ⊢
              have := ih r' (by omega) ht
              omega
            · cases h
        · split at h
          · obtain ⟨bs', k', ht, rfl⟩ := pre _ _ _ h
            have := ih r (by omega) ht
            omega
          · cases h
theorem span_le (p : Int → Bool) (s : ByteArray) (pos : Nat) (h : pos ≤ s.size) : pos + (spanL p (s.data.toList.drop pos)).length ≤ s.size := by
  have h1 : (spanL p (s.data.toList.drop pos)).length ≤ (s.data.toList.drop pos).length := List.Sublist.length_le (List.takeWhile_sublist _)
  have h2 : s.data.toList.length = s.size := by simp
  rw [List.length_drop] at h1
  omega
theorem span_pos (p : Int → Bool) (s : ByteArray) (pos : Nat) (h : pos < s.size) (hp : p (s[pos].toNat : Int) = true) : 1 ≤ (spanL p (s.data.toList.drop pos)).length := by
  rw [drop_byte h]
  unfold spanL
  rw [List.takeWhile_cons, if_pos hp]
  simp
theorem stepS_bound {s : ByteArray} {pos : Nat} {O : List (List Fm)} {top : List Fm} {tight : Bool} (hpos : pos < s.size) (ht : tot O top ≤ pos) {q : Nat} {O' : List (List Fm)} {top' : List Fm} {t' : Bool}
    (h : stepS s pos s[pos].toNat O top tight = .ok q O' top' t') : pos < q ∧ q ≤ s.size ∧ tot O' top' ≤ q := by
  unfold stepS at h
  have one : ∀ f : Fm, szL [f] = szF f := fun f => by simp [szL]
  split at h
  · rename_i hb
    injection h with e1 e2 e3 e4
    subst e1 e2 e3
    have h1 := span_le nnlB s pos (by omega)
    have h2 := span_pos nnlB s pos hpos (by rw [hb]; rfl)
    exact ⟨by omega, h1, by omega⟩
  · split at h
    · injection h with e1 e2 e3 e4
      subst e1 e2 e3
      exact ⟨by omega, by omega, by omega⟩
    · split at h
      · injection h with e1 e2 e3 e4
        subst e1 e2 e3
        refine ⟨by omega, by omega, ?_⟩
        unfold tot at *
        rw [szO_append, szO_one]; simp only [szL]; omega
      · split at h
        · unfold closeS at h
          split at h
          · cases h
          · rename_i l hl
            injection h with e1 e2 e3 e4
            subst e1 e2 e3
            have hO : O = O.dropLast ++ [l] := by
              rcases List.eq_nil_or_concat O with rfl | ⟨O0, l0, rfl⟩
              · cases hl
              · simp at hl; subst hl; simp
            refine ⟨by omega, by omega, ?_⟩
            unfold tot at *
            rw [hO, szO_append, szO_one] at ht
            rw [szL_append, one, szF_list]
            omega
        · split at h
          · cases h
          · split at h
            · cases h
            · rename_i hb59 hbl hb40 hb41 hpl htight
              split at h
              · unfold textS at h
                split at h
                · cases h
                · rename_i bs n htx
                  split at h
                  · cases h
                  · injection h with e1 e2 e3 e4
                    subst e1 e2 e3
                    have hu := txtL_used _ _ (Nat.le_refl _) htx
                    have hl : (s.data.toList.drop (pos + 1)).length = s.size - (pos + 1) := by simp
                    rw [hl] at hu
                    refine ⟨by omega, by omega, ?_⟩
                    unfold tot at *
                    rw [szL_append, one, szF_leaf]; omega
              · rename_i hb34
                unfold tokS at h
                split at h
                · cases h
                · rename_i k n t htk
                  injection h with e1 e2 e3 e4
                  subst e1 e2 e3
                  have h1 := span_le tokB s pos (by omega)
                  have h2 := span_pos tokB s pos hpos (by
                    have hp : plainB (s[pos].toNat : Int) = true := by cases h : plainB (s[pos].toNat : Int) with
                                                                       | true => rfl
                                                                       | false => exact absurd h hpl
                    unfold tokB; rw [hp]; simp; omega)
                  rw [← spanB_size] at h1 h2
                  refine ⟨by omega, h1, ?_⟩
                  unfold tot at *
                  rw [szL_append, one, szF_leaf]; omega

inductive RR where
  | err (e : Int)
  | ok (O : List (List Fm)) (top : List Fm)
/-- The steps, one behind the other. -/
def loopS (s : ByteArray) : Nat → Nat → List (List Fm) → List Fm → Bool → RR
  | 0, _, _, _, _ => .err 0
  | k + 1, pos, O, top, tight => if h : pos < s.size then (match stepS s pos s[pos].toNat O top tight with
      | .err c => .err c
      | .ok q O' top' t' => loopS s k q O' top' t') else .ok O top
inductive RD where
  | err (e : Int)
  | ok (fs : List Fm)
theorem loopS_err {s : ByteArray} {k pos : Nat} {O : List (List Fm)} {top : List Fm} {tight : Bool} (h : pos < s.size) {c : Int} (hc : stepS s pos s[pos].toNat O top tight = .err c) : loopS s (k + 1) pos O top tight = .err c := by
  rw [loopS, dif_pos h, hc]
theorem loopS_ok {s : ByteArray} {k pos : Nat} {O : List (List Fm)} {top : List Fm} {tight : Bool} (h : pos < s.size) {q : Nat} {O' : List (List Fm)} {top' : List Fm} {t' : Bool} (hc : stepS s pos s[pos].toNat O top tight = .ok q O' top' t') :
    loopS s (k + 1) pos O top tight = loopS s k q O' top' t' := by
  rw [loopS, dif_pos h, hc]
theorem loopS_end {s : ByteArray} {k pos : Nat} {O : List (List Fm)} {top : List Fm} {tight : Bool} (h : ¬ pos < s.size) : loopS s (k + 1) pos O top tight = .ok O top := by
  rw [loopS, dif_neg h]
def readDone : RR → RD
  | .err c => .err c
  | .ok O top => if O ≠ [] then .err 12 else if top.all validF = true then .ok top else .err 2
/-- What a text is read as. -/
def readR (s : ByteArray) : RD :=
  if 60000 < s.size then .err 2 else readDone (loopS s (s.size + 1) 0 [] [] false)
theorem stepS_err {s : ByteArray} {pos b : Nat} {O : List (List Fm)} {top : List Fm} {tight : Bool} {c : Int} (h : stepS s pos b O top tight = .err c) : c = 4 ∨ c = 5 ∨ c = 12 := by
  unfold stepS at h
  have htx : ∀ (n : Nat) (l : List UInt8), l.length ≤ n → ∀ c, txtL l = .err c → c = 4 ∨ c = 5 ∨ c = 12 := by
    intro n
    induction n with
    | zero =>
      intro l hl c h
      cases l with
      | nil => rw [txtL] at h; cases h; exact .inr (.inr rfl)
      | cons b r => simp at hl
    | succ n ih =>
      intro l hl c h
      have pre : ∀ (t : TX) (a : List UInt8) (j : Nat), t.pre a j = .err c → t = .err c := by
        intro t a j ht
        cases t with
        | err e => exact ht
        | done bs' k' => cases ht
      cases l with
      | nil => rw [txtL] at h; cases h; exact .inr (.inr rfl)
      | cons b r =>
        rw [txtL_cons] at h
        simp only [List.length_cons] at hl
        split at h
        · cases h
        · split at h
          · cases r with
            | nil => cases h; exact .inr (.inr rfl)
            | cons c' r' =>
              simp only at h
              split at h
              · simp only [List.length_cons] at hl
                exact ih r' (by omega) _ (pre _ _ _ h)
              · cases h; exact .inl rfl
          · split at h
            · exact ih r (by omega) _ (pre _ _ _ h)
            · cases h; exact .inl rfl
  split at h
  · cases h
  · split at h
    · cases h
    · split at h
      · cases h
      · split at h
        · unfold closeS at h
          split at h
          · cases h; exact .inl rfl
          · cases h
        · split at h
          · cases h; exact .inl rfl
          · split at h
            · cases h; exact .inl rfl
            · split at h
              · unfold textS at h
                split at h
                · rename_i c' hc
                  injection h with e
                  subst e
                  exact htx _ _ (Nat.le_refl _) _ hc
                · split at h
                  · cases h; exact .inl rfl
                  · cases h
              · unfold tokS at h
                split at h
                · rename_i c' hc
                  injection h with e
                  subst e
                  rcases tokenR_err hc with e | e
                  · exact .inl e
                  · exact .inr (.inl e)
                · cases h
end Go.Proofs.YtedabholcldgbaaGreatDoor
