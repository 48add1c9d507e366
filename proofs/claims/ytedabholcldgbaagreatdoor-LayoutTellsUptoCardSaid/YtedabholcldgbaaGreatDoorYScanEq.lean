/- The reader's steps and the document's own walk over a text go together. Plain. -/
import Derived.Test.YtedabholcldgbaaGreatDoorReadPure
import Derived.Test.YtedabholcldgbaaGreatDoorYPast
namespace Go.Proofs.YtedabholcldgbaaGreatDoor.Y
open Go.RowKit Go.Deep

theorem txt_qt (m : Nat) : ∀ (l : List UInt8), l.length ≤ m → ∀ {bs : List UInt8} {n : Nat}, txtL l = .done bs n → n = qtF l + 1 := by
  induction m with
  | zero =>
    intro l hl bs n h
    have e : l = [] := List.length_eq_zero_iff.1 (by omega)
    subst e
    rw [txtL] at h; cases h
  | succ m ih =>
    intro l hl bs n h
    cases l with
    | nil => rw [txtL] at h; cases h
    | cons b r =>
      simp only [List.length_cons] at hl
      rw [txtL_cons] at h
      rw [qtF]
      have pre : ∀ (t : TX) (a : List UInt8) (j : Nat), t.pre a j = .done bs n → ∃ bs' k', t = .done bs' k' ∧ n = j + k' := by
        intro t a j ht
        cases t with
        | err e => cases ht
        | done bs' k' => simp only [TX.pre, TX.done.injEq] at ht; exact ⟨bs', k', rfl, ht.2.symm⟩
      split at h
      · rename_i hb
        rw [if_pos hb]
        cases h; rfl
      · rename_i hb
        rw [if_neg hb]
        split at h
        · rename_i hb2
          rw [if_pos hb2]
          cases r with
          | nil => cases h
          | cons c r' =>
            simp only at h
            split at h
            · obtain ⟨bs', k', ht, rfl⟩ := pre _ _ _ h
              simp only [List.length_cons] at hl
              have := ih r' (by omega) ht
              simp only [List.drop_succ_cons, List.drop_zero]
              omega
            · cases h
        · rename_i hb2
          rw [if_neg hb2]
          split at h
          · obtain ⟨bs', k', ht, rfl⟩ := pre _ _ _ h
            have := ih r (by omega) ht
            omega
          · cases h
theorem nnl_end : ∀ l : List UInt8, (spanL nnlB l).length = endF l
  | [] => by simp [spanL, endF]
  | b :: r => by
    have := nnl_end r
    unfold spanL at this ⊢
    rw [List.takeWhile_cons, endF]
    by_cases h : b.toNat = 10
    · rw [if_neg (by simp [nnlB]; omega), if_pos h]; rfl
    · rw [if_pos (by simp [nnlB]; omega), if_neg h, List.length_cons, this]
theorem tok_is_oth {b : Int} (h : tokB b = true) : othB b = true := by
  unfold tokB plainB at h
  unfold othB blankB
  simp only [Bool.and_eq_true, bne_iff_ne, ne_eq, decide_eq_true_eq] at h
  simp only [Bool.and_eq_true, bne_iff_ne, ne_eq, Bool.not_eq_true', Bool.or_eq_false_iff, beq_eq_false_iff_ne]
  omega
theorem oth_no {b : Int} (ht : tokB b = false) (h : blankB b = true ∨ plainB b = true) : othB b = false := by
  unfold othB
  rcases h with h | h
  · rw [h]; rfl
  · unfold tokB at ht
    rw [h] at ht
    cases hbb : blankB b with
    | true => rfl
    | false => simpa using ht
theorem tok_oth : ∀ l : List UInt8, (∀ c, (l.drop (spanL tokB l).length).head? = some c → othB (c.toNat : Int) = false) → (spanL tokB l).length = othF l
  | [], _ => by simp [spanL, othF]
  | b :: r, h => by
    unfold spanL at h ⊢
    rw [List.takeWhile_cons] at h ⊢
    rw [othF]
    cases hb : tokB (b.toNat : Int) with
    | true =>
      rw [hb] at h
      simp only [if_true, List.length_cons, List.drop_succ_cons] at h ⊢
      rw [if_pos (tok_is_oth hb)]
      have := tok_oth r h
      unfold spanL at this
      rw [this]
    | false =>
      rw [hb] at h
      simp only [Bool.false_eq_true, if_false, List.length_nil, List.drop_zero] at h ⊢
      rw [if_neg (by rw [h b rfl]; simp)]
theorem span_stop (p : Int → Bool) : ∀ (l : List UInt8) {c : UInt8}, (l.drop (spanL p l).length).head? = some c → p (c.toNat : Int) = false
  | [], c, h => by simp [spanL] at h
  | b :: r, c, h => by
    unfold spanL at h
    rw [List.takeWhile_cons] at h
    cases hb : p (b.toNat : Int) with
    | true =>
      rw [hb] at h
      simp only [if_true, List.length_cons, List.drop_succ_cons] at h
      exact span_stop p r (by unfold spanL; exact h)
    | false =>
      rw [hb] at h
      simp at h
      subst h
      exact hb
/-- A byte at which a step succeeds. -/
theorem step_byte {s : ByteArray} {pos b : Nat} {O : List (List Fm)} {top : List Fm} {t : Bool} {q : Nat} {O' : List (List Fm)} {top' : List Fm} {t' : Bool} (h : stepS s pos b O top t = .ok q O' top' t') : blankB (b : Int) = true ∨ plainB (b : Int) = true := by
  unfold stepS at h
  by_cases h59 : b = 59
  · subst h59; exact .inr (by decide)
  · rw [if_neg h59] at h
    cases hb : blankB (b : Int) with
    | true => exact .inl rfl
    | false =>
      rw [hb] at h
      rw [if_neg (by simp)] at h
      by_cases h40 : b = 40
      · subst h40; exact .inr (by decide)
      · rw [if_neg h40] at h
        by_cases h41 : b = 41
        · subst h41; exact .inr (by decide)
        · rw [if_neg h41] at h
          cases hp : plainB (b : Int) with
          | true => exact .inr rfl
          | false => rw [hp] at h; rw [if_pos rfl] at h; cases h
theorem loop_byte {s : ByteArray} {k pos : Nat} {O : List (List Fm)} {top : List Fm} {t : Bool} {F : List (List Fm)} {G : List Fm} (h : loopS s (k + 1) pos O top t = .ok F G) (hp : pos < s.size) : blankB (s[pos].toNat : Int) = true ∨ plainB (s[pos].toNat : Int) = true := by
  rw [loopS, dif_pos hp] at h
  cases hs : stepS s pos s[pos].toNat O top t with
  | err c => rw [hs] at h; cases h
  | ok q O' top' t' => exact step_byte hs
/-- What a step does to the open lists. -/
def Goes (O : List (List Fm)) (top : List Fm) (O' : List (List Fm)) (top' : List Fm) : Prop :=
  (O' = O ∧ (top' = top ∨ ∃ f, top' = top ++ [f])) ∨ (O' = O ++ [top] ∧ top' = []) ∨ ∃ l f, O = O' ++ [l] ∧ top' = l ++ [f]
theorem step_goes {s : ByteArray} {pos : Nat} {O : List (List Fm)} {top : List Fm} {t : Bool} {q : Nat} {O' : List (List Fm)} {top' : List Fm} {t' : Bool} (hp : pos < s.size) (h : stepS s pos s[pos].toNat O top t = .ok q O' top' t')
    (hn : ∀ hq : q < s.size, blankB (s[q].toNat : Int) = true ∨ plainB (s[q].toNat : Int) = true) :
    q = pos + stC s[pos] (s.data.toList.drop (pos + 1)) ∧ (O'.length : Int) = stD s[pos] O.length ∧ Goes O top O' top' ∧ (blankB (s[pos].toNat : Int) = false → s[pos].toNat ≠ 59 → O = [] → O' = [] → ∃ f, top' = top ++ [f]) := by
  have hdp := drop_byte' s pos hp
  unfold stepS at h
  by_cases h59 : s[pos].toNat = 59
  · rw [if_pos h59] at h
    injection h with e1 e2 e3 e4
    subst e1 e2 e3
    refine ⟨?_, by unfold stD; rw [if_neg (by omega), if_neg (by omega)], .inl ⟨rfl, .inl rfl⟩, fun _ h => absurd h59 h⟩
    rw [nnl_end, hdp, endF, if_neg (by omega)]
    unfold stC
    rw [if_neg (by omega), if_pos h59]
  · rw [if_neg h59] at h
    by_cases hb : blankB (s[pos].toNat : Int) = true
    · rw [if_pos hb] at h
      injection h with e1 e2 e3 e4
      subst e1 e2 e3
      have hne : s[pos].toNat ≠ 34 ∧ s[pos].toNat ≠ 40 ∧ s[pos].toNat ≠ 41 := by
        unfold blankB at hb
        simp only [Bool.or_eq_true, beq_iff_eq] at hb
        omega
      refine ⟨?_, by unfold stD; rw [if_neg hne.2.1, if_neg hne.2.2], .inl ⟨rfl, .inl rfl⟩, fun h => by rw [hb] at h; cases h⟩
      unfold stC
      rw [if_neg hne.1, if_neg h59, if_pos (.inr (.inr hb))]
    · rw [if_neg hb] at h
      by_cases h40 : s[pos].toNat = 40
      · rw [if_pos h40] at h
        injection h with e1 e2 e3 e4
        subst e1 e2 e3
        refine ⟨?_, by unfold stD; rw [if_pos h40]; simp, .inr (.inl ⟨rfl, rfl⟩), fun _ _ _ h => by simp at h⟩
        unfold stC
        rw [if_neg (by omega), if_neg h59, if_pos (.inl h40)]
      · rw [if_neg h40] at h
        by_cases h41 : s[pos].toNat = 41
        · rw [if_pos h41] at h
          unfold closeS at h
          cases hl : O.getLast? with
          | none => rw [hl] at h; cases h
          | some l =>
            rw [hl] at h
            injection h with e1 e2 e3 e4
            subst e1 e2 e3
            have hO : O = O.dropLast ++ [l] := by
              rcases List.eq_nil_or_concat O with rfl | ⟨O0, l0, rfl⟩
              · cases hl
              · simp at hl; subst hl; simp
            refine ⟨?_, ?_, .inr (.inr ⟨l, _, hO, rfl⟩), fun _ _ h => by rw [h] at hl; cases hl⟩
            · unfold stC
              rw [if_neg (by omega), if_neg h59, if_pos (.inr (.inl h41))]
            · unfold stD
              rw [if_neg h40, if_pos h41]
              have : O.length = O.dropLast.length + 1 := by
                have := congrArg List.length hO
                simp only [List.length_append, List.length_cons, List.length_nil] at this
                omega
              omega
        · rw [if_neg h41] at h
          have hD : stD s[pos] O.length = (O.length : Int) := by unfold stD; rw [if_neg h40, if_neg h41]
          split at h
          · cases h
          · split at h
            · cases h
            · by_cases h34 : s[pos].toNat = 34
              · rw [if_pos h34] at h
                unfold textS at h
                split at h
                · cases h
                · rename_i bs n htx
                  split at h
                  · cases h
                  · injection h with e1 e2 e3 e4
                    subst e1 e2 e3
                    have hu := txt_qt _ _ (Nat.le_refl _) htx
                    refine ⟨?_, hD.symm, .inl ⟨rfl, .inr ⟨_, rfl⟩⟩, fun _ _ _ _ => ⟨_, rfl⟩⟩
                    unfold stC
                    rw [if_pos h34]
                    omega
              · rw [if_neg h34] at h
                unfold tokS at h
                split at h
                · cases h
                · rename_i k n tt htk
                  injection h with e1 e2 e3 e4
                  subst e1 e2 e3
                  refine ⟨?_, hD.symm, .inl ⟨rfl, .inr ⟨_, rfl⟩⟩, fun _ _ _ _ => ⟨_, rfl⟩⟩
                  have hto := tok_oth (s.data.toList.drop pos) (fun c hc => by
                    have hst := span_stop _ _ hc
                    rw [← spanB_size, List.drop_drop] at hc
                    have hq : pos + (spanB tokB s pos).size < s.size := by
                      rcases Nat.lt_or_ge (pos + (spanB tokB s pos).size) s.size with h | h
                      · exact h
                      · rw [List.drop_of_length_le (by simp; omega)] at hc; cases hc
                    have hb2 := hn hq
                    first
                      | rw [drop_byte' s _ hq] at hc
                      | rw [Nat.add_comm, drop_byte' s _ hq] at hc
                    simp only [List.head?_cons, Option.some.injEq] at hc
                    subst hc
                    exact oth_no hst hb2)
                  have hbf : blankB (s[pos].toNat : Int) = false := by simpa using hb
                  rw [spanB_size, hto, hdp, othF, if_pos (by unfold othB; rw [hbf]; simp; omega)]
                  unfold stC
                  rw [if_neg h34, if_neg h59, if_neg (by rw [hbf]; simp; omega)]
/-- The outermost list. -/
def baseL (O : List (List Fm)) (top : List Fm) : List Fm := match O with
  | [] => top
  | l :: _ => l
theorem base_app {O : List (List Fm)} {l top top' : List Fm} (h : O ≠ []) : baseL (O ++ [l]) top = baseL O top' := by
  cases O with
  | nil => exact absurd rfl h
  | cons a O => rfl
/-- Where a form begins, past goes behind it: one form more is read then. -/
theorem past_read (s : ByteArray) : ∀ (n k pos : Nat) (O : List (List Fm)) (top : List Fm) (t : Bool) (F : List Fm), loopS s k pos O top t = .ok [] F → s.size - pos < k → s.size < n + pos →
    (O = [] → ∃ hp : pos < s.size, blankB (s[pos].toNat : Int) = false ∧ s[pos].toNat ≠ 59) →
    ∃ k' t' f, loopS s k' (pos + pastF n (s.data.toList.drop pos) O.length) [] (baseL O top ++ [f]) t' = .ok [] F ∧ s.size - (pos + pastF n (s.data.toList.drop pos) O.length) < k' ∧ 1 ≤ pastF n (s.data.toList.drop pos) O.length := by
  intro n
  induction n with
  | zero =>
    intro k pos O top t F h hk hn hO
    exfalso
    cases O with
    | nil => obtain ⟨hp, _⟩ := hO rfl; omega
    | cons a O =>
      obtain ⟨k0, rfl⟩ : ∃ k0, k = k0 + 1 := ⟨k - 1, by omega⟩
      rw [loopS, dif_neg (by omega)] at h
      cases h
  | succ n ih =>
    intro k pos O top t F h hk hn hO
    obtain ⟨k0, rfl⟩ : ∃ k0, k = k0 + 1 := ⟨k - 1, by omega⟩
    have hp : pos < s.size := by
      cases O with
      | nil => exact (hO rfl).1
      | cons a O =>
        rcases Nat.lt_or_ge pos s.size with h' | h'
        · exact h'
        · rw [loopS, dif_neg (by omega)] at h
          cases h
    have h0 := h
    rw [loopS, dif_pos hp] at h
    cases hs : stepS s pos s[pos].toNat O top t with
    | err c => rw [hs] at h; cases h
    | ok q O' top' t' =>
      rw [hs] at h
      simp only at h
      have hC := (stC_le s[pos] (s.data.toList.drop (pos + 1))).1
      obtain ⟨g1, g2, g3, g4⟩ := step_goes hp hs (fun hq => by
        cases k0 with
        | zero => rw [loopS] at h; cases h
        | succ k1 => exact loop_byte h hq)
      rw [drop_byte' s pos hp, pastF, ← drop_byte' s pos hp, List.drop_drop]
      obtain ⟨C, hCC⟩ : ∃ C, stC s[pos] (s.data.toList.drop (pos + 1)) = C := ⟨_, rfl⟩
      rw [hCC] at g1 hC ⊢
      subst g1
      rw [← g2]
      by_cases hz : O'.length = 0
      · rw [if_pos (by omega)]
        have hO' : O' = [] := List.length_eq_zero_iff.1 hz
        subst hO'
        have ht : ∃ f, top' = baseL O top ++ [f] := by
          rcases g3 with ⟨e, _⟩ | ⟨e, _⟩ | ⟨l, f, e, ht⟩
          · subst e
            obtain ⟨_, hb, h5⟩ := hO rfl
            exact g4 hb h5 rfl rfl
          · simp at e
          · rw [e]; exact ⟨f, ht⟩
        obtain ⟨f, rfl⟩ := ht
        exact ⟨k0, t', f, h, by omega, hC⟩
      · rw [if_neg (by omega)]
        have hne : O' ≠ [] := fun e => hz (by rw [e]; rfl)
        have hbase : baseL O' top' = baseL O top := by
          rcases g3 with ⟨e, _⟩ | ⟨e, _⟩ | ⟨l, f, e, _⟩
          · subst e
            cases O' with
            | nil => exact absurd rfl hne
            | cons a O => rfl
          · subst e
            cases O with
            | nil => rfl
            | cons a O => rfl
          · subst e
            exact (base_app hne).symm
        obtain ⟨k', t2, f, i1, i2, i3⟩ := ih k0 (pos + C) O' top' t' F h (by omega) (by omega) (fun e => absurd e hne)
        rw [hbase] at i1
        have e1 : s.data.toList.drop (C + pos) = s.data.toList.drop (pos + C) := by rw [Nat.add_comm]
        refine ⟨k', t2, f, ?_, ?_, by omega⟩
        · first
            | (rw [← Nat.add_assoc]; exact i1)
            | (rw [e1, ← Nat.add_assoc]; exact i1)
        · first
            | (rw [← Nat.add_assoc]; exact i2)
            | (rw [e1, ← Nat.add_assoc]; exact i2)
end Go.Proofs.YtedabholcldgbaaGreatDoor.Y
