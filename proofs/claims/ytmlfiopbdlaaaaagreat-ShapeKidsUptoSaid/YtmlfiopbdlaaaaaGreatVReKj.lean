/- The document's Kids are the program's: put together. (Made by genrkj.py.) -/
import Derived.Test.YtmlfiopbdlaaaaaGreatVReKi
import Derived.Test.YtmlfiopbdlaaaaaGreatJ24
namespace Go.Proofs.YtmlfiopbdlaaaaaGreat
open Go.RowKit Go.Deep
theorem kids_range {R : RS} {m a b : Nat} (ha : 1 ≤ a) (hb : b ≤ m + 1) (h : ∀ i, i < m → ∃ p, R.at i m = some p ∧ (p.isE = true ↔ a ≤ i + 1 ∧ i + 1 < b)) : kidsTo R m m = rangeI a b := by
  have key : ∀ k, k ≤ m → kidsTo R m k = rangeI a (min b (k + 1)) := by
    intro k
    induction k with
    | zero => intro _; rw [rangeI_none (by omega)]; rfl
    | succ k ih =>
      intro hk
      obtain ⟨p, hp, hi⟩ := h k (by omega)
      have ih := ih (by omega)
      cases he : p.isE with
      | true =>
        obtain ⟨h1, h2⟩ := hi.1 he
        rw [kidsTo_yes hp he, ih, Nat.min_eq_right (by omega), Nat.min_eq_right (by omega), rangeI_more h1]; rfl
      | false =>
        have hn : ¬ (a ≤ k + 1 ∧ k + 1 < b) := fun e => by rw [hi.2 e] at he; cases he
        rw [kidsTo_no hp he, ih]
        by_cases hc : k + 1 < a
        · rw [rangeI_none (by omega), rangeI_none (by omega)]
        · rw [Nat.min_eq_left (by omega), Nat.min_eq_left (by omega)]
  rw [key m (Nat.le_refl _), Nat.min_eq_left hb]
set_option linter.unusedSimpArgs false in
theorem kr_neg {E : Fm → Bool} {n : Nat} (hn : 1 ≤ n) (hl : RS.lets ⟨[exprP E], none, []⟩ (n - 1) = true) : kidsTo ⟨[exprP E], none, []⟩ (n - 1) (n - 1) = rangeI 1 n := by
  have hm : n = 2 := by simp [RS.lets] at hl; omega
  subst hm
  exact kids_range (by omega) (by omega) fun i hi => by
    match i, hi with
    | 0, _ => exact ⟨_, rfl, by simp [exprP, nameP, typeP, numP, listP, bindP, paramsP, behindP, headedP, namesP, typedP]⟩
set_option linter.unusedSimpArgs false in
theorem kr_two {E : Fm → Bool} {n : Nat} (hn : 1 ≤ n) (hl : RS.lets ⟨[exprP E, exprP E], none, []⟩ (n - 1) = true) : kidsTo ⟨[exprP E, exprP E], none, []⟩ (n - 1) (n - 1) = rangeI 1 n := by
  have hm : n = 3 := by simp [RS.lets] at hl; omega
  subst hm
  exact kids_range (by omega) (by omega) fun i hi => by
    match i, hi with
    | 0, _ => exact ⟨_, rfl, by simp [exprP, nameP, typeP, numP, listP, bindP, paramsP, behindP, headedP, namesP, typedP]⟩
    | 1, _ => exact ⟨_, rfl, by simp [exprP, nameP, typeP, numP, listP, bindP, paramsP, behindP, headedP, namesP, typedP]⟩
set_option linter.unusedSimpArgs false in
theorem kr_three {E : Fm → Bool} {n : Nat} (hn : 1 ≤ n) (hl : RS.lets ⟨[exprP E, exprP E, exprP E], none, []⟩ (n - 1) = true) : kidsTo ⟨[exprP E, exprP E, exprP E], none, []⟩ (n - 1) (n - 1) = rangeI 1 n := by
  have hm : n = 4 := by simp [RS.lets] at hl; omega
  subst hm
  exact kids_range (by omega) (by omega) fun i hi => by
    match i, hi with
    | 0, _ => exact ⟨_, rfl, by simp [exprP, nameP, typeP, numP, listP, bindP, paramsP, behindP, headedP, namesP, typedP]⟩
    | 1, _ => exact ⟨_, rfl, by simp [exprP, nameP, typeP, numP, listP, bindP, paramsP, behindP, headedP, namesP, typedP]⟩
    | 2, _ => exact ⟨_, rfl, by simp [exprP, nameP, typeP, numP, listP, bindP, paramsP, behindP, headedP, namesP, typedP]⟩
set_option linter.unusedSimpArgs false in
theorem kr_any {E : Fm → Bool} {n : Nat} (hn : 1 ≤ n) (hl : RS.lets ⟨[], some (exprP E), []⟩ (n - 1) = true) : kidsTo ⟨[], some (exprP E), []⟩ (n - 1) (n - 1) = rangeI 1 n := by
  have hm : 1 ≤ n := by simp [RS.lets] at hl; omega
  obtain ⟨m, rfl⟩ : ∃ m, n = m + 1 := ⟨n - 1, by omega⟩
  exact kids_range (by omega) (by omega) fun i hi => by
    exact ⟨_, by simp only [RS.at, List.length_cons, List.length_nil]; rw [if_neg (by omega), if_pos (by omega)], by simp [exprP, nameP, typeP, numP, listP, bindP, paramsP, behindP, headedP, namesP, typedP] <;> omega⟩
set_option linter.unusedSimpArgs false in
theorem kr_app {E : Fm → Bool} {n : Nat} (hn : 1 ≤ n) (hl : RS.lets ⟨[exprP E], some (exprP E), []⟩ (n - 1) = true) : kidsTo ⟨[exprP E], some (exprP E), []⟩ (n - 1) (n - 1) = rangeI 1 n := by
  have hm : 2 ≤ n := by simp [RS.lets] at hl; omega
  obtain ⟨m, rfl⟩ : ∃ m, n = m + 2 := ⟨n - 2, by omega⟩
  exact kids_range (by omega) (by omega) fun i hi => by
    by_cases h0 : i = 0
    · subst h0; exact ⟨_, rfl, by simp [exprP, nameP, typeP, numP, listP, bindP, paramsP, behindP, headedP, namesP, typedP]⟩
    exact ⟨_, by simp only [RS.at, List.length_cons, List.length_nil]; rw [if_neg (by omega), if_pos (by omega)], by simp [exprP, nameP, typeP, numP, listP, bindP, paramsP, behindP, headedP, namesP, typedP] <;> omega⟩
set_option linter.unusedSimpArgs false in
theorem kr_map {E : Fm → Bool} {n : Nat} (hn : 1 ≤ n) (hl : RS.lets ⟨[], some (listP ⟨[exprP E, exprP E], none, []⟩ (fun _ => true)), []⟩ (n - 1) = true) : kidsTo ⟨[], some (listP ⟨[exprP E, exprP E], none, []⟩ (fun _ => true)), []⟩ (n - 1) (n - 1) = rangeI n n := by
  have hm : 1 ≤ n := by simp [RS.lets] at hl; omega
  obtain ⟨m, rfl⟩ : ∃ m, n = m + 1 := ⟨n - 1, by omega⟩
  exact kids_range (by omega) (by omega) fun i hi => by
    exact ⟨_, by simp only [RS.at, List.length_cons, List.length_nil]; rw [if_neg (by omega), if_pos (by omega)], by simp [exprP, nameP, typeP, numP, listP, bindP, paramsP, behindP, headedP, namesP, typedP] <;> omega⟩
set_option linter.unusedSimpArgs false in
theorem kr_bits {n : Nat} (hn : 1 ≤ n) (hl : RS.lets ⟨[numP 1 16, numP 0 1152921504606846976], none, []⟩ (n - 1) = true) : kidsTo ⟨[numP 1 16, numP 0 1152921504606846976], none, []⟩ (n - 1) (n - 1) = rangeI n n := by
  have hm : n = 3 := by simp [RS.lets] at hl; omega
  subst hm
  exact kids_range (by omega) (by omega) fun i hi => by
    match i, hi with
    | 0, _ => exact ⟨_, rfl, by simp [exprP, nameP, typeP, numP, listP, bindP, paramsP, behindP, headedP, namesP, typedP]⟩
    | 1, _ => exact ⟨_, rfl, by simp [exprP, nameP, typeP, numP, listP, bindP, paramsP, behindP, headedP, namesP, typedP]⟩
set_option linter.unusedSimpArgs false in
theorem kr_empty {n : Nat} (hn : 1 ≤ n) (hl : RS.lets ⟨[typeP], none, []⟩ (n - 1) = true) : kidsTo ⟨[typeP], none, []⟩ (n - 1) (n - 1) = rangeI n n := by
  have hm : n = 2 := by simp [RS.lets] at hl; omega
  subst hm
  exact kids_range (by omega) (by omega) fun i hi => by
    match i, hi with
    | 0, _ => exact ⟨_, rfl, by simp [exprP, nameP, typeP, numP, listP, bindP, paramsP, behindP, headedP, namesP, typedP]⟩
set_option linter.unusedSimpArgs false in
theorem kr_imap {E : Fm → Bool} {n : Nat} (hn : 1 ≤ n) (hl : RS.lets ⟨[exprP E, typeP], none, []⟩ (n - 1) = true) : kidsTo ⟨[exprP E, typeP], none, []⟩ (n - 1) (n - 1) = rangeI 1 2 := by
  have hm : n = 3 := by simp [RS.lets] at hl; omega
  subst hm
  exact kids_range (by omega) (by omega) fun i hi => by
    match i, hi with
    | 0, _ => exact ⟨_, rfl, by simp [exprP, nameP, typeP, numP, listP, bindP, paramsP, behindP, headedP, namesP, typedP]⟩
    | 1, _ => exact ⟨_, rfl, by simp [exprP, nameP, typeP, numP, listP, bindP, paramsP, behindP, headedP, namesP, typedP]⟩
set_option linter.unusedSimpArgs false in
theorem kr_isget {E : Fm → Bool} {n : Nat} (hn : 1 ≤ n) (hl : RS.lets ⟨[nameP, exprP E], none, []⟩ (n - 1) = true) : kidsTo ⟨[nameP, exprP E], none, []⟩ (n - 1) (n - 1) = rangeI 2 n := by
  have hm : n = 3 := by simp [RS.lets] at hl; omega
  subst hm
  exact kids_range (by omega) (by omega) fun i hi => by
    match i, hi with
    | 0, _ => exact ⟨_, rfl, by simp [exprP, nameP, typeP, numP, listP, bindP, paramsP, behindP, headedP, namesP, typedP]⟩
    | 1, _ => exact ⟨_, rfl, by simp [exprP, nameP, typeP, numP, listP, bindP, paramsP, behindP, headedP, namesP, typedP]⟩
set_option linter.unusedSimpArgs false in
theorem kr_prefix {E : Fm → Bool} {n : Nat} (hn : 1 ≤ n) (hl : RS.lets ⟨[nameP, exprP E], some (exprP E), []⟩ (n - 1) = true) : kidsTo ⟨[nameP, exprP E], some (exprP E), []⟩ (n - 1) (n - 1) = rangeI 2 n := by
  have hm : 3 ≤ n := by simp [RS.lets] at hl; omega
  obtain ⟨m, rfl⟩ : ∃ m, n = m + 3 := ⟨n - 3, by omega⟩
  exact kids_range (by omega) (by omega) fun i hi => by
    by_cases h0 : i = 0
    · subst h0; exact ⟨_, rfl, by simp [exprP, nameP, typeP, numP, listP, bindP, paramsP, behindP, headedP, namesP, typedP]⟩
    by_cases h1 : i = 1
    · subst h1; exact ⟨_, rfl, by simp [exprP, nameP, typeP, numP, listP, bindP, paramsP, behindP, headedP, namesP, typedP]⟩
    exact ⟨_, by simp only [RS.at, List.length_cons, List.length_nil]; rw [if_neg (by omega), if_pos (by omega)], by simp [exprP, nameP, typeP, numP, listP, bindP, paramsP, behindP, headedP, namesP, typedP] <;> omega⟩
set_option linter.unusedSimpArgs false in
theorem kr_fuel {E : Fm → Bool} {n : Nat} (hn : 1 ≤ n) (hl : RS.lets ⟨[numP 0 9, nameP, exprP E], none, []⟩ (n - 1) = true) : kidsTo ⟨[numP 0 9, nameP, exprP E], none, []⟩ (n - 1) (n - 1) = rangeI 3 n := by
  have hm : n = 4 := by simp [RS.lets] at hl; omega
  subst hm
  exact kids_range (by omega) (by omega) fun i hi => by
    match i, hi with
    | 0, _ => exact ⟨_, rfl, by simp [exprP, nameP, typeP, numP, listP, bindP, paramsP, behindP, headedP, namesP, typedP]⟩
    | 1, _ => exact ⟨_, rfl, by simp [exprP, nameP, typeP, numP, listP, bindP, paramsP, behindP, headedP, namesP, typedP]⟩
    | 2, _ => exact ⟨_, rfl, by simp [exprP, nameP, typeP, numP, listP, bindP, paramsP, behindP, headedP, namesP, typedP]⟩
set_option linter.unusedSimpArgs false in
theorem kr_let {E : Fm → Bool} {n : Nat} (hn : 1 ≤ n) (hl : RS.lets ⟨[bindP [exprP E], exprP E], none, []⟩ (n - 1) = true) : kidsTo ⟨[bindP [exprP E], exprP E], none, []⟩ (n - 1) (n - 1) = rangeI 2 n := by
  have hm : n = 3 := by simp [RS.lets] at hl; omega
  subst hm
  exact kids_range (by omega) (by omega) fun i hi => by
    match i, hi with
    | 0, _ => exact ⟨_, rfl, by simp [exprP, nameP, typeP, numP, listP, bindP, paramsP, behindP, headedP, namesP, typedP]⟩
    | 1, _ => exact ⟨_, rfl, by simp [exprP, nameP, typeP, numP, listP, bindP, paramsP, behindP, headedP, namesP, typedP]⟩
set_option linter.unusedSimpArgs false in
theorem kr_all {E : Fm → Bool} {n : Nat} (hn : 1 ≤ n) (hl : RS.lets ⟨[bindP [exprP E, exprP E], exprP E], none, []⟩ (n - 1) = true) : kidsTo ⟨[bindP [exprP E, exprP E], exprP E], none, []⟩ (n - 1) (n - 1) = rangeI 2 n := by
  have hm : n = 3 := by simp [RS.lets] at hl; omega
  subst hm
  exact kids_range (by omega) (by omega) fun i hi => by
    match i, hi with
    | 0, _ => exact ⟨_, rfl, by simp [exprP, nameP, typeP, numP, listP, bindP, paramsP, behindP, headedP, namesP, typedP]⟩
    | 1, _ => exact ⟨_, rfl, by simp [exprP, nameP, typeP, numP, listP, bindP, paramsP, behindP, headedP, namesP, typedP]⟩
set_option linter.unusedSimpArgs false in
theorem kr_pick {E : Fm → Bool} {n : Nat} (hn : 1 ≤ n) (hl : RS.lets ⟨[bindP [exprP E, exprP E], exprP E, exprP E], none, []⟩ (n - 1) = true) : kidsTo ⟨[bindP [exprP E, exprP E], exprP E, exprP E], none, []⟩ (n - 1) (n - 1) = rangeI 2 n := by
  have hm : n = 4 := by simp [RS.lets] at hl; omega
  subst hm
  exact kids_range (by omega) (by omega) fun i hi => by
    match i, hi with
    | 0, _ => exact ⟨_, rfl, by simp [exprP, nameP, typeP, numP, listP, bindP, paramsP, behindP, headedP, namesP, typedP]⟩
    | 1, _ => exact ⟨_, rfl, by simp [exprP, nameP, typeP, numP, listP, bindP, paramsP, behindP, headedP, namesP, typedP]⟩
    | 2, _ => exact ⟨_, rfl, by simp [exprP, nameP, typeP, numP, listP, bindP, paramsP, behindP, headedP, namesP, typedP]⟩
set_option linter.unusedSimpArgs false in
theorem kr_fn {E : Fm → Bool} {n : Nat} (hn : 1 ≤ n) (hl : RS.lets ⟨[paramsP, exprP E], none, []⟩ (n - 1) = true) : kidsTo ⟨[paramsP, exprP E], none, []⟩ (n - 1) (n - 1) = rangeI 2 n := by
  have hm : n = 3 := by simp [RS.lets] at hl; omega
  subst hm
  exact kids_range (by omega) (by omega) fun i hi => by
    match i, hi with
    | 0, _ => exact ⟨_, rfl, by simp [exprP, nameP, typeP, numP, listP, bindP, paramsP, behindP, headedP, namesP, typedP]⟩
    | 1, _ => exact ⟨_, rfl, by simp [exprP, nameP, typeP, numP, listP, bindP, paramsP, behindP, headedP, namesP, typedP]⟩
set_option linter.unusedSimpArgs false in
theorem kr_match {E : Fm → Bool} {n : Nat} (hn : 1 ≤ n) (hl : RS.lets ⟨[exprP E, listP ⟨[nameP, namesP, exprP E], none, []⟩ (fun _ => true)], some (listP ⟨[nameP, namesP, exprP E], none, []⟩ (fun _ => true)), []⟩ (n - 1) = true) : kidsTo ⟨[exprP E, listP ⟨[nameP, namesP, exprP E], none, []⟩ (fun _ => true)], some (listP ⟨[nameP, namesP, exprP E], none, []⟩ (fun _ => true)), []⟩ (n - 1) (n - 1) = rangeI 1 2 := by
  have hm : 3 ≤ n := by simp [RS.lets] at hl; omega
  obtain ⟨m, rfl⟩ : ∃ m, n = m + 3 := ⟨n - 3, by omega⟩
  exact kids_range (by omega) (by omega) fun i hi => by
    by_cases h0 : i = 0
    · subst h0; exact ⟨_, rfl, by simp [exprP, nameP, typeP, numP, listP, bindP, paramsP, behindP, headedP, namesP, typedP]⟩
    by_cases h1 : i = 1
    · subst h1; exact ⟨_, rfl, by simp [exprP, nameP, typeP, numP, listP, bindP, paramsP, behindP, headedP, namesP, typedP]⟩
    exact ⟨_, by simp only [RS.at, List.length_cons, List.length_nil]; rw [if_neg (by omega), if_pos (by omega)], by simp [exprP, nameP, typeP, numP, listP, bindP, paramsP, behindP, headedP, namesP, typedP] <;> omega⟩
set_option linter.unusedSimpArgs false in
theorem kr_quant {E : Fm → Bool} {n : Nat} (hn : 1 ≤ n) (hl : RS.lets ⟨[(listP ⟨[typedP], some typedP, []⟩ differB)], some (behindP trigW ⟨[exprP E], some (exprP E), []⟩), [exprP E]⟩ (n - 1) = true) : kidsTo ⟨[(listP ⟨[typedP], some typedP, []⟩ differB)], some (behindP trigW ⟨[exprP E], some (exprP E), []⟩), [exprP E]⟩ (n - 1) (n - 1) = rangeI (n - 1) n := by
  have hm : 3 ≤ n := by simp [RS.lets] at hl; omega
  obtain ⟨m, rfl⟩ : ∃ m, n = m + 3 := ⟨n - 3, by omega⟩
  exact kids_range (by omega) (by omega) fun i hi => by
    by_cases h0 : i = 0
    · subst h0; exact ⟨_, rfl, by simp [exprP, nameP, typeP, numP, listP, bindP, paramsP, behindP, headedP, namesP, typedP]⟩
    · by_cases h1 : i = m + 1
      · subst h1
        exact ⟨exprP E, by simp [RS.at], by simp [exprP, nameP, typeP, numP, listP, bindP, paramsP, behindP, headedP, namesP, typedP]⟩
      · exact ⟨_, by simp only [RS.at, List.length_cons, List.length_nil]; rw [if_neg (by omega), if_pos (by omega)], by simp [exprP, nameP, typeP, numP, listP, bindP, paramsP, behindP, headedP, namesP, typedP] <;> omega⟩
set_option linter.unusedSimpArgs false in
theorem kr_callP {E : Fm → Bool} {n : Nat} (hn : 1 ≤ n) (hl : RS.lets ⟨[nameP], some (exprP E), []⟩ (n - 1) = true) : kidsTo ⟨[nameP], some (exprP E), []⟩ (n - 1) (n - 1) = rangeI 2 n := by
  have hm : 2 ≤ n := by simp [RS.lets] at hl; omega
  obtain ⟨m, rfl⟩ : ∃ m, n = m + 2 := ⟨n - 2, by omega⟩
  exact kids_range (by omega) (by omega) fun i hi => by
    by_cases h0 : i = 0
    · subst h0; exact ⟨_, rfl, by simp [exprP, nameP, typeP, numP, listP, bindP, paramsP, behindP, headedP, namesP, typedP]⟩
    exact ⟨_, by simp only [RS.at, List.length_cons, List.length_nil]; rw [if_neg (by omega), if_pos (by omega)], by simp [exprP, nameP, typeP, numP, listP, bindP, paramsP, behindP, headedP, namesP, typedP] <;> omega⟩
set_option linter.unusedSimpArgs false in
theorem kr_callO {E : Fm → Bool} {n : Nat} (hn : 1 ≤ n) (hl : RS.lets ⟨[nameP, behindP ofW ⟨[typeP], some typeP, []⟩], some (exprP E), []⟩ (n - 1) = true) : kidsTo ⟨[nameP, behindP ofW ⟨[typeP], some typeP, []⟩], some (exprP E), []⟩ (n - 1) (n - 1) = rangeI 3 n := by
  have hm : 3 ≤ n := by simp [RS.lets] at hl; omega
  obtain ⟨m, rfl⟩ : ∃ m, n = m + 3 := ⟨n - 3, by omega⟩
  exact kids_range (by omega) (by omega) fun i hi => by
    by_cases h0 : i = 0
    · subst h0; exact ⟨_, rfl, by simp [exprP, nameP, typeP, numP, listP, bindP, paramsP, behindP, headedP, namesP, typedP]⟩
    by_cases h1 : i = 1
    · subst h1; exact ⟨_, rfl, by simp [exprP, nameP, typeP, numP, listP, bindP, paramsP, behindP, headedP, namesP, typedP]⟩
    exact ⟨_, by simp only [RS.at, List.length_cons, List.length_nil]; rw [if_neg (by omega), if_pos (by omega)], by simp [exprP, nameP, typeP, numP, listP, bindP, paramsP, behindP, headedP, namesP, typedP] <;> omega⟩
set_option linter.unusedSimpArgs false in
theorem kr_old3 {E : Fm → Bool} {n : Nat} (hn : 1 ≤ n) (hl : RS.lets ⟨[nameP, exprP E], none, []⟩ (n - 1) = true) : kidsTo ⟨[nameP, exprP E], none, []⟩ (n - 1) (n - 1) = rangeI 2 n := by
  have hm : n = 3 := by simp [RS.lets] at hl; omega
  subst hm
  exact kids_range (by omega) (by omega) fun i hi => by
    match i, hi with
    | 0, _ => exact ⟨_, rfl, by simp [exprP, nameP, typeP, numP, listP, bindP, paramsP, behindP, headedP, namesP, typedP]⟩
    | 1, _ => exact ⟨_, rfl, by simp [exprP, nameP, typeP, numP, listP, bindP, paramsP, behindP, headedP, namesP, typedP]⟩
set_option linter.unusedSimpArgs false in
theorem kr_old1 {E : Fm → Bool} {n : Nat} (hn : 1 ≤ n) (hl : RS.lets ⟨[exprP E], none, []⟩ (n - 1) = true) : kidsTo ⟨[exprP E], none, []⟩ (n - 1) (n - 1) = rangeI 1 n := by
  have hm : n = 2 := by simp [RS.lets] at hl; omega
  subst hm
  exact kids_range (by omega) (by omega) fun i hi => by
    match i, hi with
    | 0, _ => exact ⟨_, rfl, by simp [exprP, nameP, typeP, numP, listP, bindP, paramsP, behindP, headedP, namesP, typedP]⟩
theorem hdIn_sup {f : Fm} {A B : List (List UInt8)} (h : hdIn f A = true) (d : (A.all fun x => B.contains x) = true) : hdIn f B = true := by
  unfold hdIn at h ⊢
  rw [any_mem, decide_eq_true_iff] at h ⊢
  simpa using List.all_eq_true.1 d _ h
theorem hdIn_one {f : Fm} {x : List UInt8} {A : List (List UInt8)} (h : hdIn f A = true) (d : (A.all fun y => [x].contains y) = true) : ((headF f).toList == x) = true := by
  have := hdIn_sup h d
  rcases hdIn_yes this with q | q
  · simpa using q
  · exact (hdIn_nil q).elim
set_option linter.unusedSimpArgs false in
theorem kidsX_of {f : Fm} {R : RS} (hk : f.kd = 3) (hr : rowX f = some R) : kidsX f = kidsTo R (f.ks.length - 1) (f.ks.length - 1) := by
  unfold kidsX; rw [if_pos hk, hr]
set_option maxHeartbeats 2000000 in
theorem rkids_list (t : T) (w : World) (hin : In w t) (hk : t.kd = 3) (hv : validF t.form = true) (ho : okX t.form = true)
    (hX : ∀ W, Below w.heap.size w W → Calls Tryz.prog 30 #[t.val] W fun e w' => e = .returned (.int .i64 0) ∧ Below W.heap.size W w') :
    Calls Tryz.prog 7 #[t.val] w fun e w' => ∃ v, e = .returned (.tuple #[v, .int .i64 0]) ∧ OwnI w.heap.size w w' v (kidsX t.form) := by
  have hkf : t.form.kd = 3 := by rw [T.form_kd]; exact hk
  obtain ⟨R, hr, hl, hne⟩ := okX_row ho hkf
  rw [kidsX_of hkf hr]
  unfold rowX at hr
  have el : t.form.ks.length = t.ks.length := by rw [T.form_ks, List.length_map]
  rw [el] at hl hne ⊢
  have hn2 : t.ks.length ≤ 20001 := by have := (valid_asked hv).len hkf; omega
  cases h0 : hdIn t.form cneg with
  | true =>
    obtain rfl := Option.some.inj (hr.symm.trans (rowc_neg h0))
    rw [kr_neg hne hl]
    exact rkids_rest t _ _ hk rfl hne hn2 rfl ((inB_hd _ _ [[108, 101, 116], [112, 105, 99, 107], [97, 108, 108], [115, 111, 109, 101], [101, 118, 101, 114, 121], [97, 110, 121], [102, 110], [105, 115], [103, 101, 116], [112, 114, 101, 102, 105, 120]] (by kernel_rfl)).trans (hdIn_disj h0 (by kernel_rfl))) (hdIn_no (hdIn_disj h0 (B := [[109, 97, 116, 99, 104]]) (by kernel_rfl))).1 ((inB_hd _ _ [[102, 111, 114, 97, 108, 108], [101, 120, 105, 115, 116, 115]] (by kernel_rfl)).trans (hdIn_disj h0 (by kernel_rfl))) ((inB_hd _ _ [[99, 97, 108, 108], [109, 97, 107, 101]] (by kernel_rfl)).trans (hdIn_disj h0 (by kernel_rfl))) (hdIn_no (hdIn_disj h0 (B := [[111, 108, 100]]) (by kernel_rfl))).1 (hdIn_no (hdIn_disj h0 (B := [[102, 117, 101, 108]]) (by kernel_rfl))).1 ((inB_hd _ _ [[98, 105, 116, 115], [101, 109, 112, 116, 121], [109, 97, 112]] (by kernel_rfl)).trans (hdIn_disj h0 (by kernel_rfl))) (hdIn_no (hdIn_disj h0 (B := [[105, 109, 97, 112]]) (by kernel_rfl))).1 w hin hX
  | false =>
  cases h1 : hdIn t.form ctwo with
  | true =>
    obtain rfl := Option.some.inj (hr.symm.trans (rowc_two h1))
    rw [kr_two hne hl]
    exact rkids_rest t _ _ hk rfl hne hn2 rfl ((inB_hd _ _ [[108, 101, 116], [112, 105, 99, 107], [97, 108, 108], [115, 111, 109, 101], [101, 118, 101, 114, 121], [97, 110, 121], [102, 110], [105, 115], [103, 101, 116], [112, 114, 101, 102, 105, 120]] (by kernel_rfl)).trans (hdIn_disj h1 (by kernel_rfl))) (hdIn_no (hdIn_disj h1 (B := [[109, 97, 116, 99, 104]]) (by kernel_rfl))).1 ((inB_hd _ _ [[102, 111, 114, 97, 108, 108], [101, 120, 105, 115, 116, 115]] (by kernel_rfl)).trans (hdIn_disj h1 (by kernel_rfl))) ((inB_hd _ _ [[99, 97, 108, 108], [109, 97, 107, 101]] (by kernel_rfl)).trans (hdIn_disj h1 (by kernel_rfl))) (hdIn_no (hdIn_disj h1 (B := [[111, 108, 100]]) (by kernel_rfl))).1 (hdIn_no (hdIn_disj h1 (B := [[102, 117, 101, 108]]) (by kernel_rfl))).1 ((inB_hd _ _ [[98, 105, 116, 115], [101, 109, 112, 116, 121], [109, 97, 112]] (by kernel_rfl)).trans (hdIn_disj h1 (by kernel_rfl))) (hdIn_no (hdIn_disj h1 (B := [[105, 109, 97, 112]]) (by kernel_rfl))).1 w hin hX
  | false =>
  cases h2 : hdIn t.form cthree with
  | true =>
    obtain rfl := Option.some.inj (hr.symm.trans (rowc_three h2))
    rw [kr_three hne hl]
    exact rkids_rest t _ _ hk rfl hne hn2 rfl ((inB_hd _ _ [[108, 101, 116], [112, 105, 99, 107], [97, 108, 108], [115, 111, 109, 101], [101, 118, 101, 114, 121], [97, 110, 121], [102, 110], [105, 115], [103, 101, 116], [112, 114, 101, 102, 105, 120]] (by kernel_rfl)).trans (hdIn_disj h2 (by kernel_rfl))) (hdIn_no (hdIn_disj h2 (B := [[109, 97, 116, 99, 104]]) (by kernel_rfl))).1 ((inB_hd _ _ [[102, 111, 114, 97, 108, 108], [101, 120, 105, 115, 116, 115]] (by kernel_rfl)).trans (hdIn_disj h2 (by kernel_rfl))) ((inB_hd _ _ [[99, 97, 108, 108], [109, 97, 107, 101]] (by kernel_rfl)).trans (hdIn_disj h2 (by kernel_rfl))) (hdIn_no (hdIn_disj h2 (B := [[111, 108, 100]]) (by kernel_rfl))).1 (hdIn_no (hdIn_disj h2 (B := [[102, 117, 101, 108]]) (by kernel_rfl))).1 ((inB_hd _ _ [[98, 105, 116, 115], [101, 109, 112, 116, 121], [109, 97, 112]] (by kernel_rfl)).trans (hdIn_disj h2 (by kernel_rfl))) (hdIn_no (hdIn_disj h2 (B := [[105, 109, 97, 112]]) (by kernel_rfl))).1 w hin hX
  | false =>
  cases h3 : hdIn t.form cany with
  | true =>
    obtain rfl := Option.some.inj (hr.symm.trans (rowc_any h3))
    rw [kr_any hne hl]
    exact rkids_rest t _ _ hk rfl hne hn2 rfl ((inB_hd _ _ [[108, 101, 116], [112, 105, 99, 107], [97, 108, 108], [115, 111, 109, 101], [101, 118, 101, 114, 121], [97, 110, 121], [102, 110], [105, 115], [103, 101, 116], [112, 114, 101, 102, 105, 120]] (by kernel_rfl)).trans (hdIn_disj h3 (by kernel_rfl))) (hdIn_no (hdIn_disj h3 (B := [[109, 97, 116, 99, 104]]) (by kernel_rfl))).1 ((inB_hd _ _ [[102, 111, 114, 97, 108, 108], [101, 120, 105, 115, 116, 115]] (by kernel_rfl)).trans (hdIn_disj h3 (by kernel_rfl))) ((inB_hd _ _ [[99, 97, 108, 108], [109, 97, 107, 101]] (by kernel_rfl)).trans (hdIn_disj h3 (by kernel_rfl))) (hdIn_no (hdIn_disj h3 (B := [[111, 108, 100]]) (by kernel_rfl))).1 (hdIn_no (hdIn_disj h3 (B := [[102, 117, 101, 108]]) (by kernel_rfl))).1 ((inB_hd _ _ [[98, 105, 116, 115], [101, 109, 112, 116, 121], [109, 97, 112]] (by kernel_rfl)).trans (hdIn_disj h3 (by kernel_rfl))) (hdIn_no (hdIn_disj h3 (B := [[105, 109, 97, 112]]) (by kernel_rfl))).1 w hin hX
  | false =>
  cases h4 : hdIn t.form capp with
  | true =>
    obtain rfl := Option.some.inj (hr.symm.trans (rowc_app h4))
    rw [kr_app hne hl]
    exact rkids_rest t _ _ hk rfl hne hn2 rfl ((inB_hd _ _ [[108, 101, 116], [112, 105, 99, 107], [97, 108, 108], [115, 111, 109, 101], [101, 118, 101, 114, 121], [97, 110, 121], [102, 110], [105, 115], [103, 101, 116], [112, 114, 101, 102, 105, 120]] (by kernel_rfl)).trans (hdIn_disj h4 (by kernel_rfl))) (hdIn_no (hdIn_disj h4 (B := [[109, 97, 116, 99, 104]]) (by kernel_rfl))).1 ((inB_hd _ _ [[102, 111, 114, 97, 108, 108], [101, 120, 105, 115, 116, 115]] (by kernel_rfl)).trans (hdIn_disj h4 (by kernel_rfl))) ((inB_hd _ _ [[99, 97, 108, 108], [109, 97, 107, 101]] (by kernel_rfl)).trans (hdIn_disj h4 (by kernel_rfl))) (hdIn_no (hdIn_disj h4 (B := [[111, 108, 100]]) (by kernel_rfl))).1 (hdIn_no (hdIn_disj h4 (B := [[102, 117, 101, 108]]) (by kernel_rfl))).1 ((inB_hd _ _ [[98, 105, 116, 115], [101, 109, 112, 116, 121], [109, 97, 112]] (by kernel_rfl)).trans (hdIn_disj h4 (by kernel_rfl))) (hdIn_no (hdIn_disj h4 (B := [[105, 109, 97, 112]]) (by kernel_rfl))).1 w hin hX
  | false =>
  cases h5 : hdIn t.form cmap with
  | true =>
    obtain rfl := Option.some.inj (hr.symm.trans (rowc_map h5))
    rw [kr_map hne hl]
    exact rkids_none4 t _ _ hk rfl hne hn2 rfl ((inB_hd _ _ [[108, 101, 116], [112, 105, 99, 107], [97, 108, 108], [115, 111, 109, 101], [101, 118, 101, 114, 121], [97, 110, 121], [102, 110], [105, 115], [103, 101, 116], [112, 114, 101, 102, 105, 120]] (by kernel_rfl)).trans (hdIn_disj h5 (by kernel_rfl))) (hdIn_no (hdIn_disj h5 (B := [[109, 97, 116, 99, 104]]) (by kernel_rfl))).1 ((inB_hd _ _ [[102, 111, 114, 97, 108, 108], [101, 120, 105, 115, 116, 115]] (by kernel_rfl)).trans (hdIn_disj h5 (by kernel_rfl))) ((inB_hd _ _ [[99, 97, 108, 108], [109, 97, 107, 101]] (by kernel_rfl)).trans (hdIn_disj h5 (by kernel_rfl))) (hdIn_no (hdIn_disj h5 (B := [[111, 108, 100]]) (by kernel_rfl))).1 (hdIn_no (hdIn_disj h5 (B := [[102, 117, 101, 108]]) (by kernel_rfl))).1 ((inB_hd _ _ [[98, 105, 116, 115], [101, 109, 112, 116, 121], [109, 97, 112]] (by kernel_rfl)).trans (hdIn_sup h5 (by kernel_rfl))) w hin hX
  | false =>
  cases h6 : hdIn t.form cbits with
  | true =>
    obtain rfl := Option.some.inj (hr.symm.trans (rowc_bits h6))
    rw [kr_bits hne hl]
    exact rkids_none4 t _ _ hk rfl hne hn2 rfl ((inB_hd _ _ [[108, 101, 116], [112, 105, 99, 107], [97, 108, 108], [115, 111, 109, 101], [101, 118, 101, 114, 121], [97, 110, 121], [102, 110], [105, 115], [103, 101, 116], [112, 114, 101, 102, 105, 120]] (by kernel_rfl)).trans (hdIn_disj h6 (by kernel_rfl))) (hdIn_no (hdIn_disj h6 (B := [[109, 97, 116, 99, 104]]) (by kernel_rfl))).1 ((inB_hd _ _ [[102, 111, 114, 97, 108, 108], [101, 120, 105, 115, 116, 115]] (by kernel_rfl)).trans (hdIn_disj h6 (by kernel_rfl))) ((inB_hd _ _ [[99, 97, 108, 108], [109, 97, 107, 101]] (by kernel_rfl)).trans (hdIn_disj h6 (by kernel_rfl))) (hdIn_no (hdIn_disj h6 (B := [[111, 108, 100]]) (by kernel_rfl))).1 (hdIn_no (hdIn_disj h6 (B := [[102, 117, 101, 108]]) (by kernel_rfl))).1 ((inB_hd _ _ [[98, 105, 116, 115], [101, 109, 112, 116, 121], [109, 97, 112]] (by kernel_rfl)).trans (hdIn_sup h6 (by kernel_rfl))) w hin hX
  | false =>
  cases h7 : hdIn t.form cempty with
  | true =>
    obtain rfl := Option.some.inj (hr.symm.trans (rowc_empty h7))
    rw [kr_empty hne hl]
    exact rkids_none4 t _ _ hk rfl hne hn2 rfl ((inB_hd _ _ [[108, 101, 116], [112, 105, 99, 107], [97, 108, 108], [115, 111, 109, 101], [101, 118, 101, 114, 121], [97, 110, 121], [102, 110], [105, 115], [103, 101, 116], [112, 114, 101, 102, 105, 120]] (by kernel_rfl)).trans (hdIn_disj h7 (by kernel_rfl))) (hdIn_no (hdIn_disj h7 (B := [[109, 97, 116, 99, 104]]) (by kernel_rfl))).1 ((inB_hd _ _ [[102, 111, 114, 97, 108, 108], [101, 120, 105, 115, 116, 115]] (by kernel_rfl)).trans (hdIn_disj h7 (by kernel_rfl))) ((inB_hd _ _ [[99, 97, 108, 108], [109, 97, 107, 101]] (by kernel_rfl)).trans (hdIn_disj h7 (by kernel_rfl))) (hdIn_no (hdIn_disj h7 (B := [[111, 108, 100]]) (by kernel_rfl))).1 (hdIn_no (hdIn_disj h7 (B := [[102, 117, 101, 108]]) (by kernel_rfl))).1 ((inB_hd _ _ [[98, 105, 116, 115], [101, 109, 112, 116, 121], [109, 97, 112]] (by kernel_rfl)).trans (hdIn_sup h7 (by kernel_rfl))) w hin hX
  | false =>
  cases h8 : hdIn t.form cimap with
  | true =>
    obtain rfl := Option.some.inj (hr.symm.trans (rowc_imap h8))
    rw [kr_imap hne hl]
    exact rkids_imap t _ _ hk rfl hne hn2 rfl ((inB_hd _ _ [[108, 101, 116], [112, 105, 99, 107], [97, 108, 108], [115, 111, 109, 101], [101, 118, 101, 114, 121], [97, 110, 121], [102, 110], [105, 115], [103, 101, 116], [112, 114, 101, 102, 105, 120]] (by kernel_rfl)).trans (hdIn_disj h8 (by kernel_rfl))) (hdIn_no (hdIn_disj h8 (B := [[109, 97, 116, 99, 104]]) (by kernel_rfl))).1 ((inB_hd _ _ [[102, 111, 114, 97, 108, 108], [101, 120, 105, 115, 116, 115]] (by kernel_rfl)).trans (hdIn_disj h8 (by kernel_rfl))) ((inB_hd _ _ [[99, 97, 108, 108], [109, 97, 107, 101]] (by kernel_rfl)).trans (hdIn_disj h8 (by kernel_rfl))) (hdIn_no (hdIn_disj h8 (B := [[111, 108, 100]]) (by kernel_rfl))).1 (hdIn_no (hdIn_disj h8 (B := [[102, 117, 101, 108]]) (by kernel_rfl))).1 ((inB_hd _ _ [[98, 105, 116, 115], [101, 109, 112, 116, 121], [109, 97, 112]] (by kernel_rfl)).trans (hdIn_disj h8 (by kernel_rfl))) (hdIn_one h8 (by kernel_rfl)) w hin hX
  | false =>
  cases h9 : hdIn t.form cisget with
  | true =>
    obtain rfl := Option.some.inj (hr.symm.trans (rowc_isget h9))
    rw [kr_isget hne hl]
    exact rkids_c1 t _ _ hk rfl hne hn2 rfl ((inB_hd _ _ [[108, 101, 116], [112, 105, 99, 107], [97, 108, 108], [115, 111, 109, 101], [101, 118, 101, 114, 121], [97, 110, 121], [102, 110], [105, 115], [103, 101, 116], [112, 114, 101, 102, 105, 120]] (by kernel_rfl)).trans (hdIn_sup h9 (by kernel_rfl))) w hin hX
  | false =>
  cases h10 : hdIn t.form cprefix with
  | true =>
    obtain rfl := Option.some.inj (hr.symm.trans (rowc_prefix h10))
    rw [kr_prefix hne hl]
    exact rkids_c1 t _ _ hk rfl hne hn2 rfl ((inB_hd _ _ [[108, 101, 116], [112, 105, 99, 107], [97, 108, 108], [115, 111, 109, 101], [101, 118, 101, 114, 121], [97, 110, 121], [102, 110], [105, 115], [103, 101, 116], [112, 114, 101, 102, 105, 120]] (by kernel_rfl)).trans (hdIn_sup h10 (by kernel_rfl))) w hin hX
  | false =>
  cases h11 : hdIn t.form cfuel with
  | true =>
    obtain rfl := Option.some.inj (hr.symm.trans (rowc_fuel h11))
    rw [kr_fuel hne hl]
    exact rkids_fuel t _ _ hk rfl hne hn2 rfl ((inB_hd _ _ [[108, 101, 116], [112, 105, 99, 107], [97, 108, 108], [115, 111, 109, 101], [101, 118, 101, 114, 121], [97, 110, 121], [102, 110], [105, 115], [103, 101, 116], [112, 114, 101, 102, 105, 120]] (by kernel_rfl)).trans (hdIn_disj h11 (by kernel_rfl))) (hdIn_no (hdIn_disj h11 (B := [[109, 97, 116, 99, 104]]) (by kernel_rfl))).1 ((inB_hd _ _ [[102, 111, 114, 97, 108, 108], [101, 120, 105, 115, 116, 115]] (by kernel_rfl)).trans (hdIn_disj h11 (by kernel_rfl))) ((inB_hd _ _ [[99, 97, 108, 108], [109, 97, 107, 101]] (by kernel_rfl)).trans (hdIn_disj h11 (by kernel_rfl))) (hdIn_no (hdIn_disj h11 (B := [[111, 108, 100]]) (by kernel_rfl))).1 (hdIn_one h11 (by kernel_rfl)) w hin hX
  | false =>
  cases h12 : hdIn t.form clet with
  | true =>
    obtain rfl := Option.some.inj (hr.symm.trans (rowc_let h12))
    rw [kr_let hne hl]
    exact rkids_c1 t _ _ hk rfl hne hn2 rfl ((inB_hd _ _ [[108, 101, 116], [112, 105, 99, 107], [97, 108, 108], [115, 111, 109, 101], [101, 118, 101, 114, 121], [97, 110, 121], [102, 110], [105, 115], [103, 101, 116], [112, 114, 101, 102, 105, 120]] (by kernel_rfl)).trans (hdIn_sup h12 (by kernel_rfl))) w hin hX
  | false =>
  cases h13 : hdIn t.form call with
  | true =>
    obtain rfl := Option.some.inj (hr.symm.trans (rowc_all h13))
    rw [kr_all hne hl]
    exact rkids_c1 t _ _ hk rfl hne hn2 rfl ((inB_hd _ _ [[108, 101, 116], [112, 105, 99, 107], [97, 108, 108], [115, 111, 109, 101], [101, 118, 101, 114, 121], [97, 110, 121], [102, 110], [105, 115], [103, 101, 116], [112, 114, 101, 102, 105, 120]] (by kernel_rfl)).trans (hdIn_sup h13 (by kernel_rfl))) w hin hX
  | false =>
  cases h14 : hdIn t.form cpick with
  | true =>
    obtain rfl := Option.some.inj (hr.symm.trans (rowc_pick h14))
    rw [kr_pick hne hl]
    exact rkids_c1 t _ _ hk rfl hne hn2 rfl ((inB_hd _ _ [[108, 101, 116], [112, 105, 99, 107], [97, 108, 108], [115, 111, 109, 101], [101, 118, 101, 114, 121], [97, 110, 121], [102, 110], [105, 115], [103, 101, 116], [112, 114, 101, 102, 105, 120]] (by kernel_rfl)).trans (hdIn_sup h14 (by kernel_rfl))) w hin hX
  | false =>
  cases h15 : hdIn t.form cfn with
  | true =>
    obtain rfl := Option.some.inj (hr.symm.trans (rowc_fn h15))
    rw [kr_fn hne hl]
    exact rkids_c1 t _ _ hk rfl hne hn2 rfl ((inB_hd _ _ [[108, 101, 116], [112, 105, 99, 107], [97, 108, 108], [115, 111, 109, 101], [101, 118, 101, 114, 121], [97, 110, 121], [102, 110], [105, 115], [103, 101, 116], [112, 114, 101, 102, 105, 120]] (by kernel_rfl)).trans (hdIn_sup h15 (by kernel_rfl))) w hin hX
  | false =>
  cases h16 : hdIn t.form cmatch with
  | true =>
    obtain rfl := Option.some.inj (hr.symm.trans (rowc_match h16))
    rw [kr_match hne hl]
    exact rkids_match t _ _ hk rfl hne hn2 rfl ((inB_hd _ _ [[108, 101, 116], [112, 105, 99, 107], [97, 108, 108], [115, 111, 109, 101], [101, 118, 101, 114, 121], [97, 110, 121], [102, 110], [105, 115], [103, 101, 116], [112, 114, 101, 102, 105, 120]] (by kernel_rfl)).trans (hdIn_disj h16 (by kernel_rfl))) (hdIn_one h16 (by kernel_rfl)) w hin hX
  | false =>
  cases h17 : hdIn t.form cquant with
  | true =>
    obtain rfl := Option.some.inj (hr.symm.trans (rowc_quant h17))
    rw [kr_quant hne hl]
    exact rkids_quant t _ _ hk rfl hne hn2 rfl ((inB_hd _ _ [[108, 101, 116], [112, 105, 99, 107], [97, 108, 108], [115, 111, 109, 101], [101, 118, 101, 114, 121], [97, 110, 121], [102, 110], [105, 115], [103, 101, 116], [112, 114, 101, 102, 105, 120]] (by kernel_rfl)).trans (hdIn_disj h17 (by kernel_rfl))) (hdIn_no (hdIn_disj h17 (B := [[109, 97, 116, 99, 104]]) (by kernel_rfl))).1 ((inB_hd _ _ [[102, 111, 114, 97, 108, 108], [101, 120, 105, 115, 116, 115]] (by kernel_rfl)).trans (hdIn_sup h17 (by kernel_rfl))) w hin hX
  | false =>
  cases hold : hdIn t.form cold with
  | true =>
    have hrr := rowc_old (E := okE (SizeOf.sizeOf t.form)) hold
    rw [el] at hrr
    by_cases hg : 2 < t.ks.length
    · rw [if_pos hg] at hrr
      obtain rfl := Option.some.inj (hr.symm.trans hrr)
      have hl3 : t.ks.length = 3 := by simp [RS.lets] at hl; omega
      rw [kr_old3 hne hl, hl3]
      exact rkids_old3 t _ hk hl3 (by omega) (by omega) rfl ((inB_hd _ _ [[108, 101, 116], [112, 105, 99, 107], [97, 108, 108], [115, 111, 109, 101], [101, 118, 101, 114, 121], [97, 110, 121], [102, 110], [105, 115], [103, 101, 116], [112, 114, 101, 102, 105, 120]] (by kernel_rfl)).trans (hdIn_disj hold (by kernel_rfl))) (hdIn_no (hdIn_disj hold (B := [[109, 97, 116, 99, 104]]) (by kernel_rfl))).1 ((inB_hd _ _ [[102, 111, 114, 97, 108, 108], [101, 120, 105, 115, 116, 115]] (by kernel_rfl)).trans (hdIn_disj hold (by kernel_rfl))) ((inB_hd _ _ [[99, 97, 108, 108], [109, 97, 107, 101]] (by kernel_rfl)).trans (hdIn_disj hold (by kernel_rfl))) (hdIn_one hold (by kernel_rfl)) w hin hX
    · rw [if_neg hg] at hrr
      obtain rfl := Option.some.inj (hr.symm.trans hrr)
      rw [kr_old1 hne hl]
      exact rkids_old1 t _ _ hk rfl hne hn2 rfl ((inB_hd _ _ [[108, 101, 116], [112, 105, 99, 107], [97, 108, 108], [115, 111, 109, 101], [101, 118, 101, 114, 121], [97, 110, 121], [102, 110], [105, 115], [103, 101, 116], [112, 114, 101, 102, 105, 120]] (by kernel_rfl)).trans (hdIn_disj hold (by kernel_rfl))) (hdIn_no (hdIn_disj hold (B := [[109, 97, 116, 99, 104]]) (by kernel_rfl))).1 ((inB_hd _ _ [[102, 111, 114, 97, 108, 108], [101, 120, 105, 115, 116, 115]] (by kernel_rfl)).trans (hdIn_disj hold (by kernel_rfl))) ((inB_hd _ _ [[99, 97, 108, 108], [109, 97, 107, 101]] (by kernel_rfl)).trans (hdIn_disj hold (by kernel_rfl))) (hdIn_one hold (by kernel_rfl)) (hdIn_no (hdIn_disj hold (B := [[102, 117, 101, 108]]) (by kernel_rfl))).1 ((inB_hd _ _ [[98, 105, 116, 115], [101, 109, 112, 116, 121], [109, 97, 112]] (by kernel_rfl)).trans (hdIn_disj hold (by kernel_rfl))) (hdIn_no (hdIn_disj hold (B := [[105, 109, 97, 112]]) (by kernel_rfl))).1 (by omega) w hin hX
  | false =>
  cases hcall : hdIn t.form ccall with
  | true =>
    have hrr := rowc_call (E := okE (SizeOf.sizeOf t.form)) hcall
    unfold callR at hrr
    by_cases hg : t.ks.length ≤ 2
    · have hof : isOf t.form = false := by
        unfold isOf
        rw [T.form_ks]
        match t.ks, hg with
        | [], _ => rfl
        | [_], _ => rfl
        | [_, _], _ => rfl
      rw [if_neg (by rw [hof]; simp)] at hrr
      obtain rfl := Option.some.inj (hr.symm.trans hrr)
      rw [kr_callP hne hl]
      exact rkids_callS t _ _ hk rfl hne hn2 rfl ((inB_hd _ _ [[108, 101, 116], [112, 105, 99, 107], [97, 108, 108], [115, 111, 109, 101], [101, 118, 101, 114, 121], [97, 110, 121], [102, 110], [105, 115], [103, 101, 116], [112, 114, 101, 102, 105, 120]] (by kernel_rfl)).trans (hdIn_disj hcall (by kernel_rfl))) (hdIn_no (hdIn_disj hcall (B := [[109, 97, 116, 99, 104]]) (by kernel_rfl))).1 ((inB_hd _ _ [[102, 111, 114, 97, 108, 108], [101, 120, 105, 115, 116, 115]] (by kernel_rfl)).trans (hdIn_disj hcall (by kernel_rfl))) ((inB_hd _ _ [[99, 97, 108, 108], [109, 97, 107, 101]] (by kernel_rfl)).trans (hdIn_sup hcall (by kernel_rfl))) hg w hin hX
    · have hg2 : 2 < t.ks.length := by omega
      obtain ⟨u, hu⟩ : ∃ u, t.ks[2]'hg2 = u := ⟨_, rfl⟩
      obtain ⟨x, y, r, hxy⟩ : ∃ x y r, t.ks = x :: y :: u :: r := by
        match t.ks, hg2, hu with
        | x :: y :: z :: r, _, hu => exact ⟨x, y, r, by simp at hu; rw [hu]⟩
      have hiff := isOf_iff (f := t.form) (x := x.form) (y := y.form) (u := u.form) (r := r.map T.form) (by rw [T.form_ks, hxy]; rfl)
      by_cases ho' : isOfK u.form
      · rw [if_pos (hiff.2 ho')] at hrr
        obtain rfl := Option.some.inj (hr.symm.trans hrr)
        rw [kr_callO hne hl]
        exact rkids_callO t _ _ hk rfl hne hn2 rfl ((inB_hd _ _ [[108, 101, 116], [112, 105, 99, 107], [97, 108, 108], [115, 111, 109, 101], [101, 118, 101, 114, 121], [97, 110, 121], [102, 110], [105, 115], [103, 101, 116], [112, 114, 101, 102, 105, 120]] (by kernel_rfl)).trans (hdIn_disj hcall (by kernel_rfl))) (hdIn_no (hdIn_disj hcall (B := [[109, 97, 116, 99, 104]]) (by kernel_rfl))).1 ((inB_hd _ _ [[102, 111, 114, 97, 108, 108], [101, 120, 105, 115, 116, 115]] (by kernel_rfl)).trans (hdIn_disj hcall (by kernel_rfl))) ((inB_hd _ _ [[99, 97, 108, 108], [109, 97, 107, 101]] (by kernel_rfl)).trans (hdIn_sup hcall (by kernel_rfl))) u _ hg2 hu rfl (by simpa [isOfK] using ho') w hin hX
      · rw [if_neg (fun e => ho' (hiff.1 e))] at hrr
        obtain rfl := Option.some.inj (hr.symm.trans hrr)
        rw [kr_callP hne hl]
        exact rkids_callP t _ _ hk rfl hne hn2 rfl ((inB_hd _ _ [[108, 101, 116], [112, 105, 99, 107], [97, 108, 108], [115, 111, 109, 101], [101, 118, 101, 114, 121], [97, 110, 121], [102, 110], [105, 115], [103, 101, 116], [112, 114, 101, 102, 105, 120]] (by kernel_rfl)).trans (hdIn_disj hcall (by kernel_rfl))) (hdIn_no (hdIn_disj hcall (B := [[109, 97, 116, 99, 104]]) (by kernel_rfl))).1 ((inB_hd _ _ [[102, 111, 114, 97, 108, 108], [101, 120, 105, 115, 116, 115]] (by kernel_rfl)).trans (hdIn_disj hcall (by kernel_rfl))) ((inB_hd _ _ [[99, 97, 108, 108], [109, 97, 107, 101]] (by kernel_rfl)).trans (hdIn_sup hcall (by kernel_rfl))) u _ hg2 hu rfl (by simpa [isOfK] using ho') w hin hX
  | false =>
    have hno : exprR (okE (SizeOf.sizeOf t.form)) t.form = none := rowc_not h0 h1 h2 h3 h5 h6 h7 h8 h4 h9 hcall h10 h11 hold h12 h13 h14 h16 h15 h17
    rw [hno] at hr; cases hr
set_option maxHeartbeats 1000000 in
theorem rkids_other (t : T) (w : World) (hk : t.kd ≠ 3)
    (hX : ∀ W, Below w.heap.size w W → Calls Tryz.prog 30 #[t.val] W fun e w' => e = .returned (.int .i64 0) ∧ Below W.heap.size W w') :
    Calls Tryz.prog 7 #[t.val] w fun e w' => ∃ v, e = .returned (.tuple #[v, .int .i64 0]) ∧ OwnI w.heap.size w w' v [] := by
  have g : (t.kd != 3) = true := by simpa using hk
  have HX := Lib.hid hX
  clear hk hX
  go_enter Tryz.func7, Tryz.ntmps7
  go_wp2_with (first
    | (go_at_call 30; refine (HX.out _ (bel1 _ _)).mono ?_; rintro e w2 ⟨rfl, hB⟩; obtain ⟨b0, b1, b2, b3⟩ := Box4.cells (w := w2) (b := w.heap.size) (t := t) ((hB.block w.heap.size (by simp)).trans (Box4.new w t)); have HB := Lib.hid (up (bel1 _ _) hB); clear hB))
  refine bodyPost_ret (v := .tuple #[.slice none 0 0, .int .i64 0]) (by simp [results, Tryz.results7, go_sem]) rfl ⟨_, rfl, ?_⟩
  exact (OwnI.start (B := w2.heap.size) (w := w2) (Nat.le_refl _)).lower HB.out.size HB.out
set_option maxHeartbeats 1000000 in
theorem rkids_any (t : T) (w : World) (hin : In w t) (hb : szF t.form ≤ 4611686018427387903) :
    Calls Tryz.prog 7 #[t.val] w fun e w' => ∃ v, ∃ q : Int, e = .returned (.tuple #[v, .int .i64 q]) ∧ (q = 0 ↔ (validF t.form && okX t.form) = true) ∧ OwnI w.heap.size w w' v (if (validF t.form && okX t.form) = true then kidsX t.form else []) := by
  have HX := Lib.hid fun (W : World) (h : Below w.heap.size w W) => rExpr_any t W (hin.below h) hb
  cases hok : (validF t.form && okX t.form) with
  | true =>
    obtain ⟨hv, ho⟩ := Bool.and_eq_true_iff.1 hok
    have hX : ∀ W, Below w.heap.size w W → Calls Tryz.prog 30 #[t.val] W fun e w' => e = .returned (.int .i64 0) ∧ Below W.heap.size W w' := fun W h => (HX.out W h).mono fun e w' hA => hA.yes hok
    by_cases hk : t.kd = 3
    · exact (rkids_list t w hin hk hv ho hX).mono fun e w' ⟨v, he, hO⟩ => ⟨v, 0, he, by simp, by simpa using hO⟩
    · have e0 : kidsX t.form = [] := by unfold kidsX; rw [if_neg (by rw [T.form_kd]; exact hk)]
      exact (rkids_other t w hk hX).mono fun e w' ⟨v, he, hO⟩ => ⟨v, 0, he, by simp, by simpa [e0] using hO⟩
  | false =>
    have HXX := Lib.hid fun (W : World) (h : Below w.heap.size w W) => (HX.out W h).mono fun e w' hA => hA.no (by rw [hok]; simp)
    clear hok HX hin hb
    go_enter Tryz.func7, Tryz.ntmps7
    go_wp2_with (first
      | (go_at_call 30; refine (HXX.out _ (bel1 _ _)).mono ?_; rintro e w2 ⟨q, hq0, hq1, hq2, rfl, hB⟩; have HQ := Lib.hid hq0; have HB := Lib.hid (up (bel1 _ _) hB); clear hB hq0))
    refine bodyPost_ret (v := .tuple #[.slice none 0 0, .int .i64 q]) (by simp [results, Tryz.results7, go_sem]) rfl ⟨_, _, rfl, by have := HQ.out; simp [this], ?_⟩
    exact (OwnI.start (B := w2.heap.size) (w := w2) (Nat.le_refl _)).lower HB.out.size HB.out
end Go.Proofs.YtmlfiopbdlaaaaaGreat
