/- Sorted lists of forms: what an insertion leaves; two of them are the same. -/
import Derived.Test.YtedabholcldgbaaGreatDoorSoSort
import Derived.Test.YtedabholcldgbaaGreatDoorOwn
namespace Go.Proofs.YtedabholcldgbaaGreatDoor.So
open Go.RowKit Go.Deep

theorem cT_form {t u : T} (h : u.form = t.form) (x : T) : cT x u = cT x t ∧ cT u x = cT t x := by unfold cT; rw [h]; exact ⟨rfl, rfl⟩
theorem take_next {ts : List T} {k : Nat} (hk : k < ts.length) (x : T) : x ∈ ts.take (k + 1) ↔ x ∈ ts.take k ∨ x = ts[k] := by
  rw [List.take_succ_eq_append_getElem hk, List.mem_append, List.mem_singleton]
/-- It is there. -/
theorem SortedOf.skip {ts us : List T} {k a : Nat} (h : SortedOf (ts.take k) us) (hk : k < ts.length) (ha : a < us.length) (he : cT us[a] ts[k] = 0) : SortedOf (ts.take (k + 1)) us := by
  refine ⟨h.asc, fun u hu => ?_, fun t ht => ?_⟩
  · obtain ⟨t, ht, e⟩ := h.sub u hu
    exact ⟨t, (take_next hk t).2 (.inl ht), e⟩
  · rcases (take_next hk t).1 ht with ht | rfl
    · exact h.sup t ht
    · exact ⟨us[a], List.getElem_mem ha, by rw [cT_anti]; omega⟩
/-- It is put. -/
theorem SortedOf.put {ts us : List T} {k a : Nat} {u : T} (h : SortedOf (ts.take k) us) (hk : k < ts.length) (hu : u.form = ts[k].form) (ha : a ≤ us.length) (h1 : ∀ x (hx : x < us.length), x < a → cT us[x] ts[k] < 0) (h2 : ∀ hx : a < us.length, 0 < cT us[a] ts[k]) :
    SortedOf (ts.take (k + 1)) (us.take a ++ [u] ++ us.drop a) := by
  have hc := cT_form hu
  have hmem : ∀ x, x ∈ us.take a ++ [u] ++ us.drop a ↔ x ∈ us ∨ x = u := fun x => by
    have e : x ∈ us ↔ x ∈ us.take a ∨ x ∈ us.drop a := by
      rw [← List.mem_append, List.take_append_drop]
    rw [e]
    simp only [List.mem_append, List.mem_singleton]
    constructor
    · rintro ((p | p) | p)
      · exact .inl (.inl p)
      · exact .inr p
      · exact .inl (.inr p)
    · rintro ((p | p) | p)
      · exact .inl (.inl p)
      · exact .inr p
      · exact .inl (.inr p)
  have hasc : (us.take a ++ us.drop a).Pairwise fun t u => cT t u < 0 := by rw [List.take_append_drop]; exact h.asc
  rw [List.pairwise_append] at hasc
  obtain ⟨p1, p2, p3⟩ := hasc
  have q1 : ∀ x ∈ us.take a, cT x u < 0 := fun x hx => by
    obtain ⟨i, hi, rfl⟩ := List.getElem_of_mem hx
    have hi' : i < a ∧ i < us.length := by rw [List.length_take] at hi; omega
    rw [(hc _).1, List.getElem_take]
    exact h1 i hi'.2 hi'.1
  have q2 : ∀ x ∈ us.drop a, cT u x < 0 := fun x hx => by
    have hal : a < us.length := by
      rcases Nat.lt_or_ge a us.length with c | c
      · exact c
      · rw [List.drop_of_length_le c] at hx; cases hx
    have h0 : cT ts[k] us[a] < 0 := by rw [cT_anti]; have := h2 hal; omega
    rw [(hc _).2]
    rw [List.drop_eq_getElem_cons hal] at hx p2
    rcases List.mem_cons.1 hx with rfl | hx
    · exact h0
    · exact cT_lt h0 ((List.pairwise_cons.1 p2).1 x hx)
  refine ⟨?_, fun x hx => ?_, fun t ht => ?_⟩
  · unfold Asc
    rw [List.pairwise_append, List.pairwise_append]
    refine ⟨⟨p1, List.pairwise_singleton _ _, fun x hx y hy => ?_⟩, p2, fun x hx y hy => ?_⟩
    · rw [List.mem_singleton] at hy; rw [hy]; exact q1 x hx
    · rcases List.mem_append.1 hx with hx | hx
      · exact p3 x hx y hy
      · rw [List.mem_singleton] at hx; rw [hx]; exact q2 y hy
  · rcases (hmem x).1 hx with hx | rfl
    · obtain ⟨t, ht, e⟩ := h.sub x hx
      exact ⟨t, (take_next hk t).2 (.inl ht), e⟩
    · exact ⟨ts[k], (take_next hk _).2 (.inr rfl), by rw [(hc _).1, cT_self]⟩
  · rcases (take_next hk t).1 ht with ht | rfl
    · obtain ⟨x, hx, e⟩ := h.sup t ht
      exact ⟨x, (hmem x).2 (.inl hx), e⟩
    · exact ⟨u, (hmem u).2 (.inr rfl), by rw [(hc _).1, cT_self]⟩
/-- Each the same. -/
def Like : List T → List T → Prop
  | [], [] => True
  | u :: us, v :: vs => cT u v = 0 ∧ Like us vs
  | [], _ :: _ => False
  | _ :: _, [] => False
/-- Two lists, ascending, of the same forms. -/
theorem asc_same : ∀ (us vs : List T), Asc us → Asc vs → (∀ u ∈ us, ∃ v ∈ vs, cT u v = 0) → (∀ v ∈ vs, ∃ u ∈ us, cT u v = 0) → Like us vs
  | [], [], _, _, _, _ => trivial
  | [], v :: vs, _, _, _, h2 => by
    obtain ⟨u, hu, _⟩ := h2 v (by simp)
    exact absurd hu (by simp)
  | u :: us, [], _, _, h1, _ => by
    obtain ⟨v, hv, _⟩ := h1 u (by simp)
    exact absurd hv (by simp)
  | u :: us, v :: vs, a1, a2, h1, h2 => by
    have b1 := List.pairwise_cons.1 a1
    have b2 := List.pairwise_cons.1 a2
    have h0 : cT u v = 0 := by
      obtain ⟨v', hv', e⟩ := h1 u (by simp)
      obtain ⟨u', hu', e'⟩ := h2 v (by simp)
      rcases List.mem_cons.1 hv' with rfl | hv'
      · exact e
      · rcases List.mem_cons.1 hu' with rfl | hu'
        · exact e'
        · exfalso
          have c1 : cT v u < 0 := cT_lt_zero (b2.1 v' hv') (by rw [cT_anti]; omega)
          have c2 : cT u v < 0 := cT_lt_zero (b1.1 u' hu') e'
          rw [cT_anti] at c1
          omega
    refine ⟨h0, asc_same us vs b1.2 b2.2 (fun x hx => ?_) fun y hy => ?_⟩
    · obtain ⟨v', hv', e⟩ := h1 x (by simp [hx])
      rcases List.mem_cons.1 hv' with rfl | hv'
      · exfalso
        have c1 := b1.1 x hx
        have c2 : cT u v' < 0 := cT_lt_zero c1 e
        omega
      · exact ⟨v', hv', e⟩
    · obtain ⟨u', hu', e⟩ := h2 y (by simp [hy])
      rcases List.mem_cons.1 hu' with rfl | hu'
      · exfalso
        have c1 := b2.1 y hy
        have c2 : cT u' y < 0 := cT_zero_lt h0 c1
        omega
      · exact ⟨u', hu', e⟩
theorem SortedOf.same {ts us vs : List T} (h1 : SortedOf ts us) (h2 : SortedOf ts vs) : Like us vs := by
  refine asc_same us vs h1.asc h2.asc (fun u hu => ?_) fun v hv => ?_
  · obtain ⟨t, ht, e⟩ := h1.sub u hu
    obtain ⟨v, hv, e2⟩ := h2.sup t ht
    exact ⟨v, hv, cT_zero (by rw [cT_anti]; omega) e2⟩
  · obtain ⟨t, ht, e⟩ := h2.sub v hv
    obtain ⟨u, hu, e2⟩ := h1.sup t ht
    exact ⟨u, hu, cT_zero (by rw [cT_anti]; omega) e⟩
end Go.Proofs.YtedabholcldgbaaGreatDoor.So
