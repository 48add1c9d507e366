/- The document's items of a text: comments that are kept, and forms. Plain. -/
import Derived.Test.YtedabholcldgbaaGreatDoorYScanEq
namespace Go.Proofs.YtedabholcldgbaaGreatDoor.Y
open Go.RowKit Go.Deep

/-- The items of a text, from some place on: a comment that is kept, or a form. N: the fuel of past. -/
def itemsL (N : Nat) : Nat → List UInt8 → Bool → List (Option (List UInt8))
  | 0, _, _ => []
  | _ + 1, [], _ => []
  | n + 1, b :: r, bare =>
    if b.toNat = 10 then itemsL N n r true
    else if blankB (b.toNat : Int) = true then itemsL N n r bare
    else if b.toNat = 59 then (if bare = true then [some (trmF ((b :: r).take (endF (b :: r))))] else []) ++ itemsL N n ((b :: r).drop (endF (b :: r))) bare
    else none :: itemsL N n ((b :: r).drop (pastF N (b :: r) 0)) false
/-- How many of them are forms. -/
def forms (l : List (Option (List UInt8))) : Nat := l.countP fun x => x.isNone
theorem readR_loop {s : ByteArray} {fs : List Fm} (h : readR s = .ok fs) : s.size ≤ 60000 ∧ loopS s (s.size + 1) 0 [] [] false = .ok [] fs := by
  unfold readR at h
  split at h
  · cases h
  · rename_i hs
    refine ⟨by omega, ?_⟩
    cases hl : loopS s (s.size + 1) 0 [] [] false with
    | err c => rw [hl] at h; cases h
    | ok O top =>
      rw [hl] at h
      unfold readDone at h
      simp only at h
      split at h
      · cases h
      · rename_i hO
        split at h
        · injection h with e
          have : O = [] := by simpa using hO
          rw [this, e]
        · cases h
/-- There are as many forms among the items as are read. -/
theorem items_forms (s : ByteArray) : ∀ (n k pos : Nat) (top : List Fm) (t bare : Bool) (F : List Fm), loopS s k pos [] top t = .ok [] F → s.size - pos < k → s.size < n + pos → forms (itemsL (s.size + 1) n (s.data.toList.drop pos) bare) + top.length = F.length := by
  intro n
  induction n with
  | zero =>
    intro k pos top t bare F h hk hn
    obtain ⟨k0, rfl⟩ : ∃ k0, k = k0 + 1 := ⟨k - 1, by omega⟩
    rw [loopS, dif_neg (by omega)] at h
    injection h with _ e
    rw [← e, itemsL]
    simp [forms]
  | succ n ih =>
    intro k pos top t bare F h hk hn
    obtain ⟨k0, rfl⟩ : ∃ k0, k = k0 + 1 := ⟨k - 1, by omega⟩
    by_cases hp : pos < s.size
    · have h0 := h
      rw [drop_byte' s pos hp, itemsL, ← drop_byte' s pos hp]
      have blankStep : blankB (s[pos].toNat : Int) = true → ∀ bare, forms (itemsL (s.size + 1) n (s.data.toList.drop (pos + 1)) bare) + top.length = F.length := by
        intro hb bare
        rw [loopS, dif_pos hp] at h
        unfold stepS at h
        have h59 : s[pos].toNat ≠ 59 := by intro e; rw [e] at hb; revert hb; decide
        rw [if_neg h59, if_pos hb] at h
        exact ih k0 (pos + 1) top false bare F h (by omega) (by omega)
      by_cases h10 : s[pos].toNat = 10
      · rw [if_pos h10]
        exact blankStep (by rw [h10]; decide) true
      · rw [if_neg h10]
        by_cases hb : blankB (s[pos].toNat : Int) = true
        · rw [if_pos hb]
          exact blankStep hb bare
        · rw [if_neg hb]
          by_cases h59 : s[pos].toNat = 59
          · rw [if_pos h59]
            rw [loopS, dif_pos hp] at h
            unfold stepS at h
            rw [if_pos h59, nnl_end] at h
            have hpos : 1 ≤ endF (s.data.toList.drop pos) := by
              rw [drop_byte' s pos hp, endF, if_neg (by omega)]; omega
            have := ih k0 (pos + endF (s.data.toList.drop pos)) top false bare F h (by omega) (by omega)
            rw [List.drop_drop]
            have e : forms ((if bare = true then [some (trmF ((s.data.toList.drop pos).take (endF (s.data.toList.drop pos))))] else []) ++ itemsL (s.size + 1) n (s.data.toList.drop (pos + endF (s.data.toList.drop pos))) bare) = forms (itemsL (s.size + 1) n (s.data.toList.drop (pos + endF (s.data.toList.drop pos))) bare) := by
              unfold forms
              rw [List.countP_append]
              split <;> simp
            first
              | (rw [e]; exact this)
              | (rw [Nat.add_comm (endF _) pos, e]; exact this)
          · rw [if_neg h59]
            obtain ⟨k', t', f, i1, i2, i3⟩ := past_read s (s.size + 1) (k0 + 1) pos [] top t F h0 hk (by omega) (fun _ => ⟨hp, by simpa using hb, h59⟩)
            simp only [List.length_nil] at i1 i2 i3
            obtain ⟨P, hP⟩ : ∃ P, pastF (s.size + 1) (s.data.toList.drop pos) 0 = P := ⟨_, rfl⟩
            have hP' : pastF (s.size + 1) (s.data.toList.drop pos) ((0 : Nat) : Int) = P := hP
            rw [hP'] at i1 i2 i3
            rw [hP, List.drop_drop]
            have := ih k' (pos + P) (top ++ [f]) t' false F i1 i2 (by omega)
            simp only [List.length_append, List.length_cons, List.length_nil] at this
            have e : forms (none :: itemsL (s.size + 1) n (s.data.toList.drop (pos + P)) false) = forms (itemsL (s.size + 1) n (s.data.toList.drop (pos + P)) false) + 1 := by
              unfold forms; simp
            first
              | (rw [e]; omega)
              | (rw [Nat.add_comm P pos, e]; omega)
    · rw [loopS, dif_neg hp] at h
      injection h with _ e
      rw [List.drop_of_length_le (by simp; omega), itemsL, ← e]
      simp [forms]
/-- Of a text that reads. -/
theorem items_read {s : ByteArray} {fs : List Fm} (h : readR s = .ok fs) : forms (itemsL (s.size + 1) (s.size + 1) s.data.toList true) = fs.length := by
  obtain ⟨_, hl⟩ := readR_loop h
  have := items_forms s (s.size + 1) (s.size + 1) 0 [] false true fs hl (by omega) (by omega)
  simpa using this
end Go.Proofs.YtedabholcldgbaaGreatDoor.Y
