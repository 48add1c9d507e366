/- Words between blanks: a text that holds " s " holds the word s. Plain. -/
import Derived.Lib.IndexMore
import Derived.Lib.Fields
import Derived.KernelRfl
namespace Go.Proofs.YtmlfiopbdlaaaaaGreat
open Go

/-- The words of a text, cut at its blanks. -/
def splitB : List UInt8 → List UInt8 → List (List UInt8)
  | cur, [] => [cur]
  | cur, b :: l => if b = 32 then cur :: splitB [] l else splitB (cur ++ [b]) l
/-- Is a text one of a row's words? -/
def inB (s : List UInt8) : List UInt8 → List UInt8 → Bool
  | cur, [] => decide (cur = s)
  | cur, b :: l => if b = 32 then (decide (cur = s) || inB s [] l) else inB s (cur ++ [b]) l
theorem inB_split (s : List UInt8) : ∀ (l cur : List UInt8), inB s cur l = decide (s ∈ splitB cur l)
  | [], cur => by simp only [inB, splitB, List.mem_singleton]; exact decide_eq_decide.2 eq_comm
  | b :: l, cur => by
    unfold inB splitB
    split
    · rw [inB_split s l]; simp only [List.mem_cons, Bool.decide_or]; rw [decide_eq_decide.2 (eq_comm (a := cur) (b := s))]
    · exact inB_split s l _

/-- Words, a blank behind each. -/
def flat : List (List UInt8) → List UInt8
  | [] => []
  | w :: L => w ++ 32 :: flat L
theorem has_cons (b : UInt8) (l p : List UInt8) : 0 ≤ Lib.index (b :: l) p ↔ (p.isPrefixOf (b :: l) = true ∨ 0 ≤ Lib.index l p) := by
  have := Lib.index_ge l p
  conv => lhs; unfold Lib.index
  split
  · rename_i h; simp [h]
  · rename_i h
    split
    · rename_i h2
      have h2 : Lib.index l p = -1 := by simpa using h2
      simp [h, h2]
    · rename_i h2
      have h2 : ¬ Lib.index l p = -1 := by simpa using h2
      simp [h]; omega
theorem has_skip (p : List UInt8) : ∀ (w l : List UInt8), 32 ∉ w → (0 ≤ Lib.index (w ++ l) (32 :: p) ↔ 0 ≤ Lib.index l (32 :: p))
  | [], l, _ => by simp
  | b :: w, l, h => by
    have hb : ¬ (32 : UInt8) = b := fun e => h (by simp [e])
    rw [List.cons_append, has_cons, has_skip p w l (fun e => h (by simp [e]))]
    have : (32 :: p).isPrefixOf (b :: (w ++ l)) = false := by simp [List.isPrefixOf, hb]
    simp [this]
theorem pre_word : ∀ (s w r : List UInt8), 32 ∉ s → 32 ∉ w → ((s ++ [32]).isPrefixOf (w ++ 32 :: r) = true ↔ s = w)
  | [], [], r, _, _ => by simp [List.isPrefixOf]
  | [], b :: w, r, _, h => by
    have hb : ¬ (32 : UInt8) = b := fun e => h (by simp [e])
    simp [List.isPrefixOf, hb]
  | a :: s, [], r, h, _ => by
    have hb : ¬ a = (32 : UInt8) := fun e => h (by simp [e])
    simp [List.isPrefixOf, hb]
  | a :: s, b :: w, r, h, h' => by
    have := pre_word s w r (fun e => h (by simp [e])) (fun e => h' (by simp [e]))
    simp [List.isPrefixOf] at this ⊢
    rw [this]
    exact fun _ => Iff.rfl
theorem has_words (s : List UInt8) (hs : 32 ∉ s) : ∀ L : List (List UInt8), (∀ w ∈ L, 32 ∉ w) → (0 ≤ Lib.index (32 :: flat L) (32 :: (s ++ [32])) ↔ s ∈ L)
  | [], _ => by
    simp [flat, List.isPrefixOf, Lib.index]
  | w :: L, h => by
    have hw := h w (by simp)
    have ih := has_words s hs L (fun x hx => h x (by simp [hx]))
    rw [has_cons, flat, has_skip _ w _ hw, ih]
    have : (32 :: (s ++ [32])).isPrefixOf (32 :: (w ++ 32 :: flat L)) = (s ++ [32]).isPrefixOf (w ++ 32 :: flat L) := by simp [List.isPrefixOf]
    rw [this, pre_word s w _ hs hw]
    simp
end Go.Proofs.YtmlfiopbdlaaaaaGreat
