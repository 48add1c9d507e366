/- A form as text, and how long it is. Plain. -/
import Derived.Test.YtedabholcldgbaaGreatDoorSize
import Derived.Lib.ItoaNum
import Derived.Lib.ItoaLen
namespace Go.Proofs.YtedabholcldgbaaGreatDoor
open Go.RowKit

/-- A text's byte, as it is written. -/
def escB (b : UInt8) : List UInt8 := if b.toNat = 34 ∨ b.toNat = 92 then [92, b] else if b.toNat = 10 then [92, 110] else [b]
def escL (l : List UInt8) : List UInt8 := l.flatMap escB
def quoL (l : List UInt8) : List UInt8 := 34 :: (escL l ++ [34])
/-- Parts with blanks between. -/
def joinB : List (List UInt8) → List UInt8
  | [] => []
  | x :: r => x ++ r.flatMap fun y => 32 :: y
theorem joinB_snoc (l : List (List UInt8)) (x : List UInt8) : joinB (l ++ [x]) = joinB l ++ ((if l.length = 0 then [] else [32]) ++ x) := by
  cases l with
  | nil => simp [joinB]
  | cons y r => simp [joinB]
theorem escL_snoc (l : List UInt8) (b : UInt8) : escL (l ++ [b]) = escL l ++ escB b := by simp [escL]
theorem escB_len (b : UInt8) : 1 ≤ (escB b).length ∧ (escB b).length ≤ 2 := by
  unfold escB; split
  · simp
  · split <;> simp
theorem escL_len (l : List UInt8) : (escL l).length ≤ 2 * l.length := by
  induction l with
  | nil => simp [escL]
  | cons b l ih =>
    have := (escB_len b).2
    simp only [escL, List.flatMap_cons, List.length_append, List.length_cons] at *
    omega
mutual
def txF : Fm → List UInt8
  | .mk k n s ks => if k = 0 then Lib.itoa n else if k = 1 then s.data.toList else if k = 2 then quoL s.data.toList else 40 :: (joinB (txL ks) ++ [41])
def txL : List Fm → List (List UInt8)
  | [] => []
  | f :: fs => txF f :: txL fs
end
theorem txL_map : ∀ l : List Fm, txL l = l.map txF
  | [] => by simp [txL]
  | f :: fs => by simp [txL, txL_map fs]
theorem txF_eq (f : Fm) : txF f = if f.kd = 0 then Lib.itoa f.nn else if f.kd = 1 then f.tx.data.toList else if f.kd = 2 then quoL f.tx.data.toList else 40 :: (joinB (f.ks.map txF) ++ [41]) := by
  cases f; unfold txF; rw [txL_map]; rfl
theorem joinB_len : ∀ (l : List Fm), (∀ f ∈ l, (txF f).length + 3 ≤ 4010 * szF f) → (joinB (l.map txF)).length + 2 * l.length ≤ 4010 * szL l := by
  intro l h
  cases l with
  | nil => simp [joinB, szL]
  | cons f r =>
    have h0 := h f (by simp)
    have hr : ∀ r : List Fm, (∀ f ∈ r, (txF f).length + 3 ≤ 4010 * szF f) → ((r.map txF).flatMap fun y => (32 : UInt8) :: y).length + 2 * r.length ≤ 4010 * szL r := by
      intro r
      induction r with
      | nil => intro _; simp [szL]
      | cons g r ih =>
        intro h
        have h1 := h g (by simp)
        have h2 := ih fun x hx => h x (by simp [hx])
        simp only [List.map_cons, List.flatMap_cons, List.length_append, List.length_cons, szL] at *
        omega
    have h1 := hr r fun x hx => h x (by simp [hx])
    simp only [List.map_cons, joinB, List.length_append, List.length_cons, szL]
    omega
theorem fieldsL_mem : ∀ {l : List Fm} {f : Fm}, fieldsL l = true → f ∈ l → fieldsF f = true
  | [], _, _, h => by cases h
  | g :: l, f, h, hm => by
    simp only [fieldsL, Bool.and_eq_true] at h
    rcases List.mem_cons.1 hm with rfl | hm
    · exact h.1
    · exact fieldsL_mem h.2 hm
/-- What a form with right fields is. -/
theorem alone_cases {f : Fm} (h : aloneF f = true) :
    (f.kd = 0 ∧ f.tx.size = 0 ∧ f.ks = [] ∧ -1152921504606846976 ≤ f.nn ∧ f.nn ≤ 1152921504606846976) ∨ (f.kd = 1 ∧ f.nn = 0 ∧ f.ks = [] ∧ wordB f.tx = true) ∨ (f.kd = 2 ∧ f.nn = 0 ∧ f.ks = [] ∧ textB f.tx = true) ∨ (f.kd = 3 ∧ f.nn = 0 ∧ f.tx.size = 0) := by
  unfold aloneF at h
  split at h
  · rename_i k
    simp only [Bool.and_eq_true, beq_iff_eq, List.isEmpty_iff, rangeB, decide_eq_true_eq] at h
    exact .inl ⟨k, h.1.1, h.1.2, h.2.1, h.2.2⟩
  · split at h
    · rename_i k
      simp only [Bool.and_eq_true, beq_iff_eq, List.isEmpty_iff] at h
      exact .inr (.inl ⟨k, h.1.1, h.1.2, h.2⟩)
    · split at h
      · rename_i k
        simp only [Bool.and_eq_true, beq_iff_eq, List.isEmpty_iff] at h
        exact .inr (.inr (.inl ⟨k, h.1.1, h.1.2, h.2⟩))
      · split at h
        · rename_i k
          simp only [Bool.and_eq_true, beq_iff_eq] at h
          exact .inr (.inr (.inr ⟨k, h.1, h.2⟩))
        · cases h
theorem word_size {s : ByteArray} (h : wordB s = true) : 1 ≤ s.size ∧ s.size ≤ 30 := by
  unfold wordB at h
  simp only [Bool.and_eq_true, decide_eq_true_eq] at h
  exact h.1.1
theorem text_size {s : ByteArray} (h : textB s = true) : s.size ≤ 2000 := by
  unfold textB at h
  simp only [Bool.and_eq_true, decide_eq_true_eq] at h
  exact h.1
theorem txF_len' (n : Nat) : ∀ f : Fm, SizeOf.sizeOf f < n → fieldsF f = true → (txF f).length + 3 ≤ 4010 * szF f := by
  induction n with
  | zero => intro f h; omega
  | succ n ih =>
    intro f hn h
    rw [fieldsF_eq, Bool.and_eq_true] at h
    have hp : 1 ≤ szF f := by rw [szF_eq]; omega
    rw [txF_eq]
    rcases alone_cases h.1 with ⟨k, _, _, h1, h2⟩ | ⟨k, _, _, hw⟩ | ⟨k, _, _, hw⟩ | ⟨k, _, _⟩
    · rw [if_pos k]
      have := Lib.itoa_length_le f.nn (by omega) (by omega)
      omega
    · rw [if_neg (by omega), if_pos k]
      have := (word_size hw).2
      have e : f.tx.data.toList.length = f.tx.size := by simp
      omega
    · rw [if_neg (by omega), if_neg (by omega), if_pos k]
      have := text_size hw
      have e : f.tx.data.toList.length = f.tx.size := by simp
      have := escL_len f.tx.data.toList
      simp only [quoL, List.length_cons, List.length_append, List.length_nil]
      omega
    · rw [if_neg (by omega), if_neg (by omega), if_neg (by omega)]
      have hks : f.kids = f.ks := by unfold Fm.kids; rw [if_pos k]
      rw [szF_eq, hks]
      rw [hks] at h
      have := joinB_len f.ks fun g hg => ih g (by have := Fm.kid_lt hg; omega) (fieldsL_mem h.2 hg)
      simp only [List.length_cons, List.length_append, List.length_nil]
      omega
theorem txF_len {f : Fm} (h : fieldsF f = true) : (txF f).length + 3 ≤ 4010 * szF f := txF_len' _ f (Nat.lt_succ_self _) h
/-- What Write tells. -/
def wrF (f : Fm) : List UInt8 := if validF f = true then txF f else []
theorem valid_parts {f : Fm} (h : validF f = true) : szF f ≤ 20000 ∧ dpF f ≤ 100 ∧ fieldsF f = true := by
  unfold validF at h
  simp only [Bool.and_eq_true, decide_eq_true_eq] at h
  exact ⟨h.1.1, h.1.2, h.2⟩
theorem wrF_len (f : Fm) : (wrF f).length ≤ 80200000 := by
  unfold wrF
  split
  · rename_i h
    obtain ⟨h1, _, h3⟩ := valid_parts h
    have := txF_len h3
    omega
  · simp
end Go.Proofs.YtedabholcldgbaaGreatDoor
