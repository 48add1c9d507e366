/- The lines of a form, as plain data. -/
import Derived.Test.YtedabholcldgbaaGreatDoorTxt
namespace Go.Proofs.YtedabholcldgbaaGreatDoor.Y
open Go.RowKit

def blk (n : Nat) : List UInt8 := List.replicate n 32
/-- How many Kids stand in the front. -/
def frN : List Fm → Nat
  | [] => 0
  | k :: ks => if k.kd ≠ 1 then 0 else match ks with
    | [] => 1
    | k2 :: _ => if k2.kd ≠ 3 then 2 else 1
/-- The indent of the Kids behind the front. -/
def indN (ks : List Fm) : Nat := if frN ks = 0 then 1 else 2
mutual
def linF : Fm → Nat → Nat → Nat → List UInt8
  | .mk kd n s ks, c, w, k =>
    if c + (txF (.mk kd n s ks)).length + k ≤ w ∨ kd ≠ 3 ∨ ks = [] then txF (.mk kd n s ks)
    else 40 :: (joinB ((ks.take (frN ks)).map txF) ++ (linL ks (frN ks) 0 (c + indN ks) w k ++ [41]))
def linL : List Fm → Nat → Nat → Nat → Nat → Nat → List UInt8
  | [], _, _, _, _, _ => []
  | f :: fs, fr, i, inn, w, k => (if i < fr then [] else (if 0 < i then 10 :: blk inn else []) ++ linF f inn w (if fs.isEmpty then k + 1 else 0)) ++ linL fs fr (i + 1) inn w k
end
theorem linF_eq (f : Fm) (c w k : Nat) : linF f c w k = if c + (txF f).length + k ≤ w ∨ f.kd ≠ 3 ∨ f.ks = [] then txF f
    else 40 :: (joinB ((f.ks.take (frN f.ks)).map txF) ++ (linL f.ks (frN f.ks) 0 (c + indN f.ks) w k ++ [41])) := by
  cases f; rw [linF]; rfl
theorem frN_le (ks : List Fm) : frN ks ≤ ks.length ∧ frN ks ≤ 2 := by
  cases ks with
  | nil => simp [frN]
  | cons a r =>
    cases r with
    | nil => simp only [frN]; split <;> simp
    | cons b r =>
      simp only [frN]
      split
      · simp
      · split <;> simp
/-- The Kids of the front are left out. -/
theorem linL_skip : ∀ (j : Nat) (l : List Fm) (fr i inn w k : Nat), i + j ≤ fr → j ≤ l.length → linL l fr i inn w k = linL (l.drop j) fr (i + j) inn w k
  | 0, l, fr, i, inn, w, k, _, _ => by simp
  | j + 1, [], fr, i, inn, w, k, _, h => by simp at h
  | j + 1, f :: fs, fr, i, inn, w, k, h, hl => by
    rw [linL, if_pos (by omega), List.nil_append, linL_skip j fs fr (i + 1) inn w k (by omega) (by simpa using hl), List.drop_succ_cons, show i + 1 + j = i + (j + 1) by omega]
/-- The next Kid's lines. -/
theorem linL_next {l : List Fm} {fr i inn w k : Nat} (h : i < l.length) (hf : fr ≤ i) :
    linL (l.drop i) fr i inn w k = (if 0 < i then 10 :: blk inn else []) ++ (linF l[i] inn w (if i + 1 = l.length then k + 1 else 0) ++ linL (l.drop (i + 1)) fr (i + 1) inn w k) := by
  rw [List.drop_eq_getElem_cons h, linL, if_neg (by omega)]
  have e : (l.drop (i + 1)).isEmpty = decide (i + 1 = l.length) := by
    rw [Bool.eq_iff_iff, List.isEmpty_iff]
    simp only [List.drop_eq_nil_iff, decide_eq_true_eq]
    omega
  rw [e]
  simp only [decide_eq_true_eq, List.append_assoc]
theorem linL_end {l : List Fm} {fr i inn w k : Nat} (h : l.length ≤ i) : linL (l.drop i) fr i inn w k = [] := by
  rw [List.drop_of_length_le h, linL]
/-- A Kid of a valid form. -/
theorem dpL_mem {l : List Fm} {f : Fm} (h : f ∈ l) : dpF f ≤ dpL l := by
  induction l with
  | nil => cases h
  | cons g l ih =>
    simp only [dpL]
    rcases List.mem_cons.1 h with rfl | h
    · omega
    · have := ih h; omega
theorem szL_mem {l : List Fm} {f : Fm} (h : f ∈ l) : szF f ≤ szL l := by
  induction l with
  | nil => cases h
  | cons g l ih =>
    simp only [szL]
    rcases List.mem_cons.1 h with rfl | h
    · omega
    · have := ih h; omega
theorem valid_kid {f g : Fm} (h : validF f = true) (hk : f.kd = 3) (hg : g ∈ f.ks) : validF g = true ∧ szF g < szF f ∧ dpF g < dpF f := by
  obtain ⟨h1, h2, h3⟩ := valid_parts h
  have hks : f.kids = f.ks := by unfold Fm.kids; rw [if_pos hk]
  have a := szL_mem hg
  have b := dpL_mem hg
  have c := szF_eq f
  have d := dpF_eq f
  rw [hks] at c d
  rw [fieldsF_eq, Bool.and_eq_true, hks] at h3
  have e := fieldsL_mem h3.2 hg
  refine ⟨?_, by omega, by omega⟩
  unfold validF
  simp only [Bool.and_eq_true, decide_eq_true_eq]
  exact ⟨⟨by omega, by omega⟩, e⟩
theorem joinB_take_len : ∀ (l : List Fm) (j : Nat), (∀ f ∈ l, (txF f).length + 3 ≤ 4010 * szF f) → (joinB ((l.take j).map txF)).length ≤ 4010 * szL (l.take j) := fun l j h => by
  have := joinB_len (l.take j) fun f hf => h f (List.mem_of_mem_take hf)
  omega
theorem szL_split : ∀ (l : List Fm) (j : Nat), szL l = szL (l.take j) + szL (l.drop j)
  | [], j => by simp [szL]
  | f :: fs, 0 => by simp [szL]
  | f :: fs, j + 1 => by
    have := szL_split fs j
    simp only [List.take_succ_cons, List.drop_succ_cons, szL]
    omega
/-- How long the lines are. -/
theorem lin_len (n : Nat) : ∀ f : Fm, SizeOf.sizeOf f < n → fieldsF f = true → ∀ c w k, c + 2 * dpF f ≤ 400 → (linF f c w k).length + 401 ≤ 4830 * szF f := by
  induction n with
  | zero => intro f h; omega
  | succ n ih =>
    intro f hn hf c w k hc
    have h0 := txF_len hf
    have hp : 1 ≤ szF f := by rw [szF_eq]; omega
    rw [linF_eq]
    split
    · omega
    · rename_i hx
      have hk : f.kd = 3 := by
        by_cases e : f.kd = 3
        · exact e
        · exact absurd (.inr (.inl e)) hx
      have hks : f.kids = f.ks := by unfold Fm.kids; rw [if_pos hk]
      have hfl := hf
      rw [fieldsF_eq, Bool.and_eq_true, hks] at hfl
      have hkid : ∀ g ∈ f.ks, fieldsF g = true := fun g hg => fieldsL_mem hfl.2 hg
      have hjo := joinB_take_len f.ks (frN f.ks) fun g hg => txF_len (hkid g hg)
      have hind : indN f.ks ≤ 2 := by unfold indN; split <;> omega
      have hdp := dpF_eq f
      rw [hks] at hdp
      have hl : ∀ (l : List Fm) (fr i : Nat), (∀ g ∈ l, fieldsF g = true ∧ SizeOf.sizeOf g < n ∧ dpF g ≤ dpL f.ks) → (linL l fr i (c + indN f.ks) w k).length ≤ 4830 * szL (l.drop (fr - i)) := by
        intro l
        induction l with
        | nil => intro fr i _; simp [linL]
        | cons g l ihl =>
          intro fr i hall
          have hg := hall g (by simp)
          have hr := ihl fr (i + 1) fun x hx => hall x (by simp [hx])
          rw [linL]
          by_cases hi : i < fr
          · rw [if_pos hi, List.nil_append]
            rw [show fr - i = (fr - (i + 1)) + 1 by omega, List.drop_succ_cons]
            exact hr
          · rw [if_neg hi]
            rw [show fr - i = 0 by omega, List.drop_zero]
            rw [show fr - (i + 1) = 0 by omega, List.drop_zero] at hr
            have h1 := ih g hg.2.1 hg.1 (c + indN f.ks) w (if l.isEmpty then k + 1 else 0) (by omega)
            have h2 : (if 0 < i then (10 : UInt8) :: blk (c + indN f.ks) else []).length ≤ 401 := by
              split
              · simp [blk]; omega
              · simp
            simp only [List.length_append, szL]
            omega
      have h3 := hl f.ks (frN f.ks) 0 fun g hg => ⟨hkid g hg, by have := Fm.kid_lt hg; omega, dpL_mem hg⟩
      have h4 := szL_split f.ks (frN f.ks)
      rw [Nat.sub_zero] at h3
      rw [szF_eq, hks]
      simp only [List.length_cons, List.length_append, List.length_nil]
      omega
theorem linF_len {f : Fm} (h : validF f = true) (c w k : Nat) (hc : c + 2 * dpF f ≤ 400) : (linF f c w k).length ≤ 96600000 := by
  obtain ⟨h1, h2, h3⟩ := valid_parts h
  have := lin_len _ f (Nat.lt_succ_self _) h3 c w k hc
  omega

/-! ### What is left of a room -/
mutual
def spF : Fm → Int → Int
  | .mk kd n s ks, r => if ks.isEmpty then r - (txF (.mk kd n s ks)).length else spL ks (r - (2 + (ks.length : Int) - 1))
def spL : List Fm → Int → Int
  | [], r => r
  | f :: fs, r => if r < 0 then r else spL fs (spF f r)
end
theorem spF_eq (f : Fm) (r : Int) : spF f r = if f.ks.isEmpty then r - (txF f).length else spL f.ks (r - (2 + (f.ks.length : Int) - 1)) := by
  cases f; rw [spF]; rfl
def sumT : List Fm → Nat
  | [] => 0
  | f :: fs => (txF f).length + sumT fs
theorem joinB_sum (f : Fm) (fs : List Fm) : (joinB ((f :: fs).map txF)).length = sumT (f :: fs) + fs.length := by
  have : ∀ l : List Fm, ((l.map txF).flatMap fun y => (32 : UInt8) :: y).length = sumT l + l.length := by
    intro l
    induction l with
    | nil => simp [sumT]
    | cons g l ih => simp only [List.map_cons, List.flatMap_cons, List.length_append, List.length_cons, sumT, ih]; omega
  simp only [List.map_cons, joinB, List.length_append, this, sumT]
  omega
theorem txF_list {f : Fm} (hf : fieldsF f = true) (hne : f.ks ≠ []) : f.kd = 3 ∧ (txF f).length = sumT f.ks + f.ks.length + 1 := by
  rw [fieldsF_eq, Bool.and_eq_true] at hf
  have hk : f.kd = 3 := by
    rcases alone_cases hf.1 with ⟨_, _, h, _⟩ | ⟨_, _, h, _⟩ | ⟨_, _, h, _⟩ | ⟨h, _, _⟩
    · exact absurd h hne
    · exact absurd h hne
    · exact absurd h hne
    · exact h
  refine ⟨hk, ?_⟩
  rw [txF_eq, if_neg (by omega), if_neg (by omega), if_neg (by omega)]
  cases hks : f.ks with
  | nil => exact absurd hks hne
  | cons a r =>
    have := joinB_sum a r
    simp only [List.length_cons, List.length_append, List.length_nil]
    omega
theorem sp_ok (n : Nat) : ∀ f : Fm, SizeOf.sizeOf f < n → fieldsF f = true → ∀ r, spF f r ≤ r ∧ r - (txF f).length ≤ spF f r ∧ (0 ≤ spF f r → spF f r = r - (txF f).length) := by
  induction n with
  | zero => intro f h; omega
  | succ n ih =>
    intro f hn hf r
    rw [spF_eq]
    cases he : f.ks.isEmpty with
    | true => simp; omega
    | false =>
      have hne : f.ks ≠ [] := by intro e; rw [e] at he; simp at he
      obtain ⟨hk, htx⟩ := txF_list hf hne
      have hks : f.kids = f.ks := by unfold Fm.kids; rw [if_pos hk]
      have hfl := hf
      rw [fieldsF_eq, Bool.and_eq_true, hks] at hfl
      have hl : ∀ (l : List Fm) (r : Int), (∀ g ∈ l, fieldsF g = true ∧ SizeOf.sizeOf g < n) → spL l r ≤ r ∧ r - sumT l ≤ spL l r ∧ (0 ≤ spL l r → spL l r = r - sumT l) := by
        intro l
        induction l with
        | nil => intro r _; simp [spL, sumT]
        | cons g l ihl =>
          intro r hall
          have hg := hall g (by simp)
          rw [spL]
          split
          · simp only [sumT]; omega
          · have h1 := ih g hg.2 hg.1 r
            have h2 := ihl (spF g r) fun x hx => hall x (by simp [hx])
            simp only [sumT]
            omega
      have h3 := hl f.ks (r - (2 + (f.ks.length : Int) - 1)) fun g hg => ⟨fieldsL_mem hfl.2 hg, by have := Fm.kid_lt hg; omega⟩
      have hpos : 1 ≤ f.ks.length := by
        cases hks : f.ks with
        | nil => exact absurd hks hne
        | cons a r => simp
      simp only [Bool.false_eq_true, if_false]
      omega
/-- A room is enough just if something of it is left. -/
theorem sp_room {f : Fm} (hf : fieldsF f = true) (r : Int) : 0 ≤ spF f r ↔ ((txF f).length : Int) ≤ r := by
  have := sp_ok _ f (Nat.lt_succ_self _) hf r
  omega
theorem sp_bound {f : Fm} (hf : fieldsF f = true) (r : Int) : spF f r ≤ r ∧ r - (txF f).length ≤ spF f r := by
  have := sp_ok _ f (Nat.lt_succ_self _) hf r
  omega
end Go.Proofs.YtedabholcldgbaaGreatDoor.Y
