/- Sizes, depths and validity of forms as plain data. -/
import Derived.Test.YtedabholcldgbaaGreatDoorBase
namespace Go.Proofs.YtedabholcldgbaaGreatDoor
open Go.RowKit

/-- The Kids that count. -/
def Fm.kids (f : Fm) : List Fm := if f.kd = 3 then f.ks else []
theorem Fm.kids_lt {t u : Fm} (h : u ∈ t.kids) : SizeOf.sizeOf u < SizeOf.sizeOf t := by
  unfold Fm.kids at h; split at h
  · exact Fm.kid_lt h
  · cases h

mutual
def szF : Fm → Nat
  | .mk k _ _ ks => 1 + if k = 3 then szL ks else 0
def szL : List Fm → Nat
  | [] => 0
  | f :: fs => szF f + szL fs
end
theorem szF_eq (f : Fm) : szF f = 1 + szL f.kids := by
  cases f with
  | mk k n s ks => unfold szF Fm.kids; simp only [Fm.kd, Fm.ks]; by_cases h : k = 3 <;> simp [h, szL]
mutual
def dpF : Fm → Nat
  | .mk k _ _ ks => 1 + if k = 3 then dpL ks else 0
def dpL : List Fm → Nat
  | [] => 0
  | f :: fs => max (dpF f) (dpL fs)
end
theorem dpF_eq (f : Fm) : dpF f = 1 + dpL f.kids := by
  cases f with
  | mk k n s ks => unfold dpF Fm.kids; simp only [Fm.kd, Fm.ks]; by_cases h : k = 3 <;> simp [h, dpL]

mutual
def walkF (vis : Int → Fm → Int → Int × Bool) : Fm → Int → Int → Int × Bool
  | .mk k n s ks, d, x => if (vis x (.mk k n s ks) d).2 = true then (if k = 3 then walkL vis ks (d + 1) (vis x (.mk k n s ks) d).1 else ((vis x (.mk k n s ks) d).1, true)) else ((vis x (.mk k n s ks) d).1, false)
def walkL (vis : Int → Fm → Int → Int × Bool) : List Fm → Int → Int → Int × Bool
  | [], _, x => (x, true)
  | f :: fs, d, x => if (walkF vis f d x).2 = true then walkL vis fs d (walkF vis f d x).1 else ((walkF vis f d x).1, false)
end
theorem walkF_eq (vis : Int → Fm → Int → Int × Bool) (f : Fm) (d x : Int) : walkF vis f d x = if (vis x f d).2 = true then walkL vis f.kids (d + 1) (vis x f d).1 else ((vis x f d).1, false) := by
  cases f with
  | mk k n s ks =>
    unfold walkF Fm.kids; simp only [Fm.kd, Fm.ks]
    by_cases h : (vis x (.mk k n s ks) d).2 = true <;> by_cases hk : k = 3 <;> simp [h, hk, walkL]

/-- A visit adds at most one to the greater of what was and the depth. -/
structure Tame (vis : Int → Fm → Int → Int × Bool) : Prop where
  lo : ∀ x f d, 0 ≤ x → 0 ≤ d → 0 ≤ (vis x f d).1
  hi : ∀ x f d, (vis x f d).1 ≤ max x d + 1

theorem walkL_bound {vis : Int → Fm → Int → Int × Bool} : ∀ (l : List Fm) (d x : Int), (∀ f ∈ l, ∀ x, 0 ≤ x → 0 ≤ (walkF vis f d x).1 ∧ (walkF vis f d x).1 ≤ max x d + szF f) → 0 ≤ x →
    0 ≤ (walkL vis l d x).1 ∧ (walkL vis l d x).1 ≤ max x d + szL l
  | [], d, x, _, h0 => by simp only [walkL, szL]; omega
  | f :: fs, d, x, h, h0 => by
    have h1 := h f (by simp) x h0
    simp only [walkL, szL]
    split
    · have h2 := walkL_bound fs d (walkF vis f d x).1 (fun g hg => h g (by simp [hg])) h1.1
      omega
    · simp only; omega
theorem walkF_bound' {vis : Int → Fm → Int → Int × Bool} (ht : Tame vis) (n : Nat) : ∀ f : Fm, SizeOf.sizeOf f < n → ∀ d x : Int, 0 ≤ d → 0 ≤ x →
    0 ≤ (walkF vis f d x).1 ∧ (walkF vis f d x).1 ≤ max x d + szF f := by
  induction n with
  | zero => intro f h; omega
  | succ n ih =>
    intro f hf d x hd hx
    have l := ht.lo x f d hx hd
    have u := ht.hi x f d
    rw [walkF_eq, szF_eq]
    split
    · have := walkL_bound (vis := vis) f.kids (d + 1) (vis x f d).1 (fun g hg y hy => ih g (by have := Fm.kids_lt hg; omega) (d + 1) y (by omega) hy) l
      omega
    · simp only; omega
theorem walkF_bound {vis : Int → Fm → Int → Int × Bool} (ht : Tame vis) (f : Fm) (d x : Int) (hd : 0 ≤ d) (hx : 0 ≤ x) :
    0 ≤ (walkF vis f d x).1 ∧ (walkF vis f d x).1 ≤ max x d + szF f := walkF_bound' ht _ f (Nat.lt_succ_self _) d x hd hx

/-! ### The three visits -/
def visSize : Int → Fm → Int → Int × Bool := fun x _ _ => (x + 1, true)
def visDepth : Int → Fm → Int → Int × Bool := fun x _ d => (max x d, true)
theorem visSize_tame : Tame visSize := ⟨fun x _ _ h _ => by simp only [visSize]; omega, fun x _ d => by simp only [visSize]; omega⟩
theorem visDepth_tame : Tame visDepth := ⟨fun x _ _ h _ => by simp only [visDepth]; omega, fun x _ d => by simp only [visDepth]; omega⟩
theorem walkL_size : ∀ (l : List Fm) (d x : Int), (∀ f ∈ l, ∀ d x, walkF visSize f d x = (x + szF f, true)) → walkL visSize l d x = (x + szL l, true)
  | [], d, x, _ => by simp [walkL, szL]
  | f :: fs, d, x, h => by
    simp only [walkL, szL]
    rw [h f (by simp)]
    simp only [if_pos]
    rw [walkL_size fs d _ fun g hg => h g (by simp [hg])]
    simp only [Prod.mk.injEq, and_true]; omega
theorem walkF_size' (n : Nat) : ∀ f : Fm, SizeOf.sizeOf f < n → ∀ d x, walkF visSize f d x = (x + szF f, true) := by
  induction n with
  | zero => intro f h; omega
  | succ n ih =>
    intro f hf d x
    rw [walkF_eq, szF_eq]
    simp only [visSize, if_pos]
    have := walkL_size f.kids (d + 1) (x + 1) fun g hg => ih g (by have := Fm.kids_lt hg; omega)
    rw [this]
    simp only [Prod.mk.injEq, and_true]; omega
theorem walkF_size (f : Fm) (d x : Int) : walkF visSize f d x = (x + szF f, true) := walkF_size' _ f (Nat.lt_succ_self _) d x
theorem walkL_depth : ∀ (l : List Fm) (d x : Int), (∀ f ∈ l, ∀ x, walkF visDepth f d x = (max x (d + dpF f - 1), true)) → (d - 1 ≤ x) → walkL visDepth l d x = (max x (d + dpL l - 1), true)
  | [], d, x, _, hx => by simp only [walkL, dpL, Prod.mk.injEq, and_true]; omega
  | f :: fs, d, x, h, hx => by
    simp only [walkL, dpL]
    rw [h f (by simp)]
    simp only [if_pos]
    rw [walkL_depth fs d _ (fun g hg => h g (by simp [hg])) (by omega)]
    simp only [Prod.mk.injEq, and_true]; omega
theorem walkF_depth' (n : Nat) : ∀ f : Fm, SizeOf.sizeOf f < n → ∀ d x, walkF visDepth f d x = (max x (d + dpF f - 1), true) := by
  induction n with
  | zero => intro f h; omega
  | succ n ih =>
    intro f hf d x
    rw [walkF_eq, dpF_eq]
    have := walkL_depth f.kids (d + 1) (max x d) (fun g hg x => ih g (by have := Fm.kids_lt hg; omega) (d + 1) x) (by omega)
    simp only [visDepth, if_pos]
    rw [this]
    simp only [Prod.mk.injEq, and_true]; omega
theorem walkF_depth (f : Fm) (d x : Int) : walkF visDepth f d x = (max x (d + dpF f - 1), true) := walkF_depth' _ f (Nat.lt_succ_self _) d x
end Go.Proofs.YtedabholcldgbaaGreatDoor
