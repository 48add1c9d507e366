/- The order of forms is one. Plain. -/
import Derived.Test.YtedabholcldgbaaGreatDoorBase
namespace Go.Proofs.YtedabholcldgbaaGreatDoor
open Go.RowKit

def Rng (p : Int) : Prop := p = -1 ∨ p = 0 ∨ p = 1
def Tri (p q r : Int) : Prop := (p = 0 → r = q) ∧ (q = 0 → r = p) ∧ (p = -1 → q = -1 → r = -1) ∧ (p = 1 → q = 1 → r = 1)
def lex (p q : Int) : Int := if p ≠ 0 then p else q
theorem Rng.lex {p q : Int} (h : Rng p) (h' : p = 0 → Rng q) : Rng (lex p q) := by
  unfold Go.Proofs.YtedabholcldgbaaGreatDoor.lex; split
  · exact h
  · rename_i e; exact h' (by simpa using e)
theorem Tri.lex {p q r p' q' r' : Int} (hp : Rng p) (hq : Rng q) (h : Tri p q r) (h' : p = 0 → q = 0 → Tri p' q' r') : Tri (lex p p') (lex q q') (lex r r') := by
  unfold Go.Proofs.YtedabholcldgbaaGreatDoor.lex Tri Rng at *
  obtain ⟨h1, h2, h3, h4⟩ := h
  rcases hp with rfl | rfl | rfl
  · rcases hq with rfl | rfl | rfl
    · have := h3 rfl rfl; subst this; simp
    · have := h2 rfl; subst this; simp
    · simp
  · have := h1 rfl; subst this
    rcases hq with rfl | rfl | rfl
    · simp
    · simpa using h' rfl rfl
    · simp
  · rcases hq with rfl | rfl | rfl
    · simp
    · have := h2 rfl; subst this; simp
    · have := h4 rfl rfl; subst this; simp

theorem cmpI_rng (a b : Int) : Rng (cmpI a b) := by unfold cmpI Rng; split; · exact .inl rfl
                                                    · split; · exact .inr (.inr rfl)
                                                      · exact .inr (.inl rfl)
theorem cmpI_anti (a b : Int) : cmpI a b = -cmpI b a := by unfold cmpI; split <;> split <;> first | rfl | (split <;> first | rfl | omega) | omega
theorem cmpI_tri (a b c : Int) : Tri (cmpI a b) (cmpI b c) (cmpI a c) := by
  unfold Tri cmpI
  refine ⟨fun h => ?_, fun h => ?_, fun h h' => ?_, fun h h' => ?_⟩ <;> (repeat' split at *) <;> omega
theorem cmpI_zero {a b : Int} (h : cmpI a b = 0) : a = b := by unfold cmpI at h; split at h; · omega
                                                               · split at h <;> omega
theorem cmpI_self (a : Int) : cmpI a a = 0 := by unfold cmpI; rw [if_neg (by omega), if_neg (by omega)]

theorem bytes_eq (a b : UInt8) (x y : List UInt8) : Lib.compareBytes (a :: x) (b :: y) = lex (cmpI a.toNat b.toNat) (Lib.compareBytes x y) := by
  unfold Lib.compareBytes lex cmpI
  simp only [UInt8.lt_iff_toNat_lt, Int.ofNat_lt]
  by_cases h : a.toNat < b.toNat
  · simp [h]
  · by_cases h' : b.toNat < a.toNat
    · simp [h, h']
    · simp [h, h']
      cases x <;> cases y <;> simp [Lib.compareBytes, UInt8.lt_iff_toNat_lt]
theorem bytes_rng : ∀ x y : List UInt8, Rng (Lib.compareBytes x y)
  | [], [] => .inr (.inl rfl)
  | [], _ :: _ => .inl rfl
  | _ :: _, [] => .inr (.inr rfl)
  | a :: x, b :: y => by rw [bytes_eq]; exact (cmpI_rng _ _).lex fun _ => bytes_rng x y
theorem lex_neg (p q : Int) : -lex p q = lex (-p) (-q) := by unfold lex; by_cases h : p = 0 <;> simp [h]
theorem bytes_anti : ∀ x y : List UInt8, Lib.compareBytes x y = -Lib.compareBytes y x
  | [], [] => rfl
  | [], _ :: _ => rfl
  | _ :: _, [] => rfl
  | a :: x, b :: y => by rw [bytes_eq, bytes_eq, lex_neg, ← cmpI_anti, ← bytes_anti x y]
theorem bytes_tri : ∀ x y z : List UInt8, Tri (Lib.compareBytes x y) (Lib.compareBytes y z) (Lib.compareBytes x z)
  | [], [], _ => by simp [Tri, Lib.compareBytes]
  | [], _ :: _, [] => by simp [Tri, Lib.compareBytes]
  | [], _ :: _, _ :: _ => by simp [Tri, Lib.compareBytes]
  | _ :: _, [], [] => by simp [Tri, Lib.compareBytes]
  | _ :: _, [], _ :: _ => by simp [Tri, Lib.compareBytes]
  | _ :: _, _ :: _, [] => by simp [Tri, Lib.compareBytes]
  | a :: x, b :: y, c :: z => by
    rw [bytes_eq, bytes_eq, bytes_eq]
    exact (cmpI_tri _ _ _).lex (cmpI_rng _ _) (cmpI_rng _ _) fun _ _ => bytes_tri x y z
theorem bytes_self : ∀ x : List UInt8, Lib.compareBytes x x = 0
  | [] => rfl
  | a :: x => by rw [bytes_eq, cmpI_self, bytes_self x]; rfl

/-- Behind the Kind. -/
def cmpB (a b : Fm) : Int := if a.kd = 0 then cmpI a.nn b.nn else if a.kd = 1 ∨ a.kd = 2 then Lib.compareBytes a.tx.data.toList b.tx.data.toList else if a.kd = 3 then cmpL a.ks b.ks else 0
theorem cmpF_lex (a b : Fm) : cmpF a b = lex (cmpI a.kd b.kd) (cmpB a b) := by rw [cmpF_eq]; rfl
theorem cmpL_lex (a b : Fm) (x y : List Fm) : cmpL (a :: x) (b :: y) = lex (cmpF a b) (cmpL x y) := by rw [cmpL]; rfl

theorem cmpL_rng (x : List Fm) : ∀ y : List Fm, (∀ a ∈ x, ∀ b, Rng (cmpF a b)) → Rng (cmpL x y) := by
  induction x with
  | nil => intro y _; cases y <;> simp [cmpL, Rng]
  | cons a x ih =>
    intro y h
    cases y with
    | nil => simp [cmpL, Rng]
    | cons b y => rw [cmpL_lex]; exact (h a (by simp) b).lex fun _ => ih y fun a' ha => h a' (by simp [ha])
theorem cmpF_rng' (n : Nat) : ∀ a : Fm, SizeOf.sizeOf a < n → ∀ b, Rng (cmpF a b) := by
  induction n with
  | zero => intro a h; omega
  | succ n ih =>
    intro a h b
    rw [cmpF_lex]
    refine (cmpI_rng _ _).lex fun _ => ?_
    unfold cmpB
    split
    · exact cmpI_rng _ _
    · split
      · exact bytes_rng _ _
      · split
        · exact cmpL_rng _ _ fun a' ha b' => ih a' (by have := Fm.kid_lt ha; omega) b'
        · exact .inr (.inl rfl)
theorem cmpF_rng (a b : Fm) : Rng (cmpF a b) := cmpF_rng' _ a (Nat.lt_succ_self _) b

theorem cmpL_anti (x : List Fm) : ∀ y : List Fm, (∀ a ∈ x, ∀ b, cmpF a b = -cmpF b a) → cmpL x y = -cmpL y x := by
  induction x with
  | nil => intro y _; cases y <;> simp [cmpL]
  | cons a x ih =>
    intro y h
    cases y with
    | nil => simp [cmpL]
    | cons b y => rw [cmpL_lex, cmpL_lex, lex_neg, ← h a (by simp) b, ← ih y fun a' ha => h a' (by simp [ha])]
theorem cmpF_anti' (n : Nat) : ∀ a : Fm, SizeOf.sizeOf a < n → ∀ b, cmpF a b = -cmpF b a := by
  induction n with
  | zero => intro a h; omega
  | succ n ih =>
    intro a h b
    rw [cmpF_lex, cmpF_lex, lex_neg, ← cmpI_anti]
    by_cases hk : cmpI a.kd b.kd = 0
    · have hk' := cmpI_zero hk
      unfold lex
      rw [if_neg (by simpa using hk), if_neg (by simpa using hk)]
      unfold cmpB
      rw [← hk']
      split
      · exact cmpI_anti _ _
      · split
        · exact bytes_anti _ _
        · split
          · exact cmpL_anti _ _ fun a' ha b' => ih a' (by have := Fm.kid_lt ha; omega) b'
          · rfl
    · unfold lex
      rw [if_pos hk, if_pos hk]
theorem cmpF_anti (a b : Fm) : cmpF a b = -cmpF b a := cmpF_anti' _ a (Nat.lt_succ_self _) b

theorem cmpL_tri (x : List Fm) : ∀ y z : List Fm, (∀ a ∈ x, ∀ b c, Tri (cmpF a b) (cmpF b c) (cmpF a c)) → Tri (cmpL x y) (cmpL y z) (cmpL x z) := by
  induction x with
  | nil =>
    intro y z _
    cases y <;> cases z <;> simp [cmpL, Tri]
  | cons a x ih =>
    intro y z h
    cases y with
    | nil => cases z <;> simp [cmpL, Tri]
    | cons b y =>
      cases z with
      | nil => simp [cmpL, Tri]
      | cons c z =>
        rw [cmpL_lex, cmpL_lex, cmpL_lex]
        exact (h a (by simp) b c).lex (cmpF_rng _ _) (cmpF_rng _ _) fun _ _ => ih y z fun a' ha => h a' (by simp [ha])
theorem cmpF_tri' (n : Nat) : ∀ a : Fm, SizeOf.sizeOf a < n → ∀ b c, Tri (cmpF a b) (cmpF b c) (cmpF a c) := by
  induction n with
  | zero => intro a h; omega
  | succ n ih =>
    intro a h b c
    rw [cmpF_lex, cmpF_lex, cmpF_lex]
    refine (cmpI_tri _ _ _).lex (cmpI_rng _ _) (cmpI_rng _ _) fun e1 e2 => ?_
    have h1 := cmpI_zero e1
    unfold cmpB
    rw [← h1]
    split
    · exact cmpI_tri _ _ _
    · split
      · exact bytes_tri _ _ _
      · split
        · exact cmpL_tri _ _ _ fun a' ha b' c' => ih a' (by have := Fm.kid_lt ha; omega) b' c'
        · simp [Tri]
theorem cmpF_tri (a b c : Fm) : Tri (cmpF a b) (cmpF b c) (cmpF a c) := cmpF_tri' _ a (Nat.lt_succ_self _) b c
theorem cmpF_le {a b c : Fm} (h : cmpF a b ≤ 0) (h' : cmpF b c ≤ 0) : ¬ 0 < cmpF a c := by
  have h1 := cmpF_tri a b c
  have h2 := cmpF_rng a b
  have h3 := cmpF_rng b c
  unfold Tri Rng at *
  obtain ⟨a1, a2, a3, a4⟩ := h1
  rcases h2 with e | e | e
  · rcases h3 with e' | e' | e'
    · have := a3 e e'; omega
    · have := a2 e'; omega
    · omega
  · have := a1 e; omega
  · omega
theorem cmpF_self' (n : Nat) : ∀ a : Fm, SizeOf.sizeOf a < n → cmpF a a = 0 := by
  induction n with
  | zero => intro a h; omega
  | succ n ih =>
    intro a h
    rw [cmpF_lex, cmpI_self]
    show cmpB a a = 0
    have hl : ∀ x : List Fm, (∀ b ∈ x, cmpF b b = 0) → cmpL x x = 0 := by
      intro x
      induction x with
      | nil => intro _; simp [cmpL]
      | cons b x ihx => intro hb; rw [cmpL_lex, hb b (by simp), ihx fun c hc => hb c (by simp [hc])]; rfl
    unfold cmpB
    split
    · exact cmpI_self _
    · split
      · exact bytes_self _
      · split
        · exact hl _ fun b hb => ih b (by have := Fm.kid_lt hb; omega)
        · rfl
theorem cmpF_self (a : Fm) : cmpF a a = 0 := cmpF_self' _ a (Nat.lt_succ_self _)
theorem cmpL_self : ∀ x : List Fm, cmpL x x = 0
  | [] => by simp [cmpL]
  | b :: x => by rw [cmpL_lex, cmpF_self, cmpL_self x]; rfl
end Go.Proofs.YtedabholcldgbaaGreatDoor
