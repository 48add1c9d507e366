/- reader.Valid of any form: the functions behind it, and itself. -/
import Derived.Test.YtmlfiopbdlaaaaaGreatProg
import Derived.Test.YtmlfiopbdlaaaaaGreatBase
import Derived.Test.YtmlfiopbdlaaaaaGreatShelf
import Derived.Deep.QuietTactic
import Derived.BigQuiet
import Derived.WalkLawsBesides
import Derived.WalkSpells
import Derived.Handy
import Derived.Deep.Draws
import Derived.Deep.Slices
import Derived.Deep.LoopGhost
import Derived.BigGuardPart
namespace Go.Proofs.YtmlfiopbdlaaaaaGreat
open Go.RowKit Go.Deep
theorem ret_int {k : IntKind} {a b : Int} (h : a = b) : Ending.returned (.int k a) = .returned (.int k b) := by rw [h]
theorem ret_bool {a b : Bool} (h : a = b) : Ending.returned (.bool a) = .returned (.bool b) := by rw [h]
/-- The Kids that count. -/
def Fm.kids (f : Fm) : List Fm := if f.kd = 3 then f.ks else []
theorem Fm.kids_lt {t u : Fm} (h : u ∈ t.kids) : SizeOf.sizeOf u < SizeOf.sizeOf t := by
  unfold Fm.kids at h; split at h
  · exact Fm.kid_lt h
  · cases h
mutual
def szF : Fm → Nat
  | .mk k _ _ ks => 1 + if k = 3 then szL ks else 0
def szL : List Fm → Nat
  | [] => 0
  | f :: fs => szF f + szL fs
end
theorem szF_eq (f : Fm) : szF f = 1 + szL f.kids := by
  cases f with
  | mk k n s ks => unfold szF Fm.kids; simp only [Fm.kd, Fm.ks]; by_cases h : k = 3 <;> simp [h, szL]
mutual
def dpF : Fm → Nat
  | .mk k _ _ ks => 1 + if k = 3 then dpL ks else 0
def dpL : List Fm → Nat
  | [] => 0
  | f :: fs => max (dpF f) (dpL fs)
end
theorem dpF_eq (f : Fm) : dpF f = 1 + dpL f.kids := by
  cases f with
  | mk k n s ks => unfold dpF Fm.kids; simp only [Fm.kd, Fm.ks]; by_cases h : k = 3 <;> simp [h, dpL]
mutual
def walkF (vis : Int → Fm → Int → Int × Bool) : Fm → Int → Int → Int × Bool
  | .mk k n s ks, d, x => if (vis x (.mk k n s ks) d).2 = true then (if k = 3 then walkL vis ks (d + 1) (vis x (.mk k n s ks) d).1 else ((vis x (.mk k n s ks) d).1, true)) else ((vis x (.mk k n s ks) d).1, false)
def walkL (vis : Int → Fm → Int → Int × Bool) : List Fm → Int → Int → Int × Bool
  | [], _, x => (x, true)
  | f :: fs, d, x => if (walkF vis f d x).2 = true then walkL vis fs d (walkF vis f d x).1 else ((walkF vis f d x).1, false)
end
theorem walkF_eq (vis : Int → Fm → Int → Int × Bool) (f : Fm) (d x : Int) : walkF vis f d x = if (vis x f d).2 = true then walkL vis f.kids (d + 1) (vis x f d).1 else ((vis x f d).1, false) := by
  cases f with
  | mk k n s ks =>
    unfold walkF Fm.kids; simp only [Fm.kd, Fm.ks]
    by_cases h : (vis x (.mk k n s ks) d).2 = true <;> by_cases hk : k = 3 <;> simp [h, hk, walkL]
/-- A visit adds at most one to the greater of what was and the depth. -/
structure Tame (vis : Int → Fm → Int → Int × Bool) : Prop where
  lo : ∀ x f d, 0 ≤ x → 0 ≤ d → 0 ≤ (vis x f d).1
  hi : ∀ x f d, (vis x f d).1 ≤ max x d + 1
theorem walkL_bound {vis : Int → Fm → Int → Int × Bool} : ∀ (l : List Fm) (d x : Int), (∀ f ∈ l, ∀ x, 0 ≤ x → 0 ≤ (walkF vis f d x).1 ∧ (walkF vis f d x).1 ≤ max x d + szF f) → 0 ≤ x →
    0 ≤ (walkL vis l d x).1 ∧ (walkL vis l d x).1 ≤ max x d + szL l
  | [], d, x, _, h0 => by simp only [walkL, szL]; omega
  | f :: fs, d, x, h, h0 => by
    have h1 := h f (by simp) x h0
    simp only [walkL, szL]
    split
    · have h2 := walkL_bound fs d (walkF vis f d x).1 (fun g hg => h g (by simp [hg])) h1.1
      omega
    · simp only; omega
theorem walkF_bound' {vis : Int → Fm → Int → Int × Bool} (ht : Tame vis) (n : Nat) : ∀ f : Fm, SizeOf.sizeOf f < n → ∀ d x : Int, 0 ≤ d → 0 ≤ x →
    0 ≤ (walkF vis f d x).1 ∧ (walkF vis f d x).1 ≤ max x d + szF f := by
  induction n with
  | zero => intro f h; omega
  | succ n ih =>
    intro f hf d x hd hx
    have l := ht.lo x f d hx hd
    have u := ht.hi x f d
    rw [walkF_eq, szF_eq]
    split
    · have := walkL_bound (vis := vis) f.kids (d + 1) (vis x f d).1 (fun g hg y hy => ih g (by have := Fm.kids_lt hg; omega) (d + 1) y (by omega) hy) l
      omega
    · simp only; omega
theorem walkF_bound {vis : Int → Fm → Int → Int × Bool} (ht : Tame vis) (f : Fm) (d x : Int) (hd : 0 ≤ d) (hx : 0 ≤ x) :
    0 ≤ (walkF vis f d x).1 ∧ (walkF vis f d x).1 ≤ max x d + szF f := walkF_bound' ht _ f (Nat.lt_succ_self _) d x hd hx
/-! ### The three visits -/
def visSize : Int → Fm → Int → Int × Bool := fun x _ _ => (x + 1, true)
def visDepth : Int → Fm → Int → Int × Bool := fun x _ d => (max x d, true)
theorem visSize_tame : Tame visSize := ⟨fun x _ _ h _ => by simp only [visSize]; omega, fun x _ d => by simp only [visSize]; omega⟩
theorem visDepth_tame : Tame visDepth := ⟨fun x _ _ h _ => by simp only [visDepth]; omega, fun x _ d => by simp only [visDepth]; omega⟩
theorem walkL_size : ∀ (l : List Fm) (d x : Int), (∀ f ∈ l, ∀ d x, walkF visSize f d x = (x + szF f, true)) → walkL visSize l d x = (x + szL l, true)
  | [], d, x, _ => by simp [walkL, szL]
  | f :: fs, d, x, h => by
    simp only [walkL, szL]
    rw [h f (by simp)]
    simp only [if_pos]
    rw [walkL_size fs d _ fun g hg => h g (by simp [hg])]
    simp only [Prod.mk.injEq, and_true]; omega
theorem walkF_size' (n : Nat) : ∀ f : Fm, SizeOf.sizeOf f < n → ∀ d x, walkF visSize f d x = (x + szF f, true) := by
  induction n with
  | zero => intro f h; omega
  | succ n ih =>
    intro f hf d x
    rw [walkF_eq, szF_eq]
    simp only [visSize, if_pos]
    have := walkL_size f.kids (d + 1) (x + 1) fun g hg => ih g (by have := Fm.kids_lt hg; omega)
    rw [this]
    simp only [Prod.mk.injEq, and_true]; omega
theorem walkF_size (f : Fm) (d x : Int) : walkF visSize f d x = (x + szF f, true) := walkF_size' _ f (Nat.lt_succ_self _) d x
theorem walkL_depth : ∀ (l : List Fm) (d x : Int), (∀ f ∈ l, ∀ x, walkF visDepth f d x = (max x (d + dpF f - 1), true)) → (d - 1 ≤ x) → walkL visDepth l d x = (max x (d + dpL l - 1), true)
  | [], d, x, _, hx => by simp only [walkL, dpL, Prod.mk.injEq, and_true]; omega
  | f :: fs, d, x, h, hx => by
    simp only [walkL, dpL]
    rw [h f (by simp)]
    simp only [if_pos]
    rw [walkL_depth fs d _ (fun g hg => h g (by simp [hg])) (by omega)]
    simp only [Prod.mk.injEq, and_true]; omega
theorem walkF_depth' (n : Nat) : ∀ f : Fm, SizeOf.sizeOf f < n → ∀ d x, walkF visDepth f d x = (max x (d + dpF f - 1), true) := by
  induction n with
  | zero => intro f h; omega
  | succ n ih =>
    intro f hf d x
    rw [walkF_eq, dpF_eq]
    have := walkL_depth f.kids (d + 1) (max x d) (fun g hg x => ih g (by have := Fm.kids_lt hg; omega) (d + 1) x) (by omega)
    simp only [visDepth, if_pos]
    rw [this]
    simp only [Prod.mk.injEq, and_true]; omega
theorem walkF_depth (f : Fm) (d x : Int) : walkF visDepth f d x = (max x (d + dpF f - 1), true) := walkF_depth' _ f (Nat.lt_succ_self _) d x
def plainB (b : Int) : Bool := decide (33 ≤ b) && decide (b ≤ 126)
def digB (b : Int) : Bool := decide (48 ≤ b) && decide (b ≤ 57)
def tokB (b : Int) : Bool := plainB b && (b != 40) && (b != 41) && (b != 34) && (b != 59)
def blankB (b : Int) : Bool := (b == 32) || (b == 9) || (b == 10)
def txtB (b : Int) : Bool := (b == 10) || (b == 32) || plainB b
/-- A function of a byte that only tells. -/
def BOk (K : FuncId) (p : Int → Bool) : Prop := ∀ (b : Int) (w : World), Calls Tryz.prog K #[.int .u8 b] w fun e w' => e = .returned (.bool (p b)) ∧ w = w'
theorem plain_ok : BOk 206 plainB := by
  intro b w
  by_cases h1 : 33 ≤ b
  · by_cases h2 : b ≤ 126
    · have e : plainB b = true := by simp [plainB, h1, h2]
      rw [e]
      go_enter Tryz.func206, Tryz.ntmps206
      go_wp2
      go_ret
      exact ⟨rfl, rfl⟩
    · have e : plainB b = false := by simp [plainB, h2]
      rw [e]
      go_enter Tryz.func206, Tryz.ntmps206
      go_wp2
      go_ret
      exact ⟨rfl, rfl⟩
  · have e : plainB b = false := by simp [plainB, h1]
    have h1' : decide (33 ≤ b) = false := by simpa using h1
    rw [e]
    go_enter Tryz.func206, Tryz.ntmps206
    go_wp2
    go_ret
    exact ⟨rfl, rfl⟩
theorem dig_ok : BOk 218 digB := by
  intro b w
  by_cases h1 : 48 ≤ b
  · by_cases h2 : b ≤ 57
    · have e : digB b = true := by simp [digB, h1, h2]
      rw [e]
      go_enter Tryz.func218, Tryz.ntmps218
      go_wp2
      go_ret
      exact ⟨rfl, rfl⟩
    · have e : digB b = false := by simp [digB, h2]
      rw [e]
      go_enter Tryz.func218, Tryz.ntmps218
      go_wp2
      go_ret
      exact ⟨rfl, rfl⟩
  · have e : digB b = false := by simp [digB, h1]
    have h1' : decide (48 ≤ b) = false := by simpa using h1
    rw [e]
    go_enter Tryz.func218, Tryz.ntmps218
    go_wp2
    go_ret
    exact ⟨rfl, rfl⟩
theorem tok_ok : BOk 203 tokB := by
  intro b w
  have HP := Lib.hid (plain_ok b)
  cases hp : plainB b with
  | false =>
    have e : tokB b = false := by simp [tokB, hp]
    rw [hp] at HP
    rw [e]
    clear hp e
    go_enter Tryz.func203, Tryz.ntmps203
    go_wp2_with (go_at_call 206; refine (HP.out _).mono ?_; rintro e w2 ⟨rfl, rfl⟩)
    go_ret
    exact ⟨rfl, rfl⟩
  | true =>
    rw [hp] at HP
    obtain ⟨r, hr⟩ : ∃ r, tokB b = r := ⟨_, rfl⟩
    rw [hr]
    have HR := Lib.hid hr
    clear hr
    by_cases h1 : b = 40
    · subst h1
      obtain rfl : false = r := HR.out
      go_enter Tryz.func203, Tryz.ntmps203
      go_wp2_with (go_at_call 206; refine (HP.out _).mono ?_; rintro e w2 ⟨rfl, rfl⟩)
      go_ret
      exact ⟨rfl, rfl⟩
    · have g1 : (b != 40) = true := by simpa using h1
      by_cases h2 : b = 41
      · subst h2
        obtain rfl : false = r := HR.out
        go_enter Tryz.func203, Tryz.ntmps203
        go_wp2_with (go_at_call 206; refine (HP.out _).mono ?_; rintro e w2 ⟨rfl, rfl⟩)
        go_ret
        exact ⟨rfl, rfl⟩
      · have g2 : (b != 41) = true := by simpa using h2
        by_cases h3 : b = 34
        · subst h3
          obtain rfl : false = r := HR.out
          go_enter Tryz.func203, Tryz.ntmps203
          go_wp2_with (go_at_call 206; refine (HP.out _).mono ?_; rintro e w2 ⟨rfl, rfl⟩)
          go_ret
          exact ⟨rfl, rfl⟩
        · have g3 : (b != 34) = true := by simpa using h3
          by_cases h4 : b = 59
          · subst h4
            obtain rfl : false = r := HR.out
            go_enter Tryz.func203, Tryz.ntmps203
            go_wp2_with (go_at_call 206; refine (HP.out _).mono ?_; rintro e w2 ⟨rfl, rfl⟩)
            go_ret
            exact ⟨rfl, rfl⟩
          · have g4 : (b != 59) = true := by simpa using h4
            obtain rfl : true = r := by have := HR.out; rw [tokB, hp, g1, g2, g3, g4] at this; exact this
            clear hp h1 h2 h3 h4
            go_enter Tryz.func203, Tryz.ntmps203
            go_wp2_with (go_at_call 206; refine (HP.out _).mono ?_; rintro e w2 ⟨rfl, rfl⟩)
            go_ret
            exact ⟨rfl, rfl⟩
theorem txt_ok : BOk 205 txtB := by
  intro b w
  by_cases h1 : b = 10
  · subst h1
    go_enter Tryz.func205, Tryz.ntmps205
    go_wp2
    go_ret
    exact ⟨rfl, rfl⟩
  · have g1 : (b == 10) = false := by simpa using h1
    by_cases h2 : b = 32
    · subst h2
      go_enter Tryz.func205, Tryz.ntmps205
      go_wp2
      go_ret
      exact ⟨rfl, rfl⟩
    · have g2 : (b == 32) = false := by simpa using h2
      have e : txtB b = plainB b := by rw [txtB, g1, g2]; rfl
      rw [e]
      clear h1 h2 e
      go_enter Tryz.func205, Tryz.ntmps205
      go_wp2_with (go_at_call 206; refine (plain_ok _ _).mono ?_; rintro e w2 ⟨rfl, rfl⟩)
      go_ret
      exact ⟨rfl, rfl⟩
/-! ### allBytes -/
def allB (p : Int → Bool) (s : ByteArray) : Bool := s.data.toList.all fun c => p (c.toNat : Int)
def AllTo (p : Int → Bool) (s : ByteArray) (k : Nat) : Prop := ∀ j (h : j < s.size), j < k → p (s[j].toNat : Int) = true
theorem AllTo.ends {p : Int → Bool} {s : ByteArray} {k : Nat} (h : AllTo p s k) (hk : s.size ≤ k) : allB p s = true := by
  unfold allB
  rw [List.all_eq_true]
  intro c hc
  obtain ⟨j, hj, rfl⟩ := List.getElem_of_mem hc
  have hj' : j < s.size := by simpa using hj
  exact h j hj' (by omega)
theorem AllTo.stop {p : Int → Bool} {s : ByteArray} {k : Nat} (hk : k < s.size) (hp : p (s[k].toNat : Int) = false) : allB p s = false := by
  unfold allB
  rw [List.all_eq_false]
  exact ⟨s[k], by rw [show s[k] = s.data.toList[k]'(by simpa using hk) from rfl]; exact List.getElem_mem _, by simp [hp]⟩
theorem AllTo.step {p : Int → Bool} {s : ByteArray} {k : Nat} (h : AllTo p s k) (hk : k < s.size) (hp : p (s[k].toNat : Int) = true) : AllTo p s (k + 1) := by
  intro j hj hlt
  by_cases e : j = k
  · subst e; exact hp
  · exact h j hj (by omega)
theorem all_tok (s : ByteArray) (hs : s.size ≤ maxLen) (w : World) :
    Calls Tryz.prog 202 #[.string s, .func (.func 203) #[] #[]] w fun e w' => e = .returned (.bool (allB tokB s)) ∧ w = w' := by
  unfold maxLen at hs
  go_enter Tryz.func202, Tryz.ntmps202
  go_wp2_with fail
  go_loopg [8] (s.size) (fun m i wr => ∃ k : Nat, k ≤ s.size ∧ m = s.size - k ∧ i = .int .i64 k ∧ AllTo tokB s k ∧ w = wr)
  case atStart => exact ⟨0, by omega, rfl, rfl, fun j _ h => absurd h (by omega), rfl⟩
  case round =>
    obtain ⟨k, hk, rfl, rfl, hL, rfl⟩ := hrel
    by_cases hlt : k < s.size
    · have HP := Lib.hid (tok_ok (s[k].toNat : Int) w)
      cases hp : tokB (s[k].toNat : Int) with
      | true =>
        rw [hp] at HP
        have HS := Lib.hid (hL.step hlt hp)
        clear hp
        go_wp2_with (go_at_call 203; refine (HP.out).mono ?_; rintro e w2 ⟨rfl, rfl⟩)
        go_roundg (s.size - (k + 1))
        case measure => omega
        case rel => exact ⟨k + 1, by omega, rfl, by go_num, HS.out, rfl⟩
      | false =>
        rw [hp] at HP
        have HS := Lib.hid (AllTo.stop hlt hp)
        clear hp
        go_wp2_with (go_at_call 203; refine (HP.out).mono ?_; rintro e w2 ⟨rfl, rfl⟩)
        go_ret
        exact ⟨ret_bool HS.out.symm, rfl⟩
    · have HS := Lib.hid (hL.ends (by omega))
      go_wp2_with fail
      go_ret
      exact ⟨ret_bool HS.out.symm, rfl⟩
theorem all_dig (s : ByteArray) (hs : s.size ≤ maxLen) (w : World) :
    Calls Tryz.prog 202 #[.string s, .func (.func 218) #[] #[]] w fun e w' => e = .returned (.bool (allB digB s)) ∧ w = w' := by
  unfold maxLen at hs
  go_enter Tryz.func202, Tryz.ntmps202
  go_wp2_with fail
  go_loopg [8] (s.size) (fun m i wr => ∃ k : Nat, k ≤ s.size ∧ m = s.size - k ∧ i = .int .i64 k ∧ AllTo digB s k ∧ w = wr)
  case atStart => exact ⟨0, by omega, rfl, rfl, fun j _ h => absurd h (by omega), rfl⟩
  case round =>
    obtain ⟨k, hk, rfl, rfl, hL, rfl⟩ := hrel
    by_cases hlt : k < s.size
    · have HP := Lib.hid (dig_ok (s[k].toNat : Int) w)
      cases hp : digB (s[k].toNat : Int) with
      | true =>
        rw [hp] at HP
        have HS := Lib.hid (hL.step hlt hp)
        clear hp
        go_wp2_with (go_at_call 218; refine (HP.out).mono ?_; rintro e w2 ⟨rfl, rfl⟩)
        go_roundg (s.size - (k + 1))
        case measure => omega
        case rel => exact ⟨k + 1, by omega, rfl, by go_num, HS.out, rfl⟩
      | false =>
        rw [hp] at HP
        have HS := Lib.hid (AllTo.stop hlt hp)
        clear hp
        go_wp2_with (go_at_call 218; refine (HP.out).mono ?_; rintro e w2 ⟨rfl, rfl⟩)
        go_ret
        exact ⟨ret_bool HS.out.symm, rfl⟩
    · have HS := Lib.hid (hL.ends (by omega))
      go_wp2_with fail
      go_ret
      exact ⟨ret_bool HS.out.symm, rfl⟩
theorem all_txt (s : ByteArray) (hs : s.size ≤ maxLen) (w : World) :
    Calls Tryz.prog 202 #[.string s, .func (.func 205) #[] #[]] w fun e w' => e = .returned (.bool (allB txtB s)) ∧ w = w' := by
  unfold maxLen at hs
  go_enter Tryz.func202, Tryz.ntmps202
  go_wp2_with fail
  go_loopg [8] (s.size) (fun m i wr => ∃ k : Nat, k ≤ s.size ∧ m = s.size - k ∧ i = .int .i64 k ∧ AllTo txtB s k ∧ w = wr)
  case atStart => exact ⟨0, by omega, rfl, rfl, fun j _ h => absurd h (by omega), rfl⟩
  case round =>
    obtain ⟨k, hk, rfl, rfl, hL, rfl⟩ := hrel
    by_cases hlt : k < s.size
    · have HP := Lib.hid (txt_ok (s[k].toNat : Int) w)
      cases hp : txtB (s[k].toNat : Int) with
      | true =>
        rw [hp] at HP
        have HS := Lib.hid (hL.step hlt hp)
        clear hp
        go_wp2_with (go_at_call 205; refine (HP.out).mono ?_; rintro e w2 ⟨rfl, rfl⟩)
        go_roundg (s.size - (k + 1))
        case measure => omega
        case rel => exact ⟨k + 1, by omega, rfl, by go_num, HS.out, rfl⟩
      | false =>
        rw [hp] at HP
        have HS := Lib.hid (AllTo.stop hlt hp)
        clear hp
        go_wp2_with (go_at_call 205; refine (HP.out).mono ?_; rintro e w2 ⟨rfl, rfl⟩)
        go_ret
        exact ⟨ret_bool HS.out.symm, rfl⟩
    · have HS := Lib.hid (hL.ends (by omega))
      go_wp2_with fail
      go_ret
      exact ⟨ret_bool HS.out.symm, rfl⟩
/-- A block of one int. -/
def Cell1 (w : World) (P : Nat) (x : Int) : Prop := w.heap[P]? = some (.cells #[.int .i64 x] 3 (0, 0))
theorem Cell1.cell {w : World} {P : Nat} {x : Int} (h : Cell1 w P x) : w.cell? ⟨P, 0, none⟩ = some (.int .i64 x) := cell_of_one h
theorem Cell1.free {w : World} {P : Nat} {x : Int} (h : Cell1 w P x) : w.frozen? ⟨P, 0, none⟩ = false := free_of_one h
theorem Cell1.lt {w : World} {P : Nat} {x : Int} (h : Cell1 w P x) : P < w.heap.size := lt_of_block h
theorem Cell1.set {w : World} {P : Nat} {x : Int} (h : Cell1 w P x) (y : Int) : Cell1 (w.setCell ⟨P, 0, none⟩ (.int .i64 y)) P y := one_setCell h
theorem Cell1.alloc {w : World} {P : Nat} {x : Int} (h : Cell1 w P x) (o : Obj) : Cell1 (w.alloc o) P x := (Below.heap_alloc w o P h.lt).trans h
theorem Cell1.below {w w' : World} {P : Nat} {x : Int} (h : Cell1 w P x) (hb : Below w.heap.size w w') : Cell1 w' P x := (hb.block P h.lt).trans h
/-- Only block P may have turned. -/
def Only (P : Nat) (w w' : World) : Prop := w.grownBy w' (some P)
theorem Only.refl (P : Nat) (w : World) : Only P w w := ⟨rfl, rfl, rfl, Nat.le_refl _, fun _ _ _ => rfl⟩
theorem Only.trans {P : Nat} {w w' w'' : World} (h : Only P w w') (k : Only P w' w'') : Only P w w'' :=
  ⟨k.os.trans h.os, k.tape.trans h.tape, k.output.trans h.output, Nat.le_trans h.size k.size, fun i hi hne => (k.block i (Nat.lt_of_lt_of_le hi h.size) hne).trans (h.block i hi hne)⟩
theorem Only.alloc {P : Nat} {w w' : World} (h : Only P w w') (o : Obj) : Only P w (w'.alloc o) :=
  h.trans ⟨rfl, rfl, rfl, by simp, fun k hk _ => Below.heap_alloc _ _ _ hk⟩
theorem Only.set {P : Nat} {w w' : World} (h : Only P w w') (u : Value) : Only P w (w'.setCell ⟨P, 0, none⟩ u) :=
  h.trans ⟨rfl, rfl, rfl, by simp [World.setCell], fun k _ hne => Below.heap_setCell _ _ _ _ (by intro e; exact hne (by rw [e]))⟩
theorem Only.of {P : Nat} {w w' : World} (hb : Below w.heap.size w w') : Only P w w' := ⟨hb.os, hb.tape, hb.output, hb.size, fun k hk _ => hb.block k hk⟩
theorem Only.below {P B : Nat} {w w' : World} (h : Only P w w') (hP : B ≤ P) (hB : B ≤ w.heap.size) : Below B w w' :=
  ⟨h.os, h.tape, h.output, h.size, fun k hk => h.block k (by omega) (by intro e; have : k = P := by simpa using e
                                                                        omega)⟩
theorem In.only {P : Nat} {w w' : World} {t : T} (h : In w t) (ho : Only P w w') (hn : ¬ On t P) : In w' t :=
  h.same _ (Nat.lt_succ_self _) fun b hb => ho.block b (h.lt hb) (by intro e; have : b = P := by simpa using e
                                                                     subst this; exact hn hb)
/-- What a visit, the function K over one captured int, does. -/
def VisOk (K : FuncId) (vis : Int → Fm → Int → Int × Bool) : Prop :=
  ∀ (t : T) (d x : Int) (P : Nat) (w : World), In w t → ¬ On t P → Cell1 w P x → 0 ≤ x → x ≤ 4611686018427387904 → 0 ≤ d → d ≤ 4611686018427387904 →
    Calls Tryz.prog K #[t.val, .int .i64 d, .pointer (some ⟨P, 0, none⟩)] w fun e w' => e = .returned (.bool (vis x t.form d).2) ∧ Cell1 w' P (vis x t.form d).1 ∧ Only P w w'
/-- kids: the Kids that count, as a slice. -/
theorem kids_list (t : T) (ht : t.kd = 3) (w : World) :
    Calls Tryz.prog 75 #[t.val] w fun e w' => e = .returned (.slice t.ad t.ks.length t.cp) ∧ Below w.heap.size w w' := by
  have b : (t.kd != 3) = false := by simpa using ht
  clear ht
  go_enter Tryz.func75, Tryz.ntmps75
  go_wp2
  go_ret
  exact ⟨rfl, bel1 _ _⟩
theorem kids_none (t : T) (ht : t.kd ≠ 3) (w : World) :
    Calls Tryz.prog 75 #[t.val] w fun e w' => e = .returned (.slice none 0 0) ∧ Below w.heap.size w w' := by
  have b : (t.kd != 3) = true := by simpa using ht
  clear ht
  go_enter Tryz.func75, Tryz.ntmps75
  go_wp2
  go_ret
  exact ⟨rfl, bel1 _ _⟩
theorem kids_any (t : T) : ∃ (a : Option Addr) (c : Nat) (xs : List T), xs.map T.form = t.form.kids ∧ (Ok t → xs.length ≤ maxLen) ∧ (∀ x ∈ xs, x ∈ t.ks) ∧ (∀ w, In w t → InL w a 0 xs) ∧
    (∀ w, Calls Tryz.prog 75 #[t.val] w fun e w' => e = .returned (.slice a xs.length c) ∧ Below w.heap.size w w') := by
  by_cases h : t.kd = 3
  · exact ⟨t.ad, t.cp, t.ks, by rw [Fm.kids, T.form_kd, if_pos h, T.form_ks], fun o => Nat.le_trans o.le o.cp, fun _ h => h, fun w h => h.inL, fun w => kids_list t h w⟩
  · exact ⟨none, 0, [], by rw [Fm.kids, T.form_kd, if_neg h]; rfl, fun _ => Nat.zero_le _, (fun _ h => by cases h), (fun w _ => by simp [InL]), fun w => kids_none t h w⟩
/-- What is left of the Kids' walk behind the first j of them. -/
def Left (vis : Int → Fm → Int → Int × Bool) (l : List Fm) (d x : Int) (j : Nat) (y : Int) : Prop := walkL vis l d x = walkL vis (l.drop j) d y ∧ 0 ≤ y ∧ y + szL (l.drop j) ≤ 4611686018427387904 ∧ d + szL (l.drop j) ≤ 4611686018427387904
theorem szL_le {l : List Fm} {f : Fm} (h : f ∈ l) : szF f ≤ szL l := by
  induction l with
  | nil => cases h
  | cons g l ih =>
    simp only [szL]
    rcases List.mem_cons.1 h with rfl | h
    · omega
    · have := ih h; omega
theorem Left.start {vis : Int → Fm → Int → Int × Bool} {f : Fm} {d x y : Int} (ht : Tame vis) (hx : 0 ≤ x) (hd : 0 ≤ d) (hb : max x d + szF f ≤ 4611686018427387904) (hy : (vis x f d).1 = y) : Left vis f.kids (d + 1) y 0 y := by
  have h1 := ht.lo x f d hx hd
  have h2 := ht.hi x f d
  rw [hy] at h1 h2
  rw [szF_eq] at hb
  refine ⟨by simp, h1, ?_, ?_⟩ <;> rw [List.drop_zero] <;> omega
theorem Left.at {vis : Int → Fm → Int → Int × Bool} {l : List Fm} {d x y : Int} {j : Nat} (h : Left vis l d x j y) (hj : j < l.length) : max y d + szF l[j] ≤ 4611686018427387904 := by
  obtain ⟨_, _, h2, h3⟩ := h
  rw [List.drop_eq_getElem_cons hj] at h2 h3
  simp only [szL] at h2 h3
  omega
theorem Left.step {vis : Int → Fm → Int → Int × Bool} {l : List Fm} {d x y : Int} {j : Nat} (ht : Tame vis) (hd : 0 ≤ d) (h : Left vis l d x j y) (hj : j < l.length) (hv : (walkF vis l[j] d y).2 = true) : Left vis l d x (j + 1) (walkF vis l[j] d y).1 := by
  obtain ⟨h1, h0, h2, h3⟩ := h
  have hb := walkF_bound ht l[j] d y hd h0
  rw [List.drop_eq_getElem_cons hj] at h1 h2 h3
  simp only [szL] at h2 h3
  rw [walkL, if_pos hv] at h1
  exact ⟨h1, hb.1, by omega, by omega⟩
theorem Left.stop {vis : Int → Fm → Int → Int × Bool} {l : List Fm} {d x y : Int} {j : Nat} (h : Left vis l d x j y) (hj : j < l.length) (hv : (walkF vis l[j] d y).2 = false) : walkL vis l d x = ((walkF vis l[j] d y).1, false) := by
  obtain ⟨h1, _, _, _⟩ := h
  rw [List.drop_eq_getElem_cons hj, walkL, hv] at h1
  simpa using h1
theorem Left.ends {vis : Int → Fm → Int → Int × Bool} {l : List Fm} {d x y : Int} {j : Nat} (h : Left vis l d x j y) (hj : l.length ≤ j) : walkL vis l d x = (y, true) := by
  obtain ⟨h1, _, _, _⟩ := h
  rw [List.drop_of_length_le hj, walkL] at h1
  exact h1
/-- The boxed form lies behind what was there. -/
def Box4 (wr : World) (b : Nat) (t : T) : Prop := wr.heap[b]? = some (.cells #[.int .i64 t.kd, .int .i64 t.nn, .string t.tx, .slice t.ad t.ks.length t.cp] 24 (0, 0))
theorem Box4.cells {w : World} {b : Nat} {t : T} (h : Box4 w b t) : w.cell? ⟨b, 0, none⟩ = some (.int .i64 t.kd) ∧ w.cell? ⟨b, 1, none⟩ = some (.int .i64 t.nn) ∧ w.cell? ⟨b, 2, none⟩ = some (.string t.tx) ∧ w.cell? ⟨b, 3, none⟩ = some (.slice t.ad t.ks.length t.cp) := by
  refine ⟨?_, ?_, ?_, ?_⟩ <;> simp [World.cell?, show w.heap[b]? = _ from h]
theorem Box4.new (w : World) (t : T) : Box4 (w.alloc (.cells #[.int .i64 t.kd, .int .i64 t.nn, .string t.tx, .slice t.ad t.ks.length t.cp] 24)) w.heap.size t := heap_alloc_new w _
theorem Box4.only {w w' : World} {P b : Nat} {t : T} (h : Box4 w b t) (ho : Only P w w') (hne : b ≠ P) : Box4 w' b t :=
  (ho.block b (lt_of_block h) (by intro e; exact hne (by simpa using e))).trans h
/-- Digits, or - and digits. -/
def numL (l : List UInt8) : Bool := !(Lib.trimPrefix l [45]).isEmpty && (Lib.trimPrefix l [45]).all fun c => digB (c.toNat : Int)
def numB (s : ByteArray) : Bool := numL s.data.toList
theorem toList_nil {d : ByteArray} (h : d.size = 0) : d.toList = [] := by
  rw [Lib.toList_data]; have : d.data.toList.length = 0 := by simpa using h
  exact List.length_eq_zero_iff.1 this
theorem toList_ne {d : ByteArray} (h : d.size ≠ 0) : d.toList ≠ [] := by
  rw [Lib.toList_data]; intro e; apply h
  have : d.data.toList.length = 0 := by rw [e]; rfl
  simpa using this
theorem numeral_any (s : ByteArray) (hs : s.size ≤ maxLen) (w : World) :
    Calls Tryz.prog 204 #[.string s] w fun e w' => e = .returned (.bool (numB s)) ∧ w = w' := by
  obtain ⟨d, hd⟩ : ∃ d : ByteArray, d = ⟨(Lib.trimPrefix s.data.toList [45]).toArray⟩ := ⟨_, rfl⟩
  have hdl : d.data.toList = Lib.trimPrefix s.data.toList [45] := by rw [hd]
  have hds : d.size ≤ maxLen := by
    have h1 : (Lib.trimPrefix s.data.toList [45]).length ≤ s.data.toList.length := by
      unfold Lib.trimPrefix; split
      · simp
      · exact Nat.le_refl _
    have h2 : d.size = (Lib.trimPrefix s.data.toList [45]).length := by rw [← hdl]; simp
    have h3 : s.data.toList.length = s.size := by simp
    omega
  have HT := Lib.hid (Tryz.strings_TrimPrefix s ⟨#[45]⟩ w)
  rw [show (⟨#[45]⟩ : ByteArray).data.toList = [45] from rfl, ← hd] at HT
  have HA := Lib.hid (all_dig d hds w)
  have hn : numB s = (!d.data.toList.isEmpty && allB digB d) := by unfold numB numL allB; rw [hdl]
  rw [hn]
  clear hn hd hdl hds
  by_cases hz : d.size = 0
  · have h1 := toList_nil hz
    have h2 : d.data.toList.isEmpty = true := by rw [← Lib.toList_data, h1]; rfl
    rw [h2]
    clear h2 hz
    go_enter Tryz.func204, Tryz.ntmps204
    go_wp2_with (go_at_call 217; refine HT.out.mono ?_; rintro e w2 ⟨rfl, rfl⟩)
    go_ret
    exact ⟨rfl, rfl⟩
  · have h1 := toList_ne hz
    have h2 : d.data.toList.isEmpty = false := by rw [← Lib.toList_data]; simpa using h1
    have h3 : (d.toList == []) = false := by simpa using h1
    have h4 : (d.toList.isEmpty) = false := by simpa using h1
    rw [h2]
    clear h2 hz
    go_enter Tryz.func204, Tryz.ntmps204
    go_wp2_with (first
      | (go_at_call 217; refine HT.out.mono ?_; rintro e w2 ⟨rfl, rfl⟩)
      | (go_at_call 202; refine HA.out.mono ?_; rintro e w2 ⟨rfl, rfl⟩))
    go_ret
    exact ⟨rfl, rfl⟩
def rangeB (n : Int) : Bool := decide (-1152921504606846976 ≤ n) && decide (n ≤ 1152921504606846976)
theorem range_any (n : Int) (w : World) :
    Calls Tryz.prog 182 #[.int .i64 n] w fun e w' => e = .returned (.bool (rangeB n)) ∧ w = w' := by
  by_cases h1 : -1152921504606846976 ≤ n
  · by_cases h2 : n ≤ 1152921504606846976
    · have e : rangeB n = true := by simp [rangeB, h1, h2]
      rw [e]
      go_enter Tryz.func182, Tryz.ntmps182
      go_wp2
      go_ret
      exact ⟨rfl, rfl⟩
    · have e : rangeB n = false := by simp [rangeB, h2]
      rw [e]
      go_enter Tryz.func182, Tryz.ntmps182
      go_wp2
      go_ret
      exact ⟨rfl, rfl⟩
  · have e : rangeB n = false := by simp [rangeB, h1]
    have h1' : decide (-1152921504606846976 ≤ n) = false := by simpa using h1
    rw [e]
    go_enter Tryz.func182, Tryz.ntmps182
    go_wp2
    go_ret
    exact ⟨rfl, rfl⟩
def wordB (s : ByteArray) : Bool := decide (1 ≤ s.size) && decide (s.size ≤ 30) && allB tokB s && !numB s
theorem word_any (s : ByteArray) (hs : s.size ≤ maxLen) (w : World) :
    Calls Tryz.prog 183 #[.string s] w fun e w' => e = .returned (.bool (wordB s)) ∧ w = w' := by
  have HA := Lib.hid (all_tok s hs w)
  have HN := Lib.hid (numeral_any s hs w)
  obtain ⟨r, hr⟩ : ∃ r, wordB s = r := ⟨_, rfl⟩
  rw [hr]
  by_cases h1 : 1 ≤ s.size
  · have g1 : (1 : Int) ≤ (s.size : Int) := by omega
    by_cases h2 : s.size ≤ 30
    · have g2 : (s.size : Int) ≤ 30 := by omega
      cases h3 : allB tokB s with
      | true =>
        rw [h3] at HA
        have e : (!numB s) = r := by rw [← hr]; simp [wordB, h1, h2, h3]
        subst e
        clear hr h3
        go_enter Tryz.func183, Tryz.ntmps183
        go_wp2_with (first
          | (go_at_call 202; refine HA.out.mono ?_; rintro e w2 ⟨rfl, rfl⟩)
          | (go_at_call 204; refine HN.out.mono ?_; rintro e w2 ⟨rfl, rfl⟩))
        go_ret
        exact ⟨rfl, rfl⟩
      | false =>
        rw [h3] at HA
        obtain rfl : false = r := by rw [← hr]; simp [wordB, h3]
        clear hr h3
        go_enter Tryz.func183, Tryz.ntmps183
        go_wp2_with (go_at_call 202; refine HA.out.mono ?_; rintro e w2 ⟨rfl, rfl⟩)
        go_ret
        exact ⟨rfl, rfl⟩
    · obtain rfl : false = r := by rw [← hr]; simp [wordB, h2]
      have g2 : decide ((s.size : Int) ≤ 30) = false := by simp; omega
      clear hr h2
      go_enter Tryz.func183, Tryz.ntmps183
      go_wp2_with fail
      go_ret
      exact ⟨rfl, rfl⟩
  · obtain rfl : false = r := by rw [← hr]; simp [wordB, h1]
    have g1 : decide ((1 : Int) ≤ (s.size : Int)) = false := by simp; omega
    clear hr h1
    go_enter Tryz.func183, Tryz.ntmps183
    go_wp2_with fail
    go_ret
    exact ⟨rfl, rfl⟩
def textB (s : ByteArray) : Bool := decide (s.size ≤ 2000) && allB txtB s
theorem text_any (s : ByteArray) (hs : s.size ≤ maxLen) (w : World) :
    Calls Tryz.prog 184 #[.string s] w fun e w' => e = .returned (.bool (textB s)) ∧ w = w' := by
  have HA := Lib.hid (all_txt s hs w)
  obtain ⟨r, hr⟩ : ∃ r, textB s = r := ⟨_, rfl⟩
  rw [hr]
  by_cases h2 : s.size ≤ 2000
  · have g2 : (s.size : Int) ≤ 2000 := by omega
    have e : allB txtB s = r := by rw [← hr]; simp [textB, h2]
    rw [e] at HA
    clear hr e
    go_enter Tryz.func184, Tryz.ntmps184
    go_wp2_with (go_at_call 202; refine HA.out.mono ?_; rintro e w2 ⟨rfl, rfl⟩)
    go_ret
    exact ⟨rfl, rfl⟩
  · obtain rfl : false = r := by rw [← hr]; simp [textB, h2]
    have g2 : decide ((s.size : Int) ≤ 2000) = false := by simp; omega
    clear hr h2
    go_enter Tryz.func184, Tryz.ntmps184
    go_wp2_with fail
    go_ret
    exact ⟨rfl, rfl⟩
/-- A form is valid but for its Kids and their number. -/
def aloneF (f : Fm) : Bool :=
  if f.kd = 0 then (f.tx.size == 0) && f.ks.isEmpty && rangeB f.nn
  else if f.kd = 1 then (f.nn == 0) && f.ks.isEmpty && wordB f.tx
  else if f.kd = 2 then (f.nn == 0) && f.ks.isEmpty && textB f.tx
  else if f.kd = 3 then (f.nn == 0) && (f.tx.size == 0)
  else false
theorem aloneT (t : T) : aloneF t.form = if t.kd = 0 then (t.tx.size == 0) && t.ks.isEmpty && rangeB t.nn
    else if t.kd = 1 then (t.nn == 0) && t.ks.isEmpty && wordB t.tx
    else if t.kd = 2 then (t.nn == 0) && t.ks.isEmpty && textB t.tx
    else if t.kd = 3 then (t.nn == 0) && (t.tx.size == 0)
    else false := by
  unfold aloneF; simp only [T.form_kd, T.form_nn, T.form_tx, T.form_ks]
  have : (t.ks.map T.form).isEmpty = t.ks.isEmpty := by cases t.ks <;> rfl
  rw [this]
set_option maxHeartbeats 1000000 in
theorem alone_any (t : T) (o : Ok t) (w : World) :
    Calls Tryz.prog 136 #[t.val] w fun e w' => e = .returned (.bool (aloneF t.form)) ∧ Below w.heap.size w w' := by
  have HR := Lib.hid (range_any t.nn)
  have HW := Lib.hid (word_any t.tx o.tx)
  have HX := Lib.hid (text_any t.tx o.tx)
  rw [aloneT]
  by_cases k0 : t.kd = 0
  · have b0 : (t.kd == 0) = true := by simpa using k0
    rw [if_pos k0]
    clear k0
    by_cases h1 : t.tx.size = 0
    · have g1 := toList_nil h1
      have e1 : (t.tx.size == 0) = true := by simpa using h1
      rw [e1]
      by_cases h2 : t.ks.length = 0
      · have e2 : t.ks.isEmpty = true := by simpa using List.length_eq_zero_iff.1 h2
        have g2 : ((t.ks.length : Int) == 0) = true := by simpa using List.length_eq_zero_iff.1 h2
        rw [e2]
        clear h1 h2 e1 e2
        go_enter Tryz.func136, Tryz.ntmps136
        go_wp2_with (first
          | (go_at_call 182; refine (HR.out _).mono ?_; rintro e w2 ⟨rfl, rfl⟩)
          | (go_at_call 183; refine (HW.out _).mono ?_; rintro e w2 ⟨rfl, rfl⟩)
          | (go_at_call 184; refine (HX.out _).mono ?_; rintro e w2 ⟨rfl, rfl⟩))
        go_ret
        exact ⟨rfl, bel1 _ _⟩
      · have e2 : t.ks.isEmpty = false := by cases h : t.ks with
                                              | nil => exact absurd (by rw [h]; rfl) h2
                                              | cons _ _ => rfl
        have g2 : ((t.ks.length : Int) == 0) = false := by simpa using h2
        rw [e2]
        clear h1 h2 e1 e2
        go_enter Tryz.func136, Tryz.ntmps136
        go_wp2_with (first
          | (go_at_call 182; refine (HR.out _).mono ?_; rintro e w2 ⟨rfl, rfl⟩)
          | (go_at_call 183; refine (HW.out _).mono ?_; rintro e w2 ⟨rfl, rfl⟩)
          | (go_at_call 184; refine (HX.out _).mono ?_; rintro e w2 ⟨rfl, rfl⟩))
        go_ret
        exact ⟨rfl, bel1 _ _⟩
    · have g1 := toList_ne h1
      have g1' : (t.tx.toList == []) = false := by simpa using g1
      have g1'' : t.tx.toList.isEmpty = false := by simpa using g1
      have e1 : (t.tx.size == 0) = false := by simpa using h1
      rw [e1]
      clear h1 e1
      go_enter Tryz.func136, Tryz.ntmps136
      go_wp2_with (first
        | (go_at_call 182; refine (HR.out _).mono ?_; rintro e w2 ⟨rfl, rfl⟩)
        | (go_at_call 183; refine (HW.out _).mono ?_; rintro e w2 ⟨rfl, rfl⟩)
        | (go_at_call 184; refine (HX.out _).mono ?_; rintro e w2 ⟨rfl, rfl⟩))
      go_ret
      exact ⟨rfl, bel1 _ _⟩
  · have b0 : (t.kd == 0) = false := by simpa using k0
    rw [if_neg k0]
    by_cases k1 : t.kd = 1
    · have b1 : (t.kd == 1) = true := by simpa using k1
      rw [if_pos k1]
      clear k0 k1
      by_cases h1 : t.nn = 0
      · have g1 : (t.nn == 0) = true := by simpa using h1
        rw [g1]
        by_cases h2 : t.ks.length = 0
        · have e2 : t.ks.isEmpty = true := by simpa using List.length_eq_zero_iff.1 h2
          have g2 : ((t.ks.length : Int) == 0) = true := by simpa using List.length_eq_zero_iff.1 h2
          rw [e2]
          clear h1 h2 e2
          go_enter Tryz.func136, Tryz.ntmps136
          go_wp2_with (first
            | (go_at_call 182; refine (HR.out _).mono ?_; rintro e w2 ⟨rfl, rfl⟩)
            | (go_at_call 183; refine (HW.out _).mono ?_; rintro e w2 ⟨rfl, rfl⟩)
            | (go_at_call 184; refine (HX.out _).mono ?_; rintro e w2 ⟨rfl, rfl⟩))
          go_ret
          exact ⟨rfl, bel1 _ _⟩
        · have e2 : t.ks.isEmpty = false := by cases h : t.ks with
                                                | nil => exact absurd (by rw [h]; rfl) h2
                                                | cons _ _ => rfl
          have g2 : ((t.ks.length : Int) == 0) = false := by simpa using h2
          rw [e2]
          clear h1 h2 e2
          go_enter Tryz.func136, Tryz.ntmps136
          go_wp2_with (first
            | (go_at_call 182; refine (HR.out _).mono ?_; rintro e w2 ⟨rfl, rfl⟩)
            | (go_at_call 183; refine (HW.out _).mono ?_; rintro e w2 ⟨rfl, rfl⟩)
            | (go_at_call 184; refine (HX.out _).mono ?_; rintro e w2 ⟨rfl, rfl⟩))
          go_ret
          exact ⟨rfl, bel1 _ _⟩
      · have g1 : (t.nn == 0) = false := by simpa using h1
        rw [g1]
        clear h1
        go_enter Tryz.func136, Tryz.ntmps136
        go_wp2_with (first
          | (go_at_call 182; refine (HR.out _).mono ?_; rintro e w2 ⟨rfl, rfl⟩)
          | (go_at_call 183; refine (HW.out _).mono ?_; rintro e w2 ⟨rfl, rfl⟩)
          | (go_at_call 184; refine (HX.out _).mono ?_; rintro e w2 ⟨rfl, rfl⟩))
        go_ret
        exact ⟨rfl, bel1 _ _⟩
    · have b1 : (t.kd == 1) = false := by simpa using k1
      rw [if_neg k1]
      by_cases k2 : t.kd = 2
      · have b2 : (t.kd == 2) = true := by simpa using k2
        rw [if_pos k2]
        clear k0 k1 k2
        by_cases h1 : t.nn = 0
        · have g1 : (t.nn == 0) = true := by simpa using h1
          rw [g1]
          by_cases h2 : t.ks.length = 0
          · have e2 : t.ks.isEmpty = true := by simpa using List.length_eq_zero_iff.1 h2
            have g2 : ((t.ks.length : Int) == 0) = true := by simpa using List.length_eq_zero_iff.1 h2
            rw [e2]
            clear h1 h2 e2
            go_enter Tryz.func136, Tryz.ntmps136
            go_wp2_with (first
              | (go_at_call 182; refine (HR.out _).mono ?_; rintro e w2 ⟨rfl, rfl⟩)
              | (go_at_call 183; refine (HW.out _).mono ?_; rintro e w2 ⟨rfl, rfl⟩)
              | (go_at_call 184; refine (HX.out _).mono ?_; rintro e w2 ⟨rfl, rfl⟩))
            go_ret
            exact ⟨rfl, bel1 _ _⟩
          · have e2 : t.ks.isEmpty = false := by cases h : t.ks with
                                                  | nil => exact absurd (by rw [h]; rfl) h2
                                                  | cons _ _ => rfl
            have g2 : ((t.ks.length : Int) == 0) = false := by simpa using h2
            rw [e2]
            clear h1 h2 e2
            go_enter Tryz.func136, Tryz.ntmps136
            go_wp2_with (first
              | (go_at_call 182; refine (HR.out _).mono ?_; rintro e w2 ⟨rfl, rfl⟩)
              | (go_at_call 183; refine (HW.out _).mono ?_; rintro e w2 ⟨rfl, rfl⟩)
              | (go_at_call 184; refine (HX.out _).mono ?_; rintro e w2 ⟨rfl, rfl⟩))
            go_ret
            exact ⟨rfl, bel1 _ _⟩
        · have g1 : (t.nn == 0) = false := by simpa using h1
          rw [g1]
          clear h1
          go_enter Tryz.func136, Tryz.ntmps136
          go_wp2_with (first
            | (go_at_call 182; refine (HR.out _).mono ?_; rintro e w2 ⟨rfl, rfl⟩)
            | (go_at_call 183; refine (HW.out _).mono ?_; rintro e w2 ⟨rfl, rfl⟩)
            | (go_at_call 184; refine (HX.out _).mono ?_; rintro e w2 ⟨rfl, rfl⟩))
          go_ret
          exact ⟨rfl, bel1 _ _⟩
      · have b2 : (t.kd == 2) = false := by simpa using k2
        rw [if_neg k2]
        by_cases k3 : t.kd = 3
        · have b3 : (t.kd == 3) = true := by simpa using k3
          rw [if_pos k3]
          clear k0 k1 k2 k3
          by_cases h1 : t.nn = 0
          · have g1 : (t.nn == 0) = true := by simpa using h1
            rw [g1]
            by_cases h2 : t.tx.size = 0
            · have g2 := toList_nil h2
              have e2 : (t.tx.size == 0) = true := by simpa using h2
              rw [e2]
              clear h1 h2 e2
              go_enter Tryz.func136, Tryz.ntmps136
              go_wp2_with (first
                | (go_at_call 182; refine (HR.out _).mono ?_; rintro e w2 ⟨rfl, rfl⟩)
                | (go_at_call 183; refine (HW.out _).mono ?_; rintro e w2 ⟨rfl, rfl⟩)
                | (go_at_call 184; refine (HX.out _).mono ?_; rintro e w2 ⟨rfl, rfl⟩))
              go_ret
              exact ⟨rfl, bel1 _ _⟩
            · have g2 := toList_ne h2
              have g2' : (t.tx.toList == []) = false := by simpa using g2
              have g2'' : t.tx.toList.isEmpty = false := by simpa using g2
              have e2 : (t.tx.size == 0) = false := by simpa using h2
              rw [e2]
              clear h1 h2 e2
              go_enter Tryz.func136, Tryz.ntmps136
              go_wp2_with (first
                | (go_at_call 182; refine (HR.out _).mono ?_; rintro e w2 ⟨rfl, rfl⟩)
                | (go_at_call 183; refine (HW.out _).mono ?_; rintro e w2 ⟨rfl, rfl⟩)
                | (go_at_call 184; refine (HX.out _).mono ?_; rintro e w2 ⟨rfl, rfl⟩))
              go_ret
              exact ⟨rfl, bel1 _ _⟩
          · have g1 : (t.nn == 0) = false := by simpa using h1
            rw [g1]
            clear h1
            go_enter Tryz.func136, Tryz.ntmps136
            go_wp2_with (first
              | (go_at_call 182; refine (HR.out _).mono ?_; rintro e w2 ⟨rfl, rfl⟩)
              | (go_at_call 183; refine (HW.out _).mono ?_; rintro e w2 ⟨rfl, rfl⟩)
              | (go_at_call 184; refine (HX.out _).mono ?_; rintro e w2 ⟨rfl, rfl⟩))
            go_ret
            exact ⟨rfl, bel1 _ _⟩
        · have b3 : (t.kd == 3) = false := by simpa using k3
          rw [if_neg k3]
          clear k0 k1 k2 k3
          go_enter Tryz.func136, Tryz.ntmps136
          go_wp2_with (first
            | (go_at_call 182; refine (HR.out _).mono ?_; rintro e w2 ⟨rfl, rfl⟩)
            | (go_at_call 183; refine (HW.out _).mono ?_; rintro e w2 ⟨rfl, rfl⟩)
            | (go_at_call 184; refine (HX.out _).mono ?_; rintro e w2 ⟨rfl, rfl⟩))
          go_ret
          exact ⟨rfl, bel1 _ _⟩
mutual
def fieldsF : Fm → Bool
  | .mk k n s ks => aloneF (.mk k n s ks) && (if k = 3 then fieldsL ks else true)
def fieldsL : List Fm → Bool
  | [] => true
  | f :: fs => fieldsF f && fieldsL fs
end
theorem fieldsF_eq (f : Fm) : fieldsF f = (aloneF f && fieldsL f.kids) := by
  cases f with
  | mk k n s ks => unfold fieldsF Fm.kids; simp only [Fm.kd, Fm.ks]; by_cases h : k = 3 <;> simp [h, fieldsL]
def visValid : Int → Fm → Int → Int × Bool := fun x f d => (x + 1, decide (x + 1 ≤ 20000) && decide (d ≤ 100) && aloneF f)
theorem visValid_tame : Tame visValid := ⟨fun x _ _ h _ => by simp only [visValid]; omega, fun x _ d => by simp only [visValid]; omega⟩
def validF (f : Fm) : Bool := decide (szF f ≤ 20000) && decide (dpF f ≤ 100) && fieldsF f
def WV (f : Fm) (d x : Int) : Prop := ((walkF visValid f d x).2 = true ↔ x + szF f ≤ 20000 ∧ d + dpF f - 1 ≤ 100 ∧ fieldsF f = true) ∧ ((walkF visValid f d x).2 = true → (walkF visValid f d x).1 = x + szF f)
theorem walkL_valid : ∀ (l : List Fm) (d x : Int), (∀ f ∈ l, ∀ x, WV f d x) → x ≤ 20000 → d - 1 ≤ 100 →
    ((walkL visValid l d x).2 = true ↔ x + szL l ≤ 20000 ∧ d + dpL l - 1 ≤ 100 ∧ fieldsL l = true) ∧ ((walkL visValid l d x).2 = true → (walkL visValid l d x).1 = x + szL l)
  | [], d, x, _, hx, hd => by simp only [walkL, szL, dpL, fieldsL]; simp; omega
  | f :: fs, d, x, h, hx, hd => by
    obtain ⟨h1, h2⟩ := h f (by simp) x
    simp only [walkL, szL, dpL, fieldsL, Bool.and_eq_true]
    by_cases hv : (walkF visValid f d x).2 = true
    · rw [if_pos hv]
      obtain ⟨a, b, c⟩ := h1.1 hv
      have e := h2 hv
      rw [e]
      obtain ⟨g1, g2⟩ := walkL_valid fs d (x + szF f) (fun g hg => h g (by simp [hg])) a hd
      refine ⟨?_, fun q => ?_⟩
      · rw [g1]
        constructor
        · rintro ⟨q1, q2, q3⟩; exact ⟨by omega, by omega, c, q3⟩
        · rintro ⟨q1, q2, _, q3⟩; exact ⟨by omega, by omega, q3⟩
      · rw [g2 q]; omega
    · rw [if_neg hv]
      refine ⟨⟨fun q => by simp at q, ?_⟩, fun q => by simp at q⟩
      rintro ⟨q1, q2, q3, _⟩
      exact absurd (h1.2 ⟨by omega, by omega, q3⟩) hv
theorem walkF_valid' (n : Nat) : ∀ f : Fm, SizeOf.sizeOf f < n → ∀ d x, WV f d x := by
  induction n with
  | zero => intro f h; omega
  | succ n ih =>
    intro f hf d x
    unfold WV
    rw [walkF_eq, szF_eq, dpF_eq, fieldsF_eq]
    by_cases hv : (visValid x f d).2 = true
    · rw [if_pos hv]
      simp only [visValid, Bool.and_eq_true, decide_eq_true_eq] at hv
      obtain ⟨⟨v1, v2⟩, v3⟩ := hv
      obtain ⟨g1, g2⟩ := walkL_valid f.kids (d + 1) (x + 1) (fun g hg y => ih g (by have := Fm.kids_lt hg; omega) (d + 1) y) v1 (by omega)
      rw [show (visValid x f d).1 = x + 1 from rfl]
      refine ⟨?_, fun q => ?_⟩
      · rw [g1, Bool.and_eq_true]
        constructor
        · rintro ⟨q1, q2, q3⟩; exact ⟨by omega, by omega, v3, q3⟩
        · rintro ⟨q1, q2, _, q3⟩; exact ⟨by omega, by omega, q3⟩
      · rw [g2 q]; omega
    · rw [if_neg hv]
      refine ⟨⟨fun q => by simp at q, ?_⟩, fun q => by simp at q⟩
      rintro ⟨q1, q2, q3⟩
      rw [Bool.and_eq_true] at q3
      exact absurd (by simp only [visValid, Bool.and_eq_true, decide_eq_true_eq]; exact ⟨⟨by omega, by omega⟩, q3.1⟩) hv
theorem walkF_valid (f : Fm) : (walkF visValid f 1 0).2 = validF f := by
  have h := (walkF_valid' _ f (Nat.lt_succ_self _) 1 0).1
  rw [Bool.eq_iff_iff, h]
  unfold validF
  simp only [Bool.and_eq_true, decide_eq_true_eq]
  constructor
  · rintro ⟨a, b, c⟩; exact ⟨⟨by omega, by omega⟩, c⟩
  · rintro ⟨⟨a, b⟩, c⟩; exact ⟨by omega, by omega, c⟩
theorem Only.upw {P : Nat} {w w' w'' : World} (h : Only P w w') (hb : Below w'.heap.size w' w'') : Only P w w'' := h.trans (Only.of hb)
set_option maxHeartbeats 1000000 in
theorem visValid_ok : VisOk 135 visValid := by
  intro t d x P w hin hno hc x0 x1 d0 d1
  have c := hc.cell
  have f := hc.free
  have l := hc.lt
  have HC := Lib.hid hc
  have HA := Lib.hid (alone_any t hin.ok)
  clear hc
  obtain ⟨r, hr⟩ : ∃ r, (visValid x t.form d).2 = r := ⟨_, rfl⟩
  rw [hr, show (visValid x t.form d).1 = x + 1 from rfl]
  by_cases h1 : x + 1 ≤ 20000
  · by_cases h2 : d ≤ 100
    · have e : aloneF t.form = r := by rw [← hr]; simp [visValid, h1, h2]
      rw [e] at HA
      clear hr e
      go_enter Tryz.func135, Tryz.ntmps135
      go_wp2_with (go_at_call 136; refine (HA.out _).mono ?_; rintro e w2 ⟨rfl, hB⟩)
      go_ret
      exact ⟨rfl, ((HC.out.set _).alloc _).below hB, (((Only.refl _ _).set _).alloc _).upw hB⟩
    · obtain rfl : false = r := by rw [← hr]; simp [visValid, h2]
      have h2' : decide (d ≤ 100) = false := by simpa using h2
      clear hr h2
      go_enter Tryz.func135, Tryz.ntmps135
      go_wp2_with fail
      go_ret
      exact ⟨rfl, (HC.out.set _).alloc _, ((Only.refl _ _).set _).alloc _⟩
  · obtain rfl : false = r := by rw [← hr]; simp [visValid, h1]
    have h1' : decide (x + 1 ≤ 20000) = false := by simpa using h1
    clear hr h1
    go_enter Tryz.func135, Tryz.ntmps135
    go_wp2_with fail
    go_ret
    exact ⟨rfl, (HC.out.set _).alloc _, ((Only.refl _ _).set _).alloc _⟩
theorem On.lt {w : World} {t : T} {b : Nat} (hi : In w t) (h : On t b) : b < w.heap.size := In.lt h hi
theorem Cell1.new2 (w : World) (o : Obj) (x : Int) : Cell1 ((w.alloc o).alloc (.cells #[.int .i64 x] 3)) (w.heap.size + 1) x := by
  have h := heap_alloc_new (w.alloc o) (.cells #[.int .i64 x] 3)
  rw [show (w.alloc o).heap.size = w.heap.size + 1 by simp] at h
  exact h
/-- What is left of the Kids' walk behind the first j of them: the count is small still. -/
def LeftV (l : List Fm) (d x : Int) (j : Nat) (y : Int) : Prop := walkL visValid l d x = walkL visValid (l.drop j) d y ∧ 0 ≤ y ∧ y ≤ 20000
theorem LeftV.step {l : List Fm} {d x y : Int} {j : Nat} (h : LeftV l d x j y) (hj : j < l.length) (hv : (walkF visValid l[j] d y).2 = true) : LeftV l d x (j + 1) (walkF visValid l[j] d y).1 := by
  obtain ⟨h1, h0, h2⟩ := h
  have hw := walkF_valid' _ l[j] (Nat.lt_succ_self _) d y
  have h3 := (hw.1.1 hv).1
  have h4 := hw.2 hv
  rw [List.drop_eq_getElem_cons hj, walkL, if_pos hv] at h1
  exact ⟨h1, by omega, by omega⟩
theorem LeftV.stop {l : List Fm} {d x y : Int} {j : Nat} (h : LeftV l d x j y) (hj : j < l.length) (hv : (walkF visValid l[j] d y).2 = false) : walkL visValid l d x = ((walkF visValid l[j] d y).1, false) := by
  obtain ⟨h1, _, _⟩ := h
  rw [List.drop_eq_getElem_cons hj, walkL, hv] at h1
  simpa using h1
theorem LeftV.ends {l : List Fm} {d x y : Int} {j : Nat} (h : LeftV l d x j y) (hj : l.length ≤ j) : walkL visValid l d x = (y, true) := by
  obtain ⟨h1, _, _⟩ := h
  rw [List.drop_of_length_le hj, walkL] at h1
  exact h1
set_option maxHeartbeats 1000000 in
set_option maxRecDepth 100000 in
/-- walk, handed the visit visValid. -/
theorem walk_visBig (P : Nat) (n : Nat) : ∀ t : T, SizeOf.sizeOf t < n → ∀ (d x : Int) (w : World), In w t → ¬ On t P → Cell1 w P x →
    0 ≤ x → x ≤ 20000 → 0 ≤ d → d ≤ 101 →
    Calls Tryz.prog 134 #[t.val, .int .i64 d, .func (.func 135) #[] #[.pointer (some ⟨P, 0, none⟩)]] w
      fun e w' => e = .returned (.bool (walkF visValid t.form d x).2) ∧ Cell1 w' P (walkF visValid t.form d x).1 ∧ Only P w w' := by
  induction n with
  | zero => intro t h; omega
  | succ n ih =>
    intro t hn d x w hin hno hc x0 x1 d0 d1
    have HV := Lib.hid (visValid_ok t d x P)
    have HE := walkF_eq visValid t.form d x
    have IH := Lib.hid ih
    have hb1 : x ≤ 4611686018427387904 := by omega
    have hb2 : d ≤ 4611686018427387904 := by omega
    have hP := hc.lt
    have HC := Lib.hid hc
    clear ih hc
    obtain ⟨y, hy⟩ : ∃ y, (visValid x t.form d).1 = y := ⟨_, rfl⟩
    rw [hy] at HE HV
    have HY := Lib.hid hy
    clear hy
    cases hv : (visValid x t.form d).2 with
    | false =>
      rw [hv] at HV HE
      rw [if_neg (by simp)] at HE
      rw [HE]
      clear hv HE
      go_enter Tryz.func134, Tryz.ntmps134
      go_wp2_with (go_at_call 135; refine (HV.out _ (hin.alloc _) hno (HC.out.alloc _) x0 hb1 d0 hb2).mono ?_; rintro e w2 ⟨rfl, hc2, ho2⟩)
      go_ret
      exact ⟨rfl, hc2, ((Only.refl _ _).alloc _).trans ho2⟩
    | true =>
      rw [hv] at HV HE
      rw [if_pos rfl] at HE
      have HV2 : y ≤ 20000 ∧ d ≤ 100 := by
        have h1 := HY.out
        simp only [visValid, Bool.and_eq_true, decide_eq_true_eq] at hv h1
        omega
      clear hv
      obtain ⟨a, c, xs, hxs, hlen, hmem, hInL, hkids⟩ := kids_any t
      have hlen := hlen hin.ok
      unfold maxLen at hlen
      have HK := Lib.hid hkids
      have HX := Lib.hid hxs
      have HI := Lib.hid hInL
      have HM := Lib.hid hmem
      have hs : LeftV t.form.kids (d + 1) y 0 y := ⟨by rw [List.drop_zero], by have := HY.out; simp only [visValid] at this; omega, HV2.1⟩
      rw [← hxs] at hs HE
      rw [HE]
      have HS := Lib.hid hs
      clear hxs hkids hInL hmem HY hs HX HE
      go_enter Tryz.func134, Tryz.ntmps134
      go_wp2_with (first
        | (go_at_call 135; refine (HV.out _ (hin.alloc _) hno (HC.out.alloc _) x0 hb1 d0 hb2).mono ?_; rintro e w2 ⟨rfl, hc2, ho2⟩; have hbx := (Box4.new w t).only ho2 (by omega); obtain ⟨b0, b1, b2, b3⟩ := hbx.cells; have HC2 := Lib.hid hc2; clear hbx hc2)
        | (go_at_call 75; refine (HK.out _).mono ?_; rintro e w3 ⟨rfl, hB3⟩))
      go_loopg [17] (xs.length) (fun m i wr => ∃ (j : Nat) (z : Int), j ≤ xs.length ∧ m = xs.length - j ∧ i = .int .i64 j ∧ LeftV (xs.map T.form) (d + 1) y j z ∧ Cell1 wr P z ∧ Only P w wr)
      case atStart => exact ⟨0, y, by omega, rfl, rfl, HS.out, HC2.out.below hB3, (((Only.refl _ _).alloc _).trans ho2).trans (Only.of hB3)⟩
      case round =>
        obtain ⟨j, z, hj, rfl, rfl, hL, hcz, hoz⟩ := hrel
        have HCZ := Lib.hid hcz
        by_cases hlt : j < xs.length
        · obtain ⟨⟨b, o, rfl, hx0, hx1, hx2, hx3⟩, hinj⟩ := (HI.out wr (hin.only hoz hno)).at j hlt
          have lb : b < wr.heap.size := World.block_lt_of_cell? _ _ hx0
          have hmj := HM.out _ (List.getElem_mem hlt)
          have HR := Lib.hid (IH.out xs[j] (by have := T.kid_lt hmj; omega) (d + 1) z (wr.alloc (.cells #[.int .i64 xs[j].kd, .int .i64 xs[j].nn, .string xs[j].tx, .slice xs[j].ad xs[j].ks.length xs[j].cp] 24)) (hinj.alloc _) (fun ho => hno (.kid hmj ho)) (hcz.alloc _) hL.2.1 hL.2.2 (by omega) (by omega))
          cases hv : (walkF visValid xs[j].form (d + 1) z).2 with
          | true =>
            rw [hv] at HR
            have HST := Lib.hid (hL.step (by simpa using hlt) (by simpa using hv))
            have HL := Lib.hid hL
            clear hv hcz hL b0 b1 b2 b3
            go_wp2_with (go_at_call 134; refine (HR.out).mono ?_; rintro e w4 ⟨rfl, hc4, ho4⟩)
            go_roundg (xs.length - (j + 1))
            case measure => omega
            case rel => exact ⟨j + 1, _, by omega, rfl, by go_num, HST.out, by simpa using hc4, (hoz.alloc _).trans ho4⟩
          | false =>
            rw [hv] at HR
            have HST := Lib.hid (hL.stop (by simpa using hlt) (by simpa using hv))
            clear hv hcz hL b0 b1 b2 b3
            go_wp2_with (go_at_call 134; refine (HR.out).mono ?_; rintro e w4 ⟨rfl, hc4, ho4⟩)
            go_ret
            exact ⟨ret_bool (by rw [HST.out]), by rw [HST.out]; simpa using hc4, (hoz.alloc _).trans ho4⟩
        · have HE := Lib.hid (hL.ends (by simp; omega))
          clear hL hcz
          go_wp2_with fail
          go_ret
          exact ⟨ret_bool (by rw [HE.out]), by rw [HE.out]; exact HCZ.out, hoz⟩
/-- reader.Valid. -/
theorem valid_big (t : T) (w : World) (hin : In w t) :
    Calls Tryz.prog 76 #[t.val] w fun e w' => e = .returned (.bool (validF t.form)) ∧ Below w.heap.size w w' := by
  have HW := Lib.hid fun w' g1 g3 => walk_visBig (w.heap.size + 1) _ t (Nat.lt_succ_self _) 1 0 w' g1 (fun ho => absurd (On.lt hin ho) (by omega)) g3 (by omega) (by omega) (by omega) (by omega)
  simp only [walkF_valid] at HW
  go_enter Tryz.func76, Tryz.ntmps76
  go_wp2_with (go_at_call 134; refine (HW.out _ ((hin.alloc _).alloc _) (Cell1.new2 _ _ _)).mono ?_; rintro e w2 ⟨rfl, hc, ho⟩; have HB := Lib.hid ((bel2 _ _ _).trans (ho.below (B := w.heap.size) (by omega) (by simp; omega))); clear hc ho)
  go_ret
  exact ⟨rfl, HB.out⟩
end Go.Proofs.YtmlfiopbdlaaaaaGreat
