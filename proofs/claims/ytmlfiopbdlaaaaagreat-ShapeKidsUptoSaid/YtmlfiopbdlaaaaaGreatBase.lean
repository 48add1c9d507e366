/- Forms as plain data, forms with their addresses, and when a form lies in a world. Plain: no function of the program is named here. -/
import Derived.WalkKit
import Derived.ProofKit
import Derived.Lib.Bytealg
import Derived.Lib.Hide
namespace Go.Proofs.YtmlfiopbdlaaaaaGreat
open Go.RowKit

/-- A form as plain data. -/
inductive Fm where
  | mk (k n : Int) (s : ByteArray) (ks : List Fm)
def Fm.kd : Fm → Int | .mk k _ _ _ => k
def Fm.nn : Fm → Int | .mk _ n _ _ => n
def Fm.tx : Fm → ByteArray | .mk _ _ s _ => s
def Fm.ks : Fm → List Fm | .mk _ _ _ ks => ks

/-- A form with the addresses of its Kids. -/
inductive T where
  | mk (k n : Int) (s : ByteArray) (a : Option Addr) (cap : Nat) (ks : List T)
def T.kd : T → Int | .mk k _ _ _ _ _ => k
def T.nn : T → Int | .mk _ n _ _ _ _ => n
def T.tx : T → ByteArray | .mk _ _ s _ _ _ => s
def T.ad : T → Option Addr | .mk _ _ _ a _ _ => a
def T.cp : T → Nat | .mk _ _ _ _ c _ => c
def T.ks : T → List T | .mk _ _ _ _ _ ks => ks

mutual
def T.form : T → Fm | .mk k n s _ _ ks => .mk k n s (T.forms ks)
def T.forms : List T → List Fm | [] => [] | t :: ts => T.form t :: T.forms ts
end
theorem T.forms_map : ∀ ks : List T, T.forms ks = ks.map T.form
  | [] => by simp [T.forms]
  | t :: ts => by simp [T.forms, T.forms_map ts]
theorem T.form_kd (t : T) : t.form.kd = t.kd := by cases t; simp [T.form, Fm.kd, T.kd]
theorem T.form_nn (t : T) : t.form.nn = t.nn := by cases t; simp [T.form, Fm.nn, T.nn]
theorem T.form_tx (t : T) : t.form.tx = t.tx := by cases t; simp [T.form, Fm.tx, T.tx]
theorem T.form_ks (t : T) : t.form.ks = t.ks.map T.form := by cases t; simp [T.form, Fm.ks, T.ks, T.forms_map]
theorem T.kid_lt {t u : T} (h : u ∈ t.ks) : SizeOf.sizeOf u < SizeOf.sizeOf t := by
  cases t with
  | mk k n s a c ks =>
    have := List.sizeOf_lt_of_mem (show u ∈ ks from h)
    simp only [T.mk.sizeOf_spec]; omega
theorem Fm.kid_lt {t u : Fm} (h : u ∈ t.ks) : SizeOf.sizeOf u < SizeOf.sizeOf t := by
  cases t with
  | mk k n s ks =>
    have := List.sizeOf_lt_of_mem (show u ∈ ks from h)
    simp only [Fm.mk.sizeOf_spec]; omega

/-- The value of a form. -/
abbrev T.val (t : T) : Value := .agg #[.int .i64 t.kd, .int .i64 t.nn, .string t.tx, .slice t.ad t.ks.length t.cp]

/-- The four cells of an element. -/
def Cells4 (w : World) (b o : Nat) (t : T) : Prop :=
  w.cell? ⟨b, o, none⟩ = some (.int .i64 t.kd) ∧ w.cell? ⟨b, o + 1, none⟩ = some (.int .i64 t.nn) ∧ w.cell? ⟨b, o + 2, none⟩ = some (.string t.tx) ∧ w.cell? ⟨b, o + 3, none⟩ = some (.slice t.ad t.ks.length t.cp)

def I64 (n : Int) : Prop := -9223372036854775808 ≤ n ∧ n ≤ 9223372036854775807

mutual
/-- The form's Kids lie in the world. -/
def In (w : World) : T → Prop
  | .mk k n s a cap ks => I64 k ∧ I64 n ∧ s.size ≤ maxLen ∧ ks.length ≤ cap ∧ cap ≤ maxLen ∧ InL w a 0 ks
def InL (w : World) (a : Option Addr) (i : Nat) : List T → Prop
  | [] => True
  | t :: ts => (∃ b o, a = some ⟨b, o, none⟩ ∧ Cells4 w b (o + i * 4) t) ∧ In w t ∧ InL w a (i + 1) ts
end

theorem InL_get {w : World} {a : Option Addr} : ∀ {ks : List T} {i : Nat}, InL w a i ks → ∀ j (h : j < ks.length), (∃ b o, a = some ⟨b, o, none⟩ ∧ Cells4 w b (o + (i + j) * 4) ks[j]) ∧ In w ks[j]
  | [], _, _, j, h => absurd h (Nat.not_lt_zero _)
  | t :: ts, i, hh, j, h => by
    simp only [InL] at hh
    obtain ⟨h1, h2, h3⟩ := hh
    cases j with
    | zero => exact ⟨by simpa using h1, by simpa using h2⟩
    | succ j =>
      have := InL_get h3 j (by simpa using h)
      rw [show i + 1 + j = i + (j + 1) by omega] at this
      simpa using this
theorem InL_mk {w : World} {a : Option Addr} : ∀ {ks : List T} {i : Nat}, (∀ j (h : j < ks.length), (∃ b o, a = some ⟨b, o, none⟩ ∧ Cells4 w b (o + (i + j) * 4) ks[j]) ∧ In w ks[j]) → InL w a i ks
  | [], _, _ => by simp [InL]
  | t :: ts, i, hh => by
    simp only [InL]
    have h0 := hh 0 (by simp)
    refine ⟨by simpa using h0.1, by simpa using h0.2, InL_mk fun j h => ?_⟩
    have := hh (j + 1) (by simpa using h)
    rw [show i + (j + 1) = i + 1 + j by omega] at this
    simpa using this

/-- What is known of a form's own fields. -/
structure Ok (t : T) : Prop where
  kd : I64 t.kd
  nn : I64 t.nn
  tx : t.tx.size ≤ maxLen
  le : t.ks.length ≤ t.cp
  cp : t.cp ≤ maxLen
theorem In.ok {w : World} {t : T} (h : In w t) : Ok t := by
  cases t with
  | mk k n s a c ks => simp only [In] at h; exact ⟨h.1, h.2.1, h.2.2.1, h.2.2.2.1, h.2.2.2.2.1⟩
theorem In.inL {w : World} {t : T} (h : In w t) : InL w t.ad 0 t.ks := by
  cases t with
  | mk k n s a c ks => simp only [In] at h; exact h.2.2.2.2.2
theorem In.mk {w : World} {t : T} (o : Ok t) (h : InL w t.ad 0 t.ks) : In w t := by
  cases t with
  | mk k n s a c ks => simp only [In]; exact ⟨o.kd, o.nn, o.tx, o.le, o.cp, h⟩
theorem In.kid {w : World} {t : T} (h : In w t) (j : Nat) (hj : j < t.ks.length) : In w t.ks[j] := (InL_get h.inL j hj).2
/-- The cells of element j, and that its own Kids lie in the world. -/
theorem InL.at {w : World} {a : Option Addr} {ks : List T} (h : InL w a 0 ks) (j : Nat) (hj : j < ks.length) : (∃ b o, a = some ⟨b, o, none⟩ ∧ Cells4 w b (o + j * 4) ks[j]) ∧ In w ks[j] := by
  have := InL_get h j hj
  rwa [Nat.zero_add] at this
theorem InL.kids {w : World} {a : Option Addr} {i : Nat} {ks : List T} (h : InL w a i ks) : ∀ t ∈ ks, In w t := by
  intro t ht
  obtain ⟨j, hj, rfl⟩ := List.getElem_of_mem ht
  exact (InL_get h j hj).2

/-- One call behind another. -/
theorem up {w w' w'' : World} (h : Below w.heap.size w w') (h2 : Below w'.heap.size w' w'') : Below w.heap.size w w'' := h.trans (h2.mono h.size)
theorem bel1 (w : World) (o : Obj) : Below w.heap.size w (w.alloc o) := (Below.refl _ _).alloc (Nat.le_refl _) o
theorem bel2 (w : World) (o o' : Obj) : Below w.heap.size w ((w.alloc o).alloc o') := up (bel1 _ _) (bel1 _ _)
/-- A call behind another, within an outer one. -/
theorem upB {B : Nat} {w w' w'' : World} (h : Below B w w') (h2 : Below w'.heap.size w' w'') (hB : B ≤ w.heap.size) : Below B w w'' := h.trans (h2.mono (Nat.le_trans hB h.size))

/-- The blocks that hold a form's Kids. -/
inductive On : T → Nat → Prop where
  | here {t : T} {b o : Nat} {sp : Option Nat} (h : t.ad = some ⟨b, o, sp⟩) (hk : t.ks ≠ []) : On t b
  | kid {t u : T} {b : Nat} (hu : u ∈ t.ks) (h : On u b) : On t b

theorem Cells4.same {w w' : World} {b o : Nat} {t : T} (h : Cells4 w b o t) (hs : w'.heap[b]? = w.heap[b]?) : Cells4 w' b o t := by
  have e : ∀ p, w'.cell? ⟨b, p, none⟩ = w.cell? ⟨b, p, none⟩ := fun p => World.cell?_of_block (by exact hs)
  unfold Cells4 at *
  simp only [e]; exact h
theorem In.same {w w' : World} : ∀ (n : Nat) {t : T}, SizeOf.sizeOf t < n → In w t → (∀ b, On t b → w'.heap[b]? = w.heap[b]?) → In w' t := by
  intro n
  induction n with
  | zero => intro t h; omega
  | succ n ih =>
    intro t hn h hs
    refine In.mk h.ok (InL_mk fun j hj => ?_)
    obtain ⟨⟨b, o, ha, hc⟩, hin⟩ := InL_get h.inL j hj
    have hm : t.ks[j] ∈ t.ks := List.getElem_mem hj
    refine ⟨⟨b, o, ha, hc.same (hs b (.here ha (by intro e; simp [e] at hj)))⟩, ih (by have := T.kid_lt hm; omega) hin fun b' hb' => hs b' (.kid hm hb')⟩
theorem In.lt {w : World} {t : T} {b : Nat} (ho : On t b) : In w t → b < w.heap.size := by
  induction ho with
  | @here t b o sp h hk =>
    intro hin
    cases hks : t.ks with
    | nil => exact absurd hks hk
    | cons x xs =>
      obtain ⟨⟨b', o', ha, hc⟩, _⟩ := InL_get hin.inL 0 (by simp [hks])
      rw [h] at ha
      obtain ⟨rfl, rfl, rfl⟩ : b = b' ∧ o = o' ∧ sp = none := by simpa using ha
      exact World.block_lt_of_cell? _ _ hc.1
  | @kid t u b hu h ih =>
    intro hin
    exact ih (hin.inL.kids u hu)
/-- A form lies in every world that has the old blocks as they were. -/
theorem In.below {w w' : World} {t : T} (h : In w t) (hb : Below w.heap.size w w') : In w' t :=
  h.same _ (Nat.lt_succ_self _) fun b ho => hb.block b (h.lt ho)
theorem In.alloc {w : World} {t : T} (h : In w t) (o : Obj) : In (w.alloc o) t :=
  h.below ((Below.refl _ _).alloc (Nat.le_refl _) o)
theorem In.drew {w : World} {t : T} (h : In w t) : In w.drew t := h.below (Below.refl _ _).drew
theorem InL.below {w w' : World} {a : Option Addr} {i : Nat} {ks : List T} (h : InL w a i ks) (hb : Below w.heap.size w w') : InL w' a i ks :=
  InL_mk fun j hj => by
    obtain ⟨⟨b, o, ha, hc⟩, hin⟩ := InL_get h j hj
    exact ⟨⟨b, o, ha, hc.same (hb.block b (World.block_lt_of_cell? _ _ hc.1))⟩, hin.below hb⟩

/-! ### The order of forms -/
def cmpI (a b : Int) : Int := if a < b then -1 else if b < a then 1 else 0
mutual
def cmpF : Fm → Fm → Int
  | .mk k n s ks, .mk k' n' s' ks' =>
    if cmpI k k' ≠ 0 then cmpI k k' else if k = 0 then cmpI n n' else if k = 1 ∨ k = 2 then Lib.compareBytes s.data.toList s'.data.toList else if k = 3 then cmpL ks ks' else 0
def cmpL : List Fm → List Fm → Int
  | [], [] => 0
  | [], _ :: _ => -1
  | _ :: _, [] => 1
  | a :: as, b :: bs => if cmpF a b ≠ 0 then cmpF a b else cmpL as bs
end
theorem cmpF_eq (a b : Fm) : cmpF a b = if cmpI a.kd b.kd ≠ 0 then cmpI a.kd b.kd else if a.kd = 0 then cmpI a.nn b.nn else if a.kd = 1 ∨ a.kd = 2 then Lib.compareBytes a.tx.data.toList b.tx.data.toList else if a.kd = 3 then cmpL a.ks b.ks else 0 := by
  cases a; cases b; rw [cmpF]; rfl
/-- The order of two lists behind k equal elements. -/
theorem cmpL_drop : ∀ (k : Nat) (as bs : List Fm), (∀ i (h : i < as.length) (h' : i < bs.length), i < k → cmpF as[i] bs[i] = 0) → k ≤ as.length → k ≤ bs.length → cmpL as bs = cmpL (as.drop k) (bs.drop k)
  | 0, _, _, _, _, _ => by simp
  | k + 1, [], _, _, h, _ => by simp at h
  | k + 1, _ :: _, [], _, _, h => by simp at h
  | k + 1, a :: as, b :: bs, hh, h1, h2 => by
    have h0 : cmpF a b = 0 := by have := hh 0 (by simp) (by simp) (by omega); simpa using this
    have e : cmpL (a :: as) (b :: bs) = cmpL as bs := by simp only [cmpL, h0]; simp
    rw [e, cmpL_drop k as bs (fun i h h' hi => by have := hh (i + 1) (by simpa using h) (by simpa using h') (by omega); simpa using this) (by simpa using h1) (by simpa using h2)]
    simp
end Go.Proofs.YtmlfiopbdlaaaaaGreat
