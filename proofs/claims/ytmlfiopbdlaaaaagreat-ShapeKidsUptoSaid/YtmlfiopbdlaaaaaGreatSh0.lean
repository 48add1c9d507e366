/- What a shape says of a form, and how a row of such sayings lies in memory. -/
import Derived.Test.YtmlfiopbdlaaaaaGreatAskW
import Derived.Shelf.Abstract
import Derived.Laws.EntriesVeiled
namespace Go.Proofs.YtmlfiopbdlaaaaaGreat
open Go.RowKit Go.Deep

/-- A saying of one Kid: what is seen from outside, what is asked inside (none: nothing), and whether it is an expression. -/
structure PS where
  fits : Fm → Bool
  ins : Option (Fm → Bool)
  isE : Bool
def PS.inB (p : PS) (f : Fm) : Bool := match p.ins with | none => true | some q => q f
/-- A saying of a row of Kids. -/
structure RS where
  front : List PS
  more : Option PS
  back : List PS
def RS.lets (r : RS) (n : Nat) : Bool := decide (n = r.front.length + r.back.length) || (decide (r.front.length + r.back.length < n) && r.more.isSome)
def RS.at (r : RS) (i n : Nat) : Option PS :=
  if i < r.front.length then r.front[i]? else if i < n - r.back.length then r.more else r.back[i - (n - r.back.length)]?
def fitO : Option PS → Option Fm → Bool
  | some p, some f => p.fits f
  | _, _ => false
def inO : Option PS → Option Fm → Bool
  | some p, some f => p.inB f
  | _, _ => false
def RS.ok (r : RS) (ks : List Fm) : Bool :=
  r.lets ks.length && ((List.range ks.length).all fun i => fitO (r.at i ks.length) ks[i]?) && ((List.range ks.length).all fun i => inO (r.at i ks.length) ks[i]?)

/-- What an asking ends with, told by whether all is well. -/
def AnsB (b : Bool) (e : Ending) : Prop := ∃ r : Option Int, AnsE r e ∧ (r = none ↔ b = true) ∧ r ≠ some 0
theorem AnsB.yes {e : Ending} (h : AnsB true e) : e = .returned (.tuple #[]) := by
  obtain ⟨r, h1, h2, _⟩ := h
  obtain rfl := h2.2 rfl
  exact h1
theorem AnsB.no {e : Ending} (h : AnsB false e) : ∃ c : Int, c ≠ 0 ∧ e = .panicked [{ v := .iface 26 (.int .i64 c), recovered := false }] := by
  obtain ⟨r, h1, h2, h3⟩ := h
  cases r with
  | none => exact absurd (h2.1 rfl) (by simp)
  | some c => exact ⟨c, fun e => h3 (by rw [e]), h1⟩
theorem AnsB.ofYes : AnsB true (.returned (.tuple #[])) := ⟨none, rfl, by simp, by simp⟩
theorem AnsB.ofNo {c : Int} (h : c ≠ 0) : AnsB false (.panicked [{ v := .iface 26 (.int .i64 c), recovered := false }]) := ⟨some c, rfl, by simp, by simpa using h⟩
theorem ansB_of {b : Bool} {c : Int} {e : Ending} (hc : c ≠ 0) (h : AnsE (if b then none else some c) e) : AnsB b e := by
  cases b with
  | true => exact ⟨none, h, by simp, by simp⟩
  | false => exact ⟨some c, h, by simp, by simpa using hc⟩

/-- A form small and good enough to be asked. -/
structure Asked (n : Nat) (t : T) : Prop where
  small : SizeOf.sizeOf t.form < n
  good : fieldsF t.form = true
  few : szF t.form ≤ 20000
theorem len_szL : ∀ l : List Fm, l.length ≤ szL l
  | [] => Nat.zero_le _
  | f :: l => by
    have := len_szL l
    have h := szF_eq f
    simp only [List.length_cons, szL]; omega
theorem fieldsL_mem : ∀ {l : List Fm}, fieldsL l = true → ∀ f ∈ l, fieldsF f = true
  | g :: l, h, f, hf => by
    simp only [fieldsL, Bool.and_eq_true] at h
    rcases List.mem_cons.1 hf with rfl | hf
    · exact h.1
    · exact fieldsL_mem h.2 f hf
theorem Asked.kid {n : Nat} {t u : T} (h : Asked n t) (hk : t.form.kd = 3) (hu : u ∈ t.ks) : Asked n u := by
  have hm : u.form ∈ t.form.kids := by
    rw [Fm.kids, if_pos hk, T.form_ks]; exact List.mem_map_of_mem hu
  refine ⟨?_, ?_, ?_⟩
  · have := Fm.kids_lt hm; have := h.small; omega
  · have := h.good
    rw [fieldsF_eq, Bool.and_eq_true] at this
    exact fieldsL_mem this.2 _ hm
  · have := szL_le hm
    have := szF_eq t.form
    have := h.few
    omega
theorem Asked.len {n : Nat} {t : T} (h : Asked n t) (hk : t.form.kd = 3) : t.ks.length ≤ 20000 := by
  have h1 := len_szL t.form.kids
  have h2 := szF_eq t.form
  have h3 := h.few
  have h4 : t.form.kids.length = t.ks.length := by rw [Fm.kids, if_pos hk, T.form_ks, List.length_map]
  omega
/-- The world has what the small functions ask for. -/
structure Fit (w : World) : Prop where
  max : MaxIs w
theorem Fit.below {w w' : World} (h : Fit w) (hb : Below w.heap.size w w') : Fit w' := ⟨h.max.below hb⟩
/-- The later world has all blocks but those of S as they were. -/
structure Apart (S : Nat → Prop) (w W : World) : Prop where
  size : w.heap.size ≤ W.heap.size
  block : ∀ k, k < w.heap.size → ¬ S k → W.heap[k]? = w.heap[k]?
theorem Apart.refl (S : Nat → Prop) (w : World) : Apart S w w := ⟨Nat.le_refl _, fun _ _ _ => rfl⟩
theorem _root_.Go.RowKit.Below.apart {S : Nat → Prop} {w W : World} (h : Below w.heap.size w W) : Apart S w W := ⟨h.size, fun k hk _ => h.block k hk⟩
theorem Apart.trans {S : Nat → Prop} {a b c : World} (h : Apart S a b) (k : Apart S b c) : Apart S a c :=
  ⟨Nat.le_trans h.size k.size, fun i hi hs => (k.block i (Nat.lt_of_lt_of_le hi h.size) hs).trans (h.block i hi hs)⟩
theorem Apart.cell {S : Nat → Prop} {w W : World} (h : Apart S w W) {p : Addr} (hp : p.block < w.heap.size) (hs : ¬ S p.block) : W.cell? p = w.cell? p := World.cell?_of_block (w := w) (h.block p.block hp hs)
/-- A function value that tells of a form. -/
def FnT (n : Nat) (S : Nat → Prop) (w : World) (v : Value) (q : Fm → Bool) : Prop :=
  ∃ K caps, v = .func (.func K) #[] caps ∧ Enters Tryz.prog K ∧ ∀ W, Apart S w W → MaxIs W → ∀ t : T, In W t → Asked n t →
    Calls Tryz.prog K (#[t.val] ++ caps) W fun e w' => e = .returned (.bool (q t.form)) ∧ Below W.heap.size W w'
/-- A function value that asks a form which fits. -/
def FnA (n : Nat) (S : Nat → Prop) (w : World) (v : Value) (p q : Fm → Bool) : Prop :=
  ∃ K caps, v = .func (.func K) #[] caps ∧ Enters Tryz.prog K ∧ ∀ W, Apart S w W → MaxIs W → ∀ t : T, In W t → Asked n t → p t.form = true →
    Calls Tryz.prog K (#[t.val] ++ caps) W fun e w' => AnsB (q t.form) e ∧ Below W.heap.size W w'
/-- The three values of a part. -/
def PartIs (n : Nat) (S : Nat → Prop) (w : World) (vf vi ve : Value) (p : PS) : Prop :=
  FnT n S w vf p.fits ∧ (match p.ins with | none => vi = .nilFunc | some q => FnA n S w vi p.fits q) ∧ ve = .bool p.isE
/-- A part in a block. -/
def PartAt (n : Nat) (S : Nat → Prop) (w : World) (b o : Nat) (p : PS) : Prop :=
  b < w.heap.size ∧ ¬ S b ∧ ∃ vf vi ve, w.cell? ⟨b, o, none⟩ = some vf ∧ w.cell? ⟨b, o + 1, none⟩ = some vi ∧ w.cell? ⟨b, o + 2, none⟩ = some ve ∧ PartIs n S w vf vi ve p
def PartsAt (n : Nat) (S : Nat → Prop) (w : World) (a : Option Addr) (l : List PS) : Prop :=
  l = [] ∨ ∃ b o, a = some ⟨b, o, none⟩ ∧ ∀ i (h : i < l.length), PartAt n S w b (o + i * 3) l[i]
/-- A row's value. -/
def RowIs (n : Nat) (S : Nat → Prop) (w : World) (v : Value) (r : RS) : Prop :=
  ∃ fa fc ba bc m, v = .agg #[.slice fa r.front.length fc, .slice ba r.back.length bc, .pointer m] ∧ PartsAt n S w fa r.front ∧ PartsAt n S w ba r.back ∧
    (match r.more with | none => m = none | some p => ∃ b, m = some ⟨b, 0, none⟩ ∧ PartAt n S w b 0 p)
variable {S : Nat → Prop}
theorem FnT.apart {n : Nat} {w w' : World} {v : Value} {q : Fm → Bool} (h : FnT n S w v q) (hb : Apart S w w') : FnT n S w' v q := by
  obtain ⟨K, caps, h1, h2, h3⟩ := h
  exact ⟨K, caps, h1, h2, fun W hW => h3 W (hb.trans hW)⟩
theorem FnA.apart {n : Nat} {w w' : World} {v : Value} {p q : Fm → Bool} (h : FnA n S w v p q) (hb : Apart S w w') : FnA n S w' v p q := by
  obtain ⟨K, caps, h1, h2, h3⟩ := h
  exact ⟨K, caps, h1, h2, fun W hW => h3 W (hb.trans hW)⟩
theorem PartIs.apart {n : Nat} {w w' : World} {vf vi ve : Value} {p : PS} (h : PartIs n S w vf vi ve p) (hb : Apart S w w') : PartIs n S w' vf vi ve p := by
  obtain ⟨h1, h2, h3⟩ := h
  refine ⟨h1.apart hb, ?_, h3⟩
  cases hp : p.ins with
  | none => rw [hp] at h2; exact h2
  | some q => rw [hp] at h2; exact h2.apart hb
theorem PartAt.apart {n : Nat} {w w' : World} {b o : Nat} {p : PS} (h : PartAt n S w b o p) (hb : Apart S w w') : PartAt n S w' b o p := by
  obtain ⟨h0, hs, vf, vi, ve, h1, h2, h3, h4⟩ := h
  exact ⟨Nat.lt_of_lt_of_le h0 hb.size, hs, vf, vi, ve, (hb.cell (p := ⟨b, o, none⟩) h0 hs).trans h1, (hb.cell (p := ⟨b, o + 1, none⟩) h0 hs).trans h2, (hb.cell (p := ⟨b, o + 2, none⟩) h0 hs).trans h3, h4.apart hb⟩
theorem PartsAt.apart {n : Nat} {w w' : World} {a : Option Addr} {l : List PS} (h : PartsAt n S w a l) (hb : Apart S w w') : PartsAt n S w' a l := by
  rcases h with h | ⟨b, o, h1, h2⟩
  · exact .inl h
  · exact .inr ⟨b, o, h1, fun i hi => (h2 i hi).apart hb⟩
theorem RowIs.apart {n : Nat} {w w' : World} {v : Value} {r : RS} (h : RowIs n S w v r) (hb : Apart S w w') : RowIs n S w' v r := by
  obtain ⟨fa, fc, ba, bc, m, h1, h2, h3, h4⟩ := h
  refine ⟨fa, fc, ba, bc, m, h1, h2.apart hb, h3.apart hb, ?_⟩
  cases hm : r.more with
  | none => rw [hm] at h4; exact h4
  | some p => rw [hm] at h4; obtain ⟨b, e, h5⟩ := h4; exact ⟨b, e, h5.apart hb⟩
theorem FnT.below {n : Nat} {w w' : World} {v : Value} {q : Fm → Bool} (h : FnT n S w v q) (hb : Below w.heap.size w w') : FnT n S w' v q := h.apart hb.apart
theorem FnA.below {n : Nat} {w w' : World} {v : Value} {p q : Fm → Bool} (h : FnA n S w v p q) (hb : Below w.heap.size w w') : FnA n S w' v p q := h.apart hb.apart
theorem PartIs.below {n : Nat} {w w' : World} {vf vi ve : Value} {p : PS} (h : PartIs n S w vf vi ve p) (hb : Below w.heap.size w w') : PartIs n S w' vf vi ve p := h.apart hb.apart
theorem PartAt.below {n : Nat} {w w' : World} {b o : Nat} {p : PS} (h : PartAt n S w b o p) (hb : Below w.heap.size w w') : PartAt n S w' b o p := h.apart hb.apart
theorem PartsAt.below {n : Nat} {w w' : World} {a : Option Addr} {l : List PS} (h : PartsAt n S w a l) (hb : Below w.heap.size w w') : PartsAt n S w' a l := h.apart hb.apart
theorem RowIs.below {n : Nat} {w w' : World} {v : Value} {r : RS} (h : RowIs n S w v r) (hb : Below w.heap.size w w') : RowIs n S w' v r := h.apart hb.apart
/-- S₁ is what a function still writes to: when it has written, S is left. -/
structure Shift (S S₁ : Nat → Prop) (w w' : World) : Prop where
  sub : ∀ b, S b → S₁ b
  ap : Apart S₁ w w'
theorem Shift.apart {S S₁ : Nat → Prop} {w w' W : World} (h : Shift S S₁ w w') (k : Apart S w' W) : Apart S₁ w W :=
  ⟨Nat.le_trans h.ap.size k.size, fun i hi hs => (k.block i (Nat.lt_of_lt_of_le hi h.ap.size) (fun e => hs (h.sub i e))).trans (h.ap.block i hi hs)⟩
theorem FnT.shift {S₁ : Nat → Prop} {n : Nat} {w w' : World} {v : Value} {q : Fm → Bool} (h : FnT n S₁ w v q) (hb : Shift S S₁ w w') : FnT n S w' v q := by
  obtain ⟨K, caps, h1, h2, h3⟩ := h
  exact ⟨K, caps, h1, h2, fun W hW => h3 W (hb.apart hW)⟩
theorem FnA.shift {S₁ : Nat → Prop} {n : Nat} {w w' : World} {v : Value} {p q : Fm → Bool} (h : FnA n S₁ w v p q) (hb : Shift S S₁ w w') : FnA n S w' v p q := by
  obtain ⟨K, caps, h1, h2, h3⟩ := h
  exact ⟨K, caps, h1, h2, fun W hW => h3 W (hb.apart hW)⟩
theorem PartIs.shift {S₁ : Nat → Prop} {n : Nat} {w w' : World} {vf vi ve : Value} {p : PS} (h : PartIs n S₁ w vf vi ve p) (hb : Shift S S₁ w w') : PartIs n S w' vf vi ve p := by
  obtain ⟨h1, h2, h3⟩ := h
  refine ⟨h1.shift hb, ?_, h3⟩
  cases hp : p.ins with
  | none => rw [hp] at h2; exact h2
  | some q => rw [hp] at h2; exact h2.shift hb
theorem PartAt.shift {S₁ : Nat → Prop} {n : Nat} {w w' : World} {b o : Nat} {p : PS} (h : PartAt n S₁ w b o p) (hb : Shift S S₁ w w') : PartAt n S w' b o p := by
  obtain ⟨h0, hs, vf, vi, ve, h1, h2, h3, h4⟩ := h
  exact ⟨Nat.lt_of_lt_of_le h0 hb.ap.size, fun e => hs (hb.sub _ e), vf, vi, ve, (hb.ap.cell (p := ⟨b, o, none⟩) h0 hs).trans h1, (hb.ap.cell (p := ⟨b, o + 1, none⟩) h0 hs).trans h2, (hb.ap.cell (p := ⟨b, o + 2, none⟩) h0 hs).trans h3, h4.shift hb⟩
theorem PartsAt.shift {S₁ : Nat → Prop} {n : Nat} {w w' : World} {a : Option Addr} {l : List PS} (h : PartsAt n S₁ w a l) (hb : Shift S S₁ w w') : PartsAt n S w' a l := by
  rcases h with h | ⟨b, o, h1, h2⟩
  · exact .inl h
  · exact .inr ⟨b, o, h1, fun i hi => (h2 i hi).shift hb⟩
theorem RowIs.shift {S₁ : Nat → Prop} {n : Nat} {w w' : World} {v : Value} {r : RS} (h : RowIs n S₁ w v r) (hb : Shift S S₁ w w') : RowIs n S w' v r := by
  obtain ⟨fa, fc, ba, bc, m, h1, h2, h3, h4⟩ := h
  refine ⟨fa, fc, ba, bc, m, h1, h2.shift hb, h3.shift hb, ?_⟩
  cases hm : r.more with
  | none => rw [hm] at h4; exact h4
  | some p => rw [hm] at h4; obtain ⟨b, e, h5⟩ := h4; exact ⟨b, e, h5.shift hb⟩
end Go.Proofs.YtmlfiopbdlaaaaaGreat
