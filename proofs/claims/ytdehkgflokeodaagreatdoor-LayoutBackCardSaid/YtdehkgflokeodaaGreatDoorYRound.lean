/- A form in lines is read as it was. Plain. -/
import Derived.Test.YtdehkgflokeodaaGreatDoorRound
import Derived.Test.YtdehkgflokeodaaGreatDoorYPure
namespace Go.Proofs.YtdehkgflokeodaaGreatDoor.Y
open Go.RowKit Go.Deep

/-- A text that is read as a form, wherever it stands. -/
def Reads (x : List UInt8) (f : Fm) : Prop := ∀ (s : ByteArray) (pos : Nat) (r : List UInt8) (O : List (List Fm)) (top : List Fm), Rest s pos (x ++ r) → Ends r → ∃ t, Reach s pos O top false (pos + x.length) O (top ++ [f]) t
theorem reads_tx {f : Fm} (h : fieldsF f = true) : Reads (txF f) f := fun s pos r O top hr he => reach_form _ f (Nat.lt_succ_self _) h s pos r O top hr he
/-- Forms, one behind the other, with blanks ahead of each (b: of the first one, too). -/
inductive Kids : Bool → List UInt8 → List Fm → Prop
  | nil (b : Bool) : Kids b [] []
  | cons {b : Bool} {sep x y : List UInt8} {f : Fm} {fs : List Fm} : (∀ c ∈ sep, blankB (c.toNat : Int) = true) → (b = true → sep ≠ []) → Reads x f → Kids true y fs → Kids b (sep ++ (x ++ y)) (f :: fs)
theorem Kids.append {b : Bool} {y z : List UInt8} {fs gs : List Fm} (h : Kids b y fs) (hz : Kids (b || !fs.isEmpty) z gs) : Kids b (y ++ z) (fs ++ gs) := by
  induction h with
  | nil b => simpa using hz
  | @cons b sep x y f fs h1 h2 h3 h4 ih =>
    have : Kids true (y ++ z) (fs ++ gs) := ih (by simpa using hz)
    simpa using Kids.cons (b := b) h1 h2 h3 this
theorem blank_tok {c : UInt8} (h : blankB (c.toNat : Int) = true) : tokB (c.toNat : Int) = false := by
  unfold blankB at h
  unfold tokB plainB
  simp only [Bool.or_eq_true, beq_iff_eq] at h
  cases hh : (decide (33 ≤ (c.toNat : Int)) && decide ((c.toNat : Int) ≤ 126)) with
  | false => rfl
  | true => simp at hh; omega
theorem Kids.ends {y : List UInt8} {fs : List Fm} (h : Kids true y fs) (r : List UInt8) : Ends (y ++ 41 :: r) := by
  intro c hc
  cases h with
  | nil => simp at hc; subst hc; decide
  | @cons _ sep x y f fs h1 h2 h3 h4 =>
    cases sep with
    | nil => exact absurd rfl (h2 rfl)
    | cons a q => simp at hc; subst hc; exact blank_tok (h1 _ (by simp))
theorem reach_blanks {s : ByteArray} : ∀ (sep : List UInt8) (pos : Nat) (r : List UInt8), Rest s pos (sep ++ r) → (∀ c ∈ sep, blankB (c.toNat : Int) = true) → ∀ (O : List (List Fm)) (top : List Fm) (t : Bool), Reach s pos O top t (pos + sep.length) O top (if sep = [] then t else false)
  | [], pos, r, _, _, O, top, t => by simpa using Reach.refl _ _ _ _ _
  | a :: sep, pos, r, h, hb, O, top, t => by
    have h1 := reach_blank h (hb a (by simp)) O top t
    have h2 := reach_blanks sep (pos + 1) r h.head.choose_spec.2 (fun c hc => hb c (by simp [hc])) O top false
    have h3 : (if sep = [] then false else false) = false := by split <;> rfl
    rw [h3] at h2
    have := h1.trans h2
    simp only [List.length_cons]
    rw [show pos + (sep.length + 1) = pos + 1 + sep.length by omega]
    simpa using this
theorem Kids.reach {b : Bool} {y : List UInt8} {fs : List Fm} (h : Kids b y fs) : ∀ (s : ByteArray) (p : Nat) (r : List UInt8) (O : List (List Fm)) (a : List Fm) (t : Bool), (b = false → t = false) → Rest s p (y ++ 41 :: r) → ∃ t', Reach s p O a t (p + y.length) O (a ++ fs) t' := by
  induction h with
  | nil b => intro s p r O a t _ _; exact ⟨t, by simpa using Reach.refl _ _ _ _ _⟩
  | @cons b sep x y f fs h1 h2 h3 h4 ih =>
    intro s p r O a t ht hr
    simp only [List.append_assoc] at hr
    have q1 := reach_blanks sep p _ hr h1 O a t
    have hf : (if sep = [] then t else false) = false := by
      split
      · rename_i e
        cases b with
        | false => exact ht rfl
        | true => exact absurd e (h2 rfl)
      · rfl
    rw [hf] at q1
    have r1 := hr.skip
    obtain ⟨t1, q2⟩ := h3 s _ _ O a r1 (h4.ends r)
    obtain ⟨t2, q3⟩ := ih s _ r O (a ++ [f]) t1 (fun e => by cases e) r1.skip
    refine ⟨t2, ?_⟩
    have := q1.trans (q2.trans q3)
    simp only [List.length_append]
    rw [show p + (sep.length + (x.length + y.length)) = p + sep.length + x.length + y.length by omega]
    simpa using this
theorem reads_list {y : List UInt8} {fs : List Fm} (h : Kids false y fs) : Reads (40 :: (y ++ [41])) (.mk 3 0 ⟨#[]⟩ fs) := by
  intro s pos r O top hr _
  have h0 : Rest s pos (40 :: (y ++ 41 :: r)) := by simpa using hr
  obtain ⟨t, h1⟩ := h.reach s (pos + 1) r (O ++ [top]) [] false (fun _ => rfl) h0.head.choose_spec.2
  have r1 := h0.head.choose_spec.2.skip
  refine ⟨false, ?_⟩
  have := (reach_open h0 O top false).trans (h1.trans (reach_close r1 O top _ t))
  simp only [List.length_cons, List.length_append, List.length_nil]
  rw [show pos + (y.length + (0 + 1) + 1) = pos + 1 + y.length + 1 by omega]
  simpa using this
theorem kids_join (l : List Fm) (h : ∀ g ∈ l, fieldsF g = true) : Kids false (joinB (l.map txF)) l := by
  have key : ∀ l : List Fm, (∀ g ∈ l, fieldsF g = true) → Kids true ((l.map txF).flatMap fun y => (32 : UInt8) :: y) l := by
    intro l
    induction l with
    | nil => intro _; exact Kids.nil _
    | cons g l ih =>
      intro h
      have := Kids.cons (b := true) (sep := [32]) (by intro c hc; simp at hc; subst hc; decide) (by simp) (reads_tx (h g (by simp))) (ih fun x hx => h x (by simp [hx]))
      simpa using this
  cases l with
  | nil => exact Kids.nil _
  | cons g l =>
    have := Kids.cons (b := false) (sep := []) (by simp) (by simp) (reads_tx (h g (by simp))) (key l fun x hx => h x (by simp [hx]))
    simpa [joinB] using this
theorem reads_lin (n : Nat) : ∀ f : Fm, SizeOf.sizeOf f < n → fieldsF f = true → ∀ c w k, Reads (linF f c w k) f := by
  induction n with
  | zero => intro f h; omega
  | succ n ih =>
    intro f hn hf c w k
    rw [linF_eq]
    split
    · exact reads_tx hf
    · rename_i hx
      have hk : f.kd = 3 := by
        by_cases e : f.kd = 3
        · exact e
        · exact absurd (.inr (.inl e)) hx
      have hks : f.kids = f.ks := by unfold Fm.kids; rw [if_pos hk]
      have hfl := hf
      rw [fieldsF_eq, Bool.and_eq_true, hks] at hfl
      have hkid : ∀ g ∈ f.ks, fieldsF g = true := fun g hg => fieldsL_mem hfl.2 hg
      have hrec : f = .mk 3 0 ⟨#[]⟩ f.ks := by
        rcases alone_cases hfl.1 with ⟨k1, _, _, _⟩ | ⟨k1, _, _, _⟩ | ⟨k1, _, _, _⟩ | ⟨k1, h0, hx2⟩
        · omega
        · omega
        · omega
        · obtain ⟨fk, fn, fs, fks⟩ := f
          simp only [Fm.kd, Fm.nn, Fm.tx, Fm.ks] at *
          subst k1 h0
          rw [bytes_nil hx2]
      have hl : ∀ (l : List Fm) (fr i : Nat), fr ≤ i → (∀ g ∈ l, fieldsF g = true ∧ SizeOf.sizeOf g < n) → Kids (decide (0 < i)) (linL l fr i (c + indN f.ks) w k) l := by
        intro l
        induction l with
        | nil => intro fr i _ _; rw [linL]; exact Kids.nil _
        | cons g l ihl =>
          intro fr i hi hall
          have hg := hall g (by simp)
          rw [linL, if_neg (by omega)]
          have hr := ihl fr (i + 1) (by omega) fun x hx => hall x (by simp [hx])
          rw [show decide (0 < i + 1) = true by simp] at hr
          have := Kids.cons (b := decide (0 < i)) (sep := if 0 < i then 10 :: blk (c + indN f.ks) else []) (by
            intro b hb
            split at hb
            · rcases List.mem_cons.1 hb with rfl | hb
              · decide
              · have := List.eq_of_mem_replicate hb
                subst this
                decide
            · cases hb) (by intro e; simp at e; rw [if_pos e]; simp) (ih g hg.2 hg.1 (c + indN f.ks) w (if l.isEmpty then k + 1 else 0)) hr
          simpa using this
      have hfr := frN_le f.ks
      have h1 := kids_join (f.ks.take (frN f.ks)) fun g hg => hkid g (List.mem_of_mem_take hg)
      have h2 := hl (f.ks.drop (frN f.ks)) (frN f.ks) (frN f.ks) (Nat.le_refl _) fun g hg => ⟨hkid g (List.mem_of_mem_drop hg), by have := Fm.kid_lt (List.mem_of_mem_drop hg); omega⟩
      have e0 := linL_skip (frN f.ks) f.ks (frN f.ks) 0 (c + indN f.ks) w k (by omega) hfr.1
      rw [Nat.zero_add] at e0
      rw [← e0] at h2
      have e1 : (false || !(f.ks.take (frN f.ks)).isEmpty) = decide (0 < frN f.ks) := by
        rw [Bool.eq_iff_iff]
        simp only [Bool.false_or, Bool.not_eq_true', List.isEmpty_eq_false_iff, ne_eq, List.take_eq_nil_iff, decide_eq_true_eq]
        constructor
        · intro h
          rcases Nat.eq_zero_or_pos (frN f.ks) with e | e
          · exact absurd (.inl e) h
          · exact e
        · rintro h (e | e)
          · omega
          · rw [e] at h; simp [frN] at h
      have h3 := Kids.append h1 (by rw [e1]; exact h2)
      rw [List.take_append_drop] at h3
      have h4 := reads_list h3
      rw [← hrec] at h4
      simpa using h4
/-- A form in lines is read as that form alone. -/
theorem read_lin {f : Fm} (hv : validF f = true) {w : Nat} {d : ByteArray} (hd : d.data.toList = linF f 0 w 0) (hs : d.size ≤ 60000) : readR d = .ok [f] := by
  have h0 : Rest d 0 (linF f 0 w 0 ++ []) := ⟨by simpa using hd, Nat.zero_le _⟩
  obtain ⟨t, h1⟩ := reads_lin _ f (Nat.lt_succ_self _) (valid_parts hv).2.2 0 w 0 d 0 [] [] [] h0 (by intro c hc; cases hc)
  have hz : 0 + (linF f 0 w 0).length = d.size := by rw [← hd]; simp
  rw [hz] at h1
  exact reach_end h1 hs (by simp [hv])
end Go.Proofs.YtdehkgflokeodaaGreatDoor.Y
