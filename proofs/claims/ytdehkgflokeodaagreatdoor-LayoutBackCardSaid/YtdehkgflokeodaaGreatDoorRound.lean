/- What is written is read back. Plain. -/
import Derived.Test.YtdehkgflokeodaaGreatDoorTxt
import Derived.Test.YtdehkgflokeodaaGreatDoorReadPure
import Derived.Lib.AtoiAllCases
namespace Go.Proofs.YtdehkgflokeodaaGreatDoor
open Go.RowKit Go.Deep

/-! ### Numerals -/
theorem toNat_ofNat {n : Nat} (h : n < 256) : (UInt8.ofNat n).toNat = n := by simp [Nat.mod_eq_of_lt h]
theorem dec_digits (u : Nat) : ∀ c ∈ Lib.decDigits u, 48 ≤ c.toNat ∧ c.toNat ≤ 57 := by
  induction u using Nat.strongRecOn with
  | _ u ih =>
    intro c hc
    rw [Lib.decDigits] at hc
    split at hc
    · rename_i h
      simp only [List.mem_singleton] at hc
      subst hc
      rw [toNat_ofNat (by omega)]; omega
    · rename_i h
      rcases List.mem_append.1 hc with hc | hc
      · exact ih (u / 10) (by omega) c hc
      · simp only [List.mem_singleton] at hc
        subst hc
        rw [toNat_ofNat (by omega)]; omega
theorem dec_ne (u : Nat) : Lib.decDigits u ≠ [] := by
  intro h
  have := Lib.decDigits_length u
  rw [h] at this
  have := Lib.nDigits_pos u
  simp at *
  omega
theorem dec_head (u : Nat) (h : 1 ≤ u) : ∀ c, (Lib.decDigits u).head? = some c → c.toNat ≠ 48 := by
  induction u using Nat.strongRecOn with
  | _ u ih =>
    intro c hc
    rw [Lib.decDigits] at hc
    split at hc
    · simp only [List.head?_cons, Option.some.injEq] at hc
      subst hc
      rw [toNat_ofNat (by omega)]; omega
    · rename_i hu
      have hne := dec_ne (u / 10)
      cases hd : Lib.decDigits (u / 10) with
      | nil => exact absurd hd hne
      | cons a r =>
        rw [hd] at hc
        simp only [List.cons_append, List.head?_cons, Option.some.injEq] at hc
        subst hc
        exact ih (u / 10) (by omega) (by omega) a (by rw [hd]; rfl)
theorem parse_snoc : ∀ (l : List UInt8) (acc v : Nat) (c : UInt8), Lib.parseUint10 acc l = .ok v → Lib.parseUint10 acc (l ++ [c]) = Lib.parseUint10 v [c]
  | [], acc, v, c, h => by
    simp only [Lib.parseUint10] at h
    injection h with h
    subst h
    rfl
  | b :: l, acc, v, c, h => by
    rw [List.cons_append]
    rw [Lib.parseUint10] at h ⊢
    split at h
    · rename_i h1
      rw [if_pos h1]
      split at h
      · cases h
      · rename_i h2
        rw [if_neg h2]
        split at h
        · cases h
        · rename_i h3
          rw [if_neg h3]
          exact parse_snoc l _ v c h
    · cases h
theorem parse_dec (u : Nat) (h : u ≤ 1152921504606846976) : Lib.parseUint10 0 (Lib.decDigits u) = .ok u := by
  induction u using Nat.strongRecOn with
  | _ u ih =>
    rw [Lib.decDigits]
    split
    · rename_i hu
      have e : (UInt8.ofNat (48 + u)).toNat = 48 + u := toNat_ofNat (by omega)
      rw [Lib.parseUint10, e, if_pos (by omega), if_neg (by omega), if_neg (by omega), Lib.parseUint10]
      congr 1; omega
    · rename_i hu
      rw [parse_snoc _ _ _ _ (ih (u / 10) (by omega) (by omega))]
      have e : (UInt8.ofNat (48 + u % 10)).toNat = 48 + u % 10 := toNat_ofNat (by omega)
      rw [Lib.parseUint10, e, if_pos (by omega), if_neg (by omega), if_neg (by omega), Lib.parseUint10]
      congr 1; omega
theorem mag_dec (u : Nat) (h : u ≤ 1152921504606846976) : Lib.parseMag (Lib.decDigits u) = .ok u := by
  unfold Lib.parseMag
  rw [if_neg (dec_ne u), parse_dec u h]
theorem atoi_itoa (n : Int) (h1 : -1152921504606846976 ≤ n) (h2 : n ≤ 1152921504606846976) : Lib.atoiAll (Lib.itoa n) = .ok n := by
  unfold Lib.itoa
  split
  · rw [Lib.atoiAll_minus, mag_dec _ (by omega)]
    simp only [Lib.signed]
    rw [if_neg (by omega)]
    congr 1; omega
  · cases hd : Lib.decDigits n.toNat with
    | nil => exact absurd hd (dec_ne _)
    | cons a r =>
      have ha := dec_digits n.toNat a (by rw [hd]; simp)
      rw [Lib.atoiAll_plain a r (by omega) (by omega), ← hd, mag_dec _ (by omega)]
      simp only [Lib.signless]
      rw [if_neg (by omega)]
      congr 1; omega
theorem trim_itoa (n : Int) : Lib.trimPrefix (Lib.itoa n) [45] = Lib.decDigits (if n < 0 then n.natAbs else n.toNat) := by
  unfold Lib.itoa
  split
  · unfold Lib.trimPrefix
    rw [if_pos (by simp [Lib.hasPrefix])]
    rfl
  · unfold Lib.trimPrefix
    rw [if_neg]
    cases hd : Lib.decDigits n.toNat with
    | nil => exact absurd hd (dec_ne _)
    | cons a r =>
      have ha := dec_digits n.toNat a (by rw [hd]; simp)
      simp only [Lib.hasPrefix, List.isPrefixOf]
      simp
      intro e
      rw [← e] at ha
      have : (45 : UInt8).toNat = 45 := rfl
      omega
theorem num_itoa (n : Int) : numL (Lib.itoa n) = true := by
  unfold numL
  rw [trim_itoa]
  have hne := dec_ne (if n < 0 then n.natAbs else n.toNat)
  simp only [Bool.and_eq_true, List.all_eq_true]
  refine ⟨by simpa using hne, fun c hc => ?_⟩
  have := dec_digits _ c hc
  simp [digB]; omega
theorem canon_itoa (n : Int) : canonL (Lib.itoa n) = true := by
  unfold canonL
  rw [trim_itoa]
  by_cases h0 : n = 0
  · subst h0
    have : Lib.itoa 0 = [48] := by unfold Lib.itoa; rw [if_neg (by omega)]; show Lib.decDigits 0 = [48]; rw [Lib.decDigits]; rfl
    rw [this]; simp
  · have hu : 1 ≤ (if n < 0 then n.natAbs else n.toNat) := by split <;> omega
    have := dec_head _ hu
    cases hd : (Lib.decDigits (if n < 0 then n.natAbs else n.toNat)).head? with
    | none => simp
    | some c =>
      have hc := this c hd
      have : c ≠ 48 := fun e => hc (by rw [e]; rfl)
      simp [this]
theorem tok_itoa (n : Int) : ∀ c ∈ Lib.itoa n, tokB (c.toNat : Int) = true := by
  intro c hc
  unfold Lib.itoa at hc
  have dig : ∀ u, ∀ c ∈ Lib.decDigits u, tokB (c.toNat : Int) = true := fun u c hc => by
    have := dec_digits u c hc
    simp [tokB, plainB]; omega
  split at hc
  · rcases List.mem_cons.1 hc with rfl | hc
    · decide
    · exact dig _ _ hc
  · exact dig _ _ hc
theorem itoa_ne (n : Int) : Lib.itoa n ≠ [] := by
  unfold Lib.itoa
  split
  · simp
  · exact dec_ne _

/-! ### Texts -/
theorem txt_esc : ∀ (l : List UInt8) (r : List UInt8), (∀ c ∈ l, txtB (c.toNat : Int) = true) → txtL (escL l ++ 34 :: r) = .done l ((escL l).length + 1)
  | [], r, _ => by
    simp only [escL, List.flatMap_nil, List.nil_append, List.length_nil, Nat.zero_add]
    rw [txtL_cons, if_pos (by decide)]
  | b :: l, r, h => by
    have ih := txt_esc l r fun c hc => h c (by simp [hc])
    have hb := h b (by simp)
    have e : escL (b :: l) = escB b ++ escL l := by simp [escL]
    rw [e]
    unfold escB
    split
    · rename_i hq
      simp only [List.cons_append, List.nil_append]
      rw [txtL_cons, if_neg (by decide), if_pos (by decide)]
      have ho : unOk (b.toNat : Int) = true := by unfold unOk; simp; omega
      have hu : unB b = b := by
        unfold unB
        rw [if_neg]
        intro e
        rw [e] at hq
        revert hq
        decide
      simp only [ho, if_true, hu]
      rw [ih]
      simp only [TX.pre, List.cons_append, List.nil_append, List.length_cons]
      congr 1; omega
    · rename_i hq
      split
      · rename_i h10
        simp only [List.cons_append, List.nil_append]
        rw [txtL_cons, if_neg (by decide), if_pos (by decide)]
        have ho : unOk ((110 : UInt8).toNat : Int) = true := by decide
        have hu : unB 110 = b := by
          unfold unB
          rw [if_pos rfl]
          apply UInt8.toNat_inj.1
          rw [h10]; rfl
        simp only [ho, if_true, hu]
        rw [ih]
        simp only [TX.pre, List.cons_append, List.nil_append, List.length_cons]
        congr 1; omega
      · rename_i h10
        simp only [List.cons_append, List.nil_append]
        have hp : b.toNat = 32 ∨ plainB (b.toNat : Int) = true := by
          unfold txtB at hb
          simp only [Bool.or_eq_true, beq_iff_eq] at hb
          rcases hb with (hb | hb) | hb
          · omega
          · exact .inl (by omega)
          · exact .inr hb
        rw [txtL_cons, if_neg (by omega), if_neg (by omega), if_pos hp, ih]
        simp only [TX.pre, List.cons_append, List.nil_append, List.length_cons]
        congr 1; omega

/-! ### Steps -/
/-- The rest of the text behind pos. -/
def Rest (s : ByteArray) (pos : Nat) (l : List UInt8) : Prop := s.data.toList.drop pos = l ∧ pos ≤ s.size
theorem Rest.head {s : ByteArray} {pos : Nat} {b : UInt8} {r : List UInt8} (h : Rest s pos (b :: r)) : ∃ hp : pos < s.size, s[pos] = b ∧ Rest s (pos + 1) r := by
  have hp : pos < s.size := by
    rcases Nat.lt_or_ge pos s.size with h' | h'
    · exact h'
    · have := h.1
      rw [List.drop_of_length_le (by simpa using h')] at this
      cases this
  have := drop_byte hp
  rw [h.1] at this
  injection this with h1 h2
  exact ⟨hp, h1.symm, h2.symm, hp⟩
theorem Rest.skip {s : ByteArray} {pos : Nat} {x r : List UInt8} (h : Rest s pos (x ++ r)) : Rest s (pos + x.length) r := by
  refine ⟨?_, ?_⟩
  · rw [← List.drop_drop, h.1]; simp
  · have h1 := congrArg List.length h.1
    have := h.2
    simp at h1
    omega
theorem Rest.size {s : ByteArray} {pos : Nat} {l : List UInt8} (h : Rest s pos l) : pos + l.length = s.size := by
  have h1 := congrArg List.length h.1
  have := h.2
  simp at h1
  omega
def Reach (s : ByteArray) (pos : Nat) (O : List (List Fm)) (top : List Fm) (t : Bool) (pos' : Nat) (O' : List (List Fm)) (top' : List Fm) (t' : Bool) : Prop :=
  ∃ n, pos + n ≤ pos' ∧ ∀ k, loopS s (k + n) pos O top t = loopS s k pos' O' top' t'
theorem Reach.refl (s : ByteArray) (pos : Nat) (O : List (List Fm)) (top : List Fm) (t : Bool) : Reach s pos O top t pos O top t := ⟨0, by omega, fun _ => rfl⟩
theorem Reach.trans {s : ByteArray} {p p' p'' : Nat} {O O' O'' : List (List Fm)} {a a' a'' : List Fm} {t t' t'' : Bool} (h : Reach s p O a t p' O' a' t') (g : Reach s p' O' a' t' p'' O'' a'' t'') : Reach s p O a t p'' O'' a'' t'' := by
  obtain ⟨n, h1, h2⟩ := h
  obtain ⟨m, g1, g2⟩ := g
  exact ⟨m + n, by omega, fun k => by rw [← Nat.add_assoc, h2, g2]⟩
theorem Reach.step {s : ByteArray} {p q : Nat} {O O' : List (List Fm)} {a a' : List Fm} {t t' : Bool} (hp : p < s.size) (h : stepS s p s[p].toNat O a t = .ok q O' a' t') (hq : p < q) : Reach s p O a t q O' a' t' :=
  ⟨1, by omega, fun k => loopS_ok hp h⟩
/-- A blank. -/
theorem reach_blank {s : ByteArray} {pos : Nat} {b : UInt8} {r : List UInt8} (h : Rest s pos (b :: r)) (hb : blankB (b.toNat : Int) = true) (O : List (List Fm)) (top : List Fm) (t : Bool) : Reach s pos O top t (pos + 1) O top false := by
  obtain ⟨hp, e, _⟩ := h.head
  refine Reach.step hp ?_ (by omega)
  rw [e]
  unfold stepS
  have h59 : b.toNat ≠ 59 := by intro e; rw [e] at hb; revert hb; decide
  rw [if_neg h59, if_pos hb]
theorem takeWhile_all {p : UInt8 → Bool} : ∀ (x r : List UInt8), (∀ c ∈ x, p c = true) → (∀ c, r.head? = some c → p c = false) → (x ++ r).takeWhile p = x
  | [], [], _, _ => rfl
  | [], c :: r, _, h => by
    rw [List.nil_append, List.takeWhile_cons, h c rfl]; rfl
  | a :: x, r, h, h' => by
    rw [List.cons_append, List.takeWhile_cons, h a (by simp)]
    simp only [if_true]
    rw [takeWhile_all x r (fun c hc => h c (by simp [hc])) h']
theorem span_all {p : Int → Bool} {s : ByteArray} {pos : Nat} {x r : List UInt8} (h : Rest s pos (x ++ r)) (hx : ∀ c ∈ x, p (c.toNat : Int) = true) (hr : ∀ c, r.head? = some c → p (c.toNat : Int) = false) : spanL p (s.data.toList.drop pos) = x := by
  unfold spanL
  rw [h.1]
  exact takeWhile_all x r hx hr
/-- A comment. -/
theorem reach_comment {s : ByteArray} {pos : Nat} {x r : List UInt8} (h : Rest s pos (59 :: x ++ 10 :: r)) (hx : ∀ c ∈ x, c.toNat ≠ 10) (O : List (List Fm)) (top : List Fm) (t : Bool) : Reach s pos O top t (pos + (x.length + 1)) O top false := by
  obtain ⟨hp, e, _⟩ := Rest.head (b := 59) (r := x ++ 10 :: r) (by simpa using h)
  have hs := span_all (p := nnlB) (x := 59 :: x) (r := 10 :: r) h (fun c hc => by
    rcases List.mem_cons.1 hc with rfl | hc
    · decide
    · have := hx c hc
      simp [nnlB]; omega) (fun c hc => by simp at hc; subst hc; decide)
  refine Reach.step hp ?_ (by omega)
  rw [e]
  unfold stepS
  rw [if_pos (by decide), hs]
  simp
/-- What may stand behind a number or a word. -/
def Ends (r : List UInt8) : Prop := ∀ c, r.head? = some c → tokB (c.toNat : Int) = false
theorem reach_tok {s : ByteArray} {pos : Nat} {x r : List UInt8} {k n : Int} {d : ByteArray} (h : Rest s pos (x ++ r)) (hx : ∀ c ∈ x, tokB (c.toNat : Int) = true) (hne : x ≠ []) (hr : Ends r) (ht : tokenR ⟨x.toArray⟩ = .form k n d) (O : List (List Fm)) (top : List Fm) :
    Reach s pos O top false (pos + x.length) O (top ++ [.mk k n d []]) true := by
  obtain ⟨b, y, rfl⟩ : ∃ b y, x = b :: y := by cases x with
                                              | nil => exact absurd rfl hne
                                              | cons b y => exact ⟨b, y, rfl⟩
  obtain ⟨hp, e, _⟩ := Rest.head (b := b) (r := y ++ r) (by simpa using h)
  have hs := span_all (p := tokB) h hx hr
  have hb := hx b (by simp)
  have hsp : spanB tokB s pos = ⟨(b :: y).toArray⟩ := by unfold spanB; rw [hs]
  refine Reach.step hp ?_ (by simp)
  rw [e]
  unfold tokB at hb
  simp only [Bool.and_eq_true, bne_iff_ne, ne_eq] at hb
  obtain ⟨⟨⟨⟨p0, p1⟩, p2⟩, p3⟩, p4⟩ := hb
  have hbl : blankB (b.toNat : Int) = false := by
    unfold plainB at p0
    simp only [Bool.and_eq_true, decide_eq_true_eq] at p0
    simp [blankB]; omega
  unfold stepS
  rw [if_neg (by omega), if_neg (by rw [hbl]; simp), if_neg (by omega), if_neg (by omega), if_neg (by rw [p0]; simp), if_neg (by simp), if_neg (by omega)]
  unfold tokS
  rw [hsp, ht]
  simp
  rfl
/-- A text. -/
theorem reach_text {s : ByteArray} {pos : Nat} {l r : List UInt8} (h : Rest s pos (quoL l ++ r)) (hl : ∀ c ∈ l, txtB (c.toNat : Int) = true) (hs : l.length ≤ 2000) (O : List (List Fm)) (top : List Fm) :
    Reach s pos O top false (pos + (quoL l).length) O (top ++ [.mk 2 0 ⟨l.toArray⟩ []]) true := by
  have h' : Rest s pos (34 :: (escL l ++ 34 :: r)) := by
    have e : quoL l ++ r = 34 :: (escL l ++ 34 :: r) := by simp [quoL]
    rwa [e] at h
  obtain ⟨hp, e, h2⟩ := h'.head
  refine Reach.step hp ?_ (by simp [quoL])
  rw [e]
  unfold stepS
  rw [if_neg (by decide), if_neg (by decide), if_neg (by decide), if_neg (by decide), if_neg (by decide), if_neg (by simp), if_pos (by decide)]
  unfold textS
  rw [h2.1, txt_esc l r hl]
  simp only
  have hz : (⟨l.toArray⟩ : ByteArray).size = l.length := by show l.toArray.size = l.length; simp
  rw [if_neg (by rw [hz]; omega)]
  congr 1
  simp [quoL]; omega
theorem reach_open {s : ByteArray} {pos : Nat} {r : List UInt8} (h : Rest s pos (40 :: r)) (O : List (List Fm)) (top : List Fm) (t : Bool) : Reach s pos O top t (pos + 1) (O ++ [top]) [] false := by
  obtain ⟨hp, e, _⟩ := h.head
  refine Reach.step hp ?_ (by omega)
  rw [e]
  unfold stepS
  rw [if_neg (by decide), if_neg (by decide), if_pos (by decide)]
theorem reach_close {s : ByteArray} {pos : Nat} {r : List UInt8} (h : Rest s pos (41 :: r)) (O : List (List Fm)) (l top : List Fm) (t : Bool) : Reach s pos (O ++ [l]) top t (pos + 1) O (l ++ [.mk 3 0 ⟨#[]⟩ top]) false := by
  obtain ⟨hp, e, _⟩ := h.head
  refine Reach.step hp ?_ (by omega)
  rw [e]
  unfold stepS
  rw [if_neg (by decide), if_neg (by decide), if_neg (by decide), if_pos (by decide)]
  unfold closeS
  simp

theorem bytes_nil {d : ByteArray} (h : d.size = 0) : d = ⟨#[]⟩ := by
  apply ByteArray.ext
  apply Array.eq_empty_of_size_eq_zero
  exact h
theorem bytes_back (d : ByteArray) : (⟨d.data.toList.toArray⟩ : ByteArray) = d := by cases d; simp
theorem allB_mem {p : Int → Bool} {d : ByteArray} (h : allB p d = true) : ∀ c ∈ d.data.toList, p (c.toNat : Int) = true := by
  unfold allB at h
  exact List.all_eq_true.1 h
/-- A form that is written is read as it was. -/
theorem reach_form (n : Nat) : ∀ f : Fm, SizeOf.sizeOf f < n → fieldsF f = true → ∀ (s : ByteArray) (pos : Nat) (r : List UInt8) (O : List (List Fm)) (top : List Fm), Rest s pos (txF f ++ r) → Ends r →
    ∃ t, Reach s pos O top false (pos + (txF f).length) O (top ++ [f]) t := by
  induction n with
  | zero => intro f h; omega
  | succ n ih =>
    intro f hn hf s pos r O top h hr
    rw [fieldsF_eq, Bool.and_eq_true] at hf
    rw [txF_eq] at h ⊢
    rcases alone_cases hf.1 with ⟨k, hx, hk, h1, h2⟩ | ⟨k, h0, hk, hw⟩ | ⟨k, h0, hk, hw⟩ | ⟨k, h0, hx⟩
    · rw [if_pos k] at h ⊢
      obtain ⟨fk, fn, fs, fks⟩ := f
      simp only [Fm.kd, Fm.nn, Fm.tx, Fm.ks] at *
      subst k hk
      rw [bytes_nil hx]
      refine ⟨true, reach_tok h (tok_itoa fn) (itoa_ne fn) hr ?_ O top⟩
      unfold tokenR
      have e : (⟨(Lib.itoa fn).toArray⟩ : ByteArray).data.toList = Lib.itoa fn := rfl
      rw [if_neg (by unfold numB; rw [e, num_itoa]; simp), e, if_neg (by rw [canon_itoa]; simp), atoi_itoa fn h1 h2]
      simp only
      rw [if_pos (by unfold rangeB; simp [h1, h2])]
    · rw [if_neg (by omega), if_pos k] at h ⊢
      obtain ⟨fk, fn, fs, fks⟩ := f
      simp only [Fm.kd, Fm.nn, Fm.tx, Fm.ks] at *
      subst k hk h0
      have hw2 := hw
      unfold wordB at hw
      simp only [Bool.and_eq_true, decide_eq_true_eq, Bool.not_eq_true'] at hw
      obtain ⟨⟨⟨w1, w2⟩, w3⟩, w4⟩ := hw
      refine ⟨true, reach_tok h (allB_mem w3) (by intro e; have : fs.size = 0 := (by have := congrArg List.length e; simpa using this); omega) hr ?_ O top⟩
      rw [bytes_back]
      unfold tokenR
      rw [if_pos w4, if_neg (by omega)]
    · rw [if_neg (by omega), if_neg (by omega), if_pos k] at h ⊢
      obtain ⟨fk, fn, fs, fks⟩ := f
      simp only [Fm.kd, Fm.nn, Fm.tx, Fm.ks] at *
      subst k hk h0
      unfold textB at hw
      simp only [Bool.and_eq_true, decide_eq_true_eq] at hw
      have := reach_text h (allB_mem hw.2) (by simpa using hw.1) O top
      rw [bytes_back] at this
      exact ⟨true, this⟩
    · rw [if_neg (by omega), if_neg (by omega), if_neg (by omega)] at h ⊢
      have hks : f.kids = f.ks := by unfold Fm.kids; rw [if_pos k]
      rw [hks] at hf
      have hkid : ∀ g ∈ f.ks, fieldsF g = true := fun g hg => fieldsL_mem hf.2 hg
      have hsz : ∀ g ∈ f.ks, SizeOf.sizeOf g < n := fun g hg => by have := Fm.kid_lt hg; omega
      have hrec : f = .mk 3 0 ⟨#[]⟩ f.ks := by
        obtain ⟨fk, fn, fs, fks⟩ := f
        simp only [Fm.kd, Fm.nn, Fm.tx, Fm.ks] at *
        subst k h0
        rw [bytes_nil hx]
      refine ⟨false, ?_⟩
      have ho : Rest s pos (40 :: (joinB (f.ks.map txF) ++ 41 :: r)) := by simpa using h
      have hin := ho.head.choose_spec.2
      -- the Kids, one behind the other
      have hlist : ∀ (l : List Fm), (∀ g ∈ l, fieldsF g = true ∧ SizeOf.sizeOf g < n) → ∀ (p : Nat) (a : List Fm) (t : Bool), Rest s p (((l.map txF).flatMap fun y => (32 : UInt8) :: y) ++ 41 :: r) →
          ∃ t', Reach s p (O ++ [top]) a t (p + ((l.map txF).flatMap fun y => (32 : UInt8) :: y).length) (O ++ [top]) (a ++ l) t' := by
        intro l
        induction l with
        | nil => intro _ p a t _; exact ⟨t, by simpa using Reach.refl _ _ _ _ _⟩
        | cons g l ihl =>
          intro hg p a t hp
          simp only [List.map_cons, List.flatMap_cons, List.cons_append, List.append_assoc] at hp
          obtain ⟨_, _, hp2⟩ := hp.head
          have hE : Ends (((l.map txF).flatMap fun y => (32 : UInt8) :: y) ++ 41 :: r) := by
            intro c hc
            cases l with
            | nil => simp at hc; subst hc; decide
            | cons x y => simp at hc; subst hc; decide
          obtain ⟨t1, h1⟩ := ih g (hg g (by simp)).2 (hg g (by simp)).1 s (p + 1) _ (O ++ [top]) a hp2 hE
          obtain ⟨t2, h2⟩ := ihl (fun x hx => hg x (by simp [hx])) (p + 1 + (txF g).length) (a ++ [g]) t1 hp2.skip
          refine ⟨t2, ?_⟩
          have := (reach_blank hp (by decide) (O ++ [top]) a t).trans (h1.trans h2)
          simp only [List.map_cons, List.flatMap_cons, List.length_append, List.length_cons]
          rw [show p + ((txF g).length + 1 + ((l.map txF).flatMap fun y => (32 : UInt8) :: y).length) = p + 1 + (txF g).length + ((l.map txF).flatMap fun y => (32 : UInt8) :: y).length by omega]
          simpa using this
      have hkids : ∃ t', Reach s (pos + 1) (O ++ [top]) [] false (pos + 1 + (joinB (f.ks.map txF)).length) (O ++ [top]) f.ks t' := by
        cases hl : f.ks with
        | nil => exact ⟨false, by simpa [joinB] using Reach.refl _ _ _ _ _⟩
        | cons g l =>
          rw [hl] at hin
          simp only [List.map_cons, joinB, List.append_assoc] at hin
          have hE : Ends (((l.map txF).flatMap fun y => (32 : UInt8) :: y) ++ 41 :: r) := by
            intro c hc
            cases l with
            | nil => simp at hc; subst hc; decide
            | cons x y => simp at hc; subst hc; decide
          obtain ⟨t1, h1⟩ := ih g (hsz g (by rw [hl]; simp)) (hkid g (by rw [hl]; simp)) s (pos + 1) _ (O ++ [top]) [] hin hE
          obtain ⟨t2, h2⟩ := hlist l (fun x hx => ⟨hkid x (by rw [hl]; simp [hx]), hsz x (by rw [hl]; simp [hx])⟩) (pos + 1 + (txF g).length) [g] t1 hin.skip
          refine ⟨t2, ?_⟩
          have := h1.trans h2
          simp only [List.map_cons, joinB, List.length_append]
          rw [show pos + 1 + ((txF g).length + ((l.map txF).flatMap fun y => (32 : UInt8) :: y).length) = pos + 1 + (txF g).length + ((l.map txF).flatMap fun y => (32 : UInt8) :: y).length by omega]
          simpa using this
      obtain ⟨t', h2⟩ := hkids
      have hc := hin.skip
      have h3 := (reach_open ho O top false).trans (h2.trans (reach_close hc O top f.ks t'))
      rw [← hrec] at h3
      simp only [List.length_cons, List.length_append, List.length_nil]
      rw [show pos + ((joinB (f.ks.map txF)).length + (0 + 1) + 1) = pos + 1 + (joinB (f.ks.map txF)).length + 1 by omega]
      exact h3
theorem reach_end {s : ByteArray} {top : List Fm} {t : Bool} (h : Reach s 0 [] [] false s.size [] top t) (hs : s.size ≤ 60000) (hv : top.all validF = true) : readR s = .ok top := by
  obtain ⟨n, h1, h2⟩ := h
  unfold readR
  rw [if_neg (by omega)]
  have e : s.size + 1 = (s.size - n + 1) + n := by omega
  rw [e, h2, loopS_end (by omega)]
  show (if ([] : List (List Fm)) ≠ [] then RD.err 12 else if top.all validF = true then RD.ok top else RD.err 2) = RD.ok top
  rw [if_neg (by simp), if_pos hv]
/-- Forms, each with a line feed behind it. -/
def wAll (fs : List Fm) : List UInt8 := fs.flatMap fun f => txF f ++ [10]
theorem all_valid {fs : List Fm} (h : ∀ f ∈ fs, validF f = true) : fs.all validF = true := List.all_eq_true.2 h
theorem read_all {fs : List Fm} (hv : ∀ f ∈ fs, validF f = true) {d : ByteArray} (hd : d.data.toList = wAll fs) (hs : d.size ≤ 60000) : readR d = .ok fs := by
  have key : ∀ (l : List Fm), (∀ f ∈ l, validF f = true) → ∀ (pos : Nat) (top : List Fm), Rest d pos (wAll l) → Reach d pos [] top false (pos + (wAll l).length) [] (top ++ l) false := by
    intro l
    induction l with
    | nil => intro _ pos top _; simpa [wAll] using Reach.refl _ _ _ _ _
    | cons f l ih =>
      intro h pos top hr
      have e : wAll (f :: l) = txF f ++ (10 :: wAll l) := by simp [wAll]
      rw [e] at hr ⊢
      obtain ⟨t, h1⟩ := reach_form _ f (Nat.lt_succ_self _) (valid_parts (h f (by simp))).2.2 d pos _ [] top hr (by intro c hc; simp at hc; subst hc; decide)
      have h2 := reach_blank hr.skip (by decide) [] (top ++ [f]) t
      have h3 := ih (fun g hg => h g (by simp [hg])) (pos + (txF f).length + 1) (top ++ [f]) hr.skip.head.choose_spec.2
      have := h1.trans (h2.trans h3)
      simp only [List.length_append, List.length_cons]
      rw [show pos + ((txF f).length + ((wAll l).length + 1)) = pos + (txF f).length + 1 + (wAll l).length by omega]
      simpa using this
  have h0 : Rest d 0 (wAll fs) := ⟨by simpa using hd, Nat.zero_le _⟩
  have h1 := key fs hv 0 [] h0
  rw [h0.size] at h1
  exact reach_end (by simpa using h1) hs (all_valid hv)
/-- Forms, with blanks and comments between. -/
def wMix (fs : List Fm) : List UInt8 := fs.flatMap fun f => 9 :: (txF f ++ [32, 59, 34, 10, 10])
theorem read_mix {fs : List Fm} (hv : ∀ f ∈ fs, validF f = true) {d : ByteArray} (hd : d.data.toList = [32, 59, 32, 40, 10] ++ wMix fs) (hs : d.size ≤ 60000) : readR d = .ok fs := by
  have key : ∀ (l : List Fm), (∀ f ∈ l, validF f = true) → ∀ (pos : Nat) (top : List Fm), Rest d pos (wMix l) → Reach d pos [] top false (pos + (wMix l).length) [] (top ++ l) false := by
    intro l
    induction l with
    | nil => intro _ pos top _; simpa [wMix] using Reach.refl _ _ _ _ _
    | cons f l ih =>
      intro h pos top hr
      have e : wMix (f :: l) = 9 :: (txF f ++ (32 :: 59 :: 34 :: 10 :: 10 :: wMix l)) := by simp [wMix]
      rw [e] at hr ⊢
      have h0 := reach_blank hr (by decide) [] top false
      have r1 := hr.head.choose_spec.2
      obtain ⟨t, h1⟩ := reach_form _ f (Nat.lt_succ_self _) (valid_parts (h f (by simp))).2.2 d (pos + 1) _ [] top r1 (by intro c hc; simp at hc; subst hc; decide)
      have r2 := r1.skip
      have h2 := reach_blank r2 (by decide) [] (top ++ [f]) t
      have r3 := r2.head.choose_spec.2
      have h3 := reach_comment (x := [34]) (r := 10 :: wMix l) r3 (by intro c hc; simp at hc; subst hc; decide) [] (top ++ [f]) false
      have r4 : Rest d (pos + 1 + (txF f).length + 1 + 2) (10 :: 10 :: wMix l) := Rest.skip (x := [59, 34]) r3
      have h4 := reach_blank r4 (by decide) [] (top ++ [f]) false
      have r5 := r4.head.choose_spec.2
      have h5 := reach_blank r5 (by decide) [] (top ++ [f]) false
      have r6 := r5.head.choose_spec.2
      have h6 := ih (fun g hg => h g (by simp [hg])) _ (top ++ [f]) r6
      have := h0.trans (h1.trans (h2.trans (h3.trans (h4.trans (h5.trans h6)))))
      simp only [List.length_append, List.length_cons]
      rw [show pos + ((txF f).length + ((wMix l).length + 1 + 1 + 1 + 1 + 1) + 1) = pos + 1 + (txF f).length + 1 + 2 + 1 + 1 + (wMix l).length by omega]
      simpa using this
  have h0 : Rest d 0 (32 :: 59 :: 32 :: 40 :: 10 :: wMix fs) := ⟨by simpa using hd, Nat.zero_le _⟩
  have a1 := reach_blank h0 (by decide) [] [] false
  have r1 := h0.head.choose_spec.2
  have a2 := reach_comment (x := [32, 40]) (r := wMix fs) r1 (by intro c hc; simp at hc; rcases hc with rfl | rfl <;> decide) [] [] false
  have r2 : Rest d (0 + 1 + 3) (10 :: wMix fs) := Rest.skip (x := [59, 32, 40]) r1
  have a3 := reach_blank r2 (by decide) [] [] false
  have r3 := r2.head.choose_spec.2
  have a4 := key fs hv _ [] r3
  rw [r3.size] at a4
  exact reach_end (by simpa using a1.trans (a2.trans (a3.trans a4))) hs (all_valid hv)
end Go.Proofs.YtdehkgflokeodaaGreatDoor
