/- How long the lines of a form are. Plain. -/
import Derived.Test.YtdehkgflokeodaaGreatDoorRound
import Derived.Test.YtdehkgflokeodaaGreatDoorYPure
namespace Go.Proofs.YtdehkgflokeodaaGreatDoor.Y
open Go.RowKit Go.Deep

/-- The words, numbers and texts of a line. -/
def pcnt : List UInt8 → Bool → Bool → Nat → Nat
  | [], _, _, n => n
  | b :: r, inn, true, n => if b.toNat = 92 then (match r with
      | [] => n
      | _ :: r' => pcnt r' inn true n) else if b.toNat = 34 then pcnt r false false n else pcnt r inn true n
  | b :: r, inn, false, n => if b.toNat = 34 then pcnt r inn true (n + 1) else if b.toNat = 32 ∨ b.toNat = 40 ∨ b.toNat = 41 then pcnt r false false n else if inn = true then pcnt r true false n else pcnt r true false (n + 1)
theorem pcnt_t (b : UInt8) (r : List UInt8) (inn : Bool) (n : Nat) : pcnt (b :: r) inn true n = if b.toNat = 92 then pcnt (r.drop 1) inn true n else if b.toNat = 34 then pcnt r false false n else pcnt r inn true n := by
  cases r with
  | nil => simp [pcnt]
  | cons c r => simp [pcnt]
theorem pcnt_f (b : UInt8) (r : List UInt8) (inn : Bool) (n : Nat) : pcnt (b :: r) inn false n = if b.toNat = 34 then pcnt r inn true (n + 1) else if b.toNat = 32 ∨ b.toNat = 40 ∨ b.toNat = 41 then pcnt r false false n else if inn = true then pcnt r true false n else pcnt r true false (n + 1) := by
  cases r <;> simp [pcnt]
/-- A count is no more than one a byte. -/
theorem pcnt_le (m : Nat) : ∀ (l : List UInt8), l.length ≤ m → ∀ (i t : Bool) (n : Nat), n ≤ pcnt l i t n ∧ pcnt l i t n ≤ n + l.length := by
  induction m with
  | zero =>
    intro l h i t n
    have : l = [] := List.length_eq_zero_iff.1 (by omega)
    subst this
    simp [pcnt]
  | succ m ih =>
    intro l h i t n
    cases l with
    | nil => simp [pcnt]
    | cons b r =>
      simp only [List.length_cons] at h ⊢
      cases t with
      | true =>
        rw [pcnt_t]
        split
        · have := ih (r.drop 1) (by simp; omega) i true n
          simp only [List.length_drop] at this
          omega
        · split
          · have := ih r (by omega) false false n; omega
          · have := ih r (by omega) i true n; omega
      | false =>
        rw [pcnt_f]
        split
        · have := ih r (by omega) i true (n + 1); omega
        · split
          · have := ih r (by omega) false false n; omega
          · split
            · have := ih r (by omega) true false n; omega
            · have := ih r (by omega) true false (n + 1); omega
theorem tok_nat {c : UInt8} (h : tokB (c.toNat : Int) = true) : c.toNat ≠ 34 ∧ c.toNat ≠ 32 ∧ c.toNat ≠ 40 ∧ c.toNat ≠ 41 ∧ c.toNat ≠ 10 := by
  unfold tokB plainB at h
  simp only [Bool.and_eq_true, bne_iff_ne, ne_eq, decide_eq_true_eq] at h
  omega
theorem cnt_tok : ∀ (x r : List UInt8) (n : Nat), (∀ c ∈ x, tokB (c.toNat : Int) = true) → pcnt (x ++ r) true false n = pcnt r true false n
  | [], r, n, _ => by simp
  | c :: x, r, n, h => by
    have hc := tok_nat (h c (by simp))
    rw [List.cons_append, pcnt_f, if_neg hc.1, if_neg (by omega), if_pos rfl]
    exact cnt_tok x r n fun d hd => h d (by simp [hd])
theorem cnt_tok1 {x : List UInt8} (h : ∀ c ∈ x, tokB (c.toNat : Int) = true) (hne : x ≠ []) (r : List UInt8) (n : Nat) : pcnt (x ++ r) false false n = pcnt r true false (n + 1) := by
  cases x with
  | nil => exact absurd rfl hne
  | cons c x =>
    have hc := tok_nat (h c (by simp))
    rw [List.cons_append, pcnt_f, if_neg hc.1, if_neg (by omega), if_neg (by simp)]
    exact cnt_tok x r _ fun d hd => h d (by simp [hd])
theorem cnt_esc : ∀ (l r : List UInt8) (i : Bool) (n : Nat), pcnt (escL l ++ 34 :: r) i true n = pcnt r false false n
  | [], r, i, n => by
    rw [show escL [] ++ 34 :: r = 34 :: r by simp [escL], pcnt_t, if_neg (by decide), if_pos (by decide)]
  | b :: l, r, i, n => by
    have e : escL (b :: l) ++ 34 :: r = escB b ++ (escL l ++ 34 :: r) := by simp [escL]
    rw [e]
    unfold escB
    split
    · rw [List.cons_append, pcnt_t, if_pos (by decide)]
      simp only [List.cons_append, List.nil_append, List.drop_succ_cons, List.drop_zero]
      exact cnt_esc l r i n
    · rename_i h1
      split
      · rw [List.cons_append, pcnt_t, if_pos (by decide)]
        simp only [List.cons_append, List.nil_append, List.drop_succ_cons, List.drop_zero]
        exact cnt_esc l r i n
      · rw [List.cons_append, pcnt_t, if_neg (by omega), if_neg (by omega), List.nil_append]
        exact cnt_esc l r i n
theorem cnt_quo (l r : List UInt8) (i : Bool) (n : Nat) : pcnt (quoL l ++ r) i false n = pcnt r false false (n + 1) := by
  rw [show quoL l ++ r = 34 :: (escL l ++ 34 :: r) by simp [quoL], pcnt_f, if_pos (by decide)]
  exact cnt_esc l r i (n + 1)
def sepB (c : UInt8) : Prop := c.toNat = 32 ∨ c.toNat = 40 ∨ c.toNat = 41
theorem cnt_sep {b : UInt8} (h : sepB b) (r : List UInt8) (i : Bool) (n : Nat) : pcnt (b :: r) i false n = pcnt r false false n := by
  unfold sepB at h
  rw [pcnt_f, if_neg (by omega), if_pos h]
theorem cnt_pre : ∀ (x r : List UInt8) (n : Nat), (∀ c ∈ x, sepB c) → pcnt (x ++ r) false false n = pcnt r false false n
  | [], r, n, _ => by simp
  | c :: x, r, n, h => by
    rw [List.cons_append, cnt_sep (h c (by simp))]
    exact cnt_pre x r n fun d hd => h d (by simp [hd])
theorem cnt_close : ∀ (x : List UInt8) (i : Bool) (n : Nat), (∀ c ∈ x, sepB c) → pcnt x i false n = n
  | [], i, n, _ => by simp [pcnt]
  | c :: x, i, n, h => by
    rw [cnt_sep (h c (by simp))]
    exact cnt_close x false n fun d hd => h d (by simp [hd])
/-- A word, a number or a text. -/
theorem cnt_leaf {g : Fm} (hf : fieldsF g = true) (hk : g.kd ≠ 3) (r : List UInt8) (n : Nat) : ∃ i, pcnt (txF g ++ r) false false n = pcnt r i false (n + 1) := by
  rw [fieldsF_eq, Bool.and_eq_true] at hf
  rw [txF_eq]
  rcases alone_cases hf.1 with ⟨k, _, _, _⟩ | ⟨k, _, _, hw⟩ | ⟨k, _, _, hw⟩ | ⟨k, _, _⟩
  · rw [if_pos k]
    exact ⟨true, cnt_tok1 (tok_itoa g.nn) (itoa_ne g.nn) r n⟩
  · rw [if_neg (by omega), if_pos k]
    unfold wordB at hw
    simp only [Bool.and_eq_true, decide_eq_true_eq, Bool.not_eq_true'] at hw
    obtain ⟨⟨⟨w1, w2⟩, w3⟩, w4⟩ := hw
    exact ⟨true, cnt_tok1 (allB_mem w3) (by intro e; have : g.tx.size = 0 := (by have := congrArg List.length e; simpa using this); omega) r n⟩
  · rw [if_neg (by omega), if_neg (by omega), if_pos k]
    exact ⟨false, cnt_quo _ r false n⟩
  · exact absurd k hk

/-! ### No line feeds in what is written on one line -/
theorem esc_nl : ∀ (l : List UInt8), ∀ c ∈ escL l, c ≠ 10
  | [], c, h => by simp [escL] at h
  | b :: l, c, h => by
    have e : escL (b :: l) = escB b ++ escL l := by simp [escL]
    rw [e] at h
    rcases List.mem_append.1 h with h | h
    · unfold escB at h
      split at h
      · rename_i hb
        simp only [List.mem_cons, List.not_mem_nil, or_false] at h
        rcases h with rfl | rfl
        · decide
        · intro e; rw [e] at hb; revert hb; decide
      · split at h
        · simp only [List.mem_cons, List.not_mem_nil, or_false] at h
          rcases h with rfl | rfl <;> decide
        · rename_i hb
          simp only [List.mem_cons, List.not_mem_nil, or_false] at h
          subst h
          intro e
          rw [e] at hb
          exact hb (by decide)
    · exact esc_nl l c h
theorem tx_nl (n : Nat) : ∀ f : Fm, SizeOf.sizeOf f < n → fieldsF f = true → ∀ c ∈ txF f, c ≠ 10 := by
  induction n with
  | zero => intro f h; omega
  | succ n ih =>
    intro f hn hf c hc
    rw [fieldsF_eq, Bool.and_eq_true] at hf
    rw [txF_eq] at hc
    rcases alone_cases hf.1 with ⟨k, _, _, _⟩ | ⟨k, _, _, hw⟩ | ⟨k, _, _, hw⟩ | ⟨k, _, _⟩
    · rw [if_pos k] at hc
      have := tok_nat (tok_itoa f.nn c hc)
      intro e; rw [e] at this; exact this.2.2.2.2 rfl
    · rw [if_neg (by omega), if_pos k] at hc
      unfold wordB at hw
      simp only [Bool.and_eq_true, decide_eq_true_eq, Bool.not_eq_true'] at hw
      have := tok_nat (allB_mem hw.1.2 c hc)
      intro e; rw [e] at this; exact this.2.2.2.2 rfl
    · rw [if_neg (by omega), if_neg (by omega), if_pos k] at hc
      unfold quoL at hc
      simp only [List.mem_cons, List.mem_append, List.not_mem_nil, or_false] at hc
      rcases hc with rfl | hc | rfl
      · decide
      · exact esc_nl _ c hc
      · decide
    · rw [if_neg (by omega), if_neg (by omega), if_neg (by omega)] at hc
      have hks : f.kids = f.ks := by unfold Fm.kids; rw [if_pos k]
      rw [hks] at hf
      have hfm : ∀ l : List Fm, (∀ g ∈ l, g ∈ f.ks) → ∀ c ∈ ((l.map txF).flatMap fun y => (32 : UInt8) :: y), c ≠ 10 := by
        intro l hl c hc
        simp only [List.mem_flatMap, List.mem_map] at hc
        obtain ⟨y, ⟨g, hg, rfl⟩, hc⟩ := hc
        rcases List.mem_cons.1 hc with rfl | hc
        · decide
        · exact ih g (by have := Fm.kid_lt (hl g hg); omega) (fieldsL_mem hf.2 (hl g hg)) c hc
      have hj : ∀ c ∈ joinB (f.ks.map txF), c ≠ 10 := by
        cases hl : f.ks with
        | nil => intro c hc; simp [joinB] at hc
        | cons g l =>
          intro c hc
          simp only [List.map_cons, joinB, List.mem_append] at hc
          rcases hc with hc | hc
          · exact ih g (by have := Fm.kid_lt (show g ∈ f.ks by rw [hl]; simp); omega) (fieldsL_mem hf.2 (by rw [hl]; simp)) c hc
          · exact hfm l (fun x hx => by rw [hl]; simp [hx]) c hc
      simp only [List.mem_cons, List.mem_append, List.not_mem_nil, or_false] at hc
      rcases hc with rfl | hc | rfl
      · decide
      · exact hj c hc
      · decide

/-! ### The lines -/
def Ok (w : Nat) (cur : List UInt8) : Prop := cur.length ≤ w ∨ pcnt cur false false 0 ≤ 3
/-- Each line is so: cur is what stands in the first one so far. -/
def okL (w : Nat) : List UInt8 → List UInt8 → Prop
  | cur, [] => Ok w cur
  | cur, b :: r => if b = 10 then Ok w cur ∧ okL w [] r else okL w (cur ++ [b]) r
theorem okL_run (w : Nat) : ∀ (x cur z : List UInt8), (∀ c ∈ x, c ≠ 10) → (okL w cur (x ++ z) ↔ okL w (cur ++ x) z)
  | [], cur, z, _ => by simp
  | c :: x, cur, z, h => by
    rw [List.cons_append, okL, if_neg (h c (by simp)), okL_run w x _ z fun d hd => h d (by simp [hd])]
    simp
/-- What follows ends the line. -/
def Tail (w : Nat) (z : List UInt8) : Prop := z = [] ∨ ∃ z', z = 10 :: z' ∧ okL w [] z'
theorem okL_tail {w : Nat} {cur z : List UInt8} (h : Tail w z) (hc : Ok w cur) : okL w cur z := by
  rcases h with rfl | ⟨z', rfl, h⟩
  · exact hc
  · rw [okL, if_pos rfl]; exact ⟨hc, h⟩
theorem sep_rep (k : Nat) : ∀ c ∈ List.replicate k (41 : UInt8), sepB c := fun c hc => by
  have := List.eq_of_mem_replicate hc
  subst this
  exact .inr (.inr (by decide))
theorem nl_rep (k : Nat) : ∀ c ∈ List.replicate k (41 : UInt8), c ≠ 10 := fun c hc => by
  have := List.eq_of_mem_replicate hc
  subst this
  decide
theorem sep_blk (k : Nat) : ∀ c ∈ blk k, sepB c := fun c hc => by
  have := List.eq_of_mem_replicate hc
  subst this
  exact .inl (by decide)
theorem nl_blk (k : Nat) : ∀ c ∈ blk k, c ≠ 10 := fun c hc => by
  have := List.eq_of_mem_replicate hc
  subst this
  decide
theorem nl_sep {x : List UInt8} (h : ∀ c ∈ x, sepB c) : ∀ c ∈ x, c ≠ 10 := fun c hc e => by
  have := h c hc
  rw [e] at this
  rcases this with h | h | h <;> revert h <;> decide
/-- The front holds at most two parts. -/
theorem front_ok {ks : List Fm} (hf : ∀ g ∈ ks, fieldsF g = true) : (∀ c ∈ joinB ((ks.take (frN ks)).map txF), c ≠ 10) ∧ ∀ (r : List UInt8) (n : Nat), 0 < frN ks → ∃ i m, m ≤ n + 2 ∧ pcnt (joinB ((ks.take (frN ks)).map txF) ++ r) false false n = pcnt r i false m := by
  have nl : ∀ g ∈ ks, ∀ c ∈ txF g, c ≠ 10 := fun g hg => tx_nl _ g (Nat.lt_succ_self _) (hf g hg)
  match ks with
  | [] => exact ⟨by simp [frN, joinB], fun r n h => by simp [frN] at h⟩
  | [a] =>
    by_cases ha : a.kd = 1
    · have e : frN [a] = 1 := by simp [frN, ha]
      rw [e]
      refine ⟨by simpa [joinB] using nl a (by simp), fun r n _ => ?_⟩
      obtain ⟨i, h⟩ := cnt_leaf (hf a (by simp)) (by omega) r n
      exact ⟨i, n + 1, by omega, by simpa [joinB] using h⟩
    · have e : frN [a] = 0 := by simp [frN, ha]
      rw [e]
      exact ⟨by simp [joinB], fun r n h => by omega⟩
  | a :: b :: l =>
    by_cases ha : a.kd = 1
    · by_cases hb : b.kd = 3
      · have e : frN (a :: b :: l) = 1 := by simp [frN, ha, hb]
        rw [e]
        refine ⟨by simpa [joinB] using nl a (by simp), fun r n _ => ?_⟩
        obtain ⟨i, h⟩ := cnt_leaf (hf a (by simp)) (by omega) r n
        exact ⟨i, n + 1, by omega, by simpa [joinB] using h⟩
      · have e : frN (a :: b :: l) = 2 := by simp [frN, ha, hb]
        rw [e]
        refine ⟨?_, fun r n _ => ?_⟩
        · intro c hc
          simp only [List.take_succ_cons, List.take_zero, List.map_cons, List.map_nil, joinB, List.flatMap_cons, List.flatMap_nil, List.append_nil, List.mem_append, List.mem_cons] at hc
          rcases hc with hc | rfl | hc
          · exact nl a (by simp) c hc
          · decide
          · exact nl b (by simp) c hc
        · obtain ⟨i, h⟩ := cnt_leaf (hf a (by simp)) (by omega) (32 :: (txF b ++ r)) n
          obtain ⟨j, h2⟩ := cnt_leaf (hf b (by simp)) hb r (n + 1)
          refine ⟨j, n + 2, by omega, ?_⟩
          rw [← h2, ← cnt_sep (b := 32) (.inl (by decide)) (txF b ++ r) i (n + 1), ← h]
          simp [joinB]
    · have e : frN (a :: b :: l) = 0 := by simp [frN, ha]
      rw [e]
      exact ⟨by simp [joinB], fun r n h => by omega⟩
theorem linL_nl {g : Fm} {fs : List Fm} {fr i inn w k : Nat} (h : fr ≤ i) (hi : 0 < i) : linL (g :: fs) fr i inn w k = 10 :: (blk inn ++ (linF g inn w (if fs.isEmpty then k + 1 else 0) ++ linL fs fr (i + 1) inn w k)) := by
  rw [linL, if_neg (by omega), if_pos hi]; simp
theorem lin_ok (n : Nat) : ∀ f : Fm, SizeOf.sizeOf f < n → fieldsF f = true → ∀ (c w k : Nat) (pre z : List UInt8), pre.length = c → (∀ b ∈ pre, sepB b) → Tail w z → okL w pre (linF f c w k ++ (List.replicate k 41 ++ z)) := by
  induction n with
  | zero => intro f h; omega
  | succ n ih =>
    intro f hn hf c w k pre z hpre hps hz
    rw [linF_eq]
    split
    · rename_i hx
      rw [← List.append_assoc, okL_run w (txF f ++ List.replicate k 41) pre z (by
        intro b hb
        rcases List.mem_append.1 hb with hb | hb
        · exact tx_nl _ f (Nat.lt_succ_self _) hf b hb
        · exact nl_rep k b hb)]
      refine okL_tail hz ?_
      by_cases hw : c + (txF f).length + k ≤ w
      · left
        simp only [List.length_append, List.length_replicate]
        omega
      · right
        by_cases hk : f.kd = 3
        · have hks : f.ks = [] := by
            rcases hx with h | h | h
            · exact absurd h hw
            · exact absurd hk h
            · exact h
          rw [txF_eq, if_neg (by omega), if_neg (by omega), if_neg (by omega), hks]
          rw [cnt_close _ _ _ (by
            intro b hb
            simp only [List.map_nil, joinB, List.nil_append, List.mem_append, List.mem_cons, List.not_mem_nil, or_false] at hb
            rcases hb with hb | (rfl | rfl) | hb
            · exact hps b hb
            · exact .inr (.inl (by decide))
            · exact .inr (.inr (by decide))
            · exact sep_rep k b hb)]
          omega
        · rw [cnt_pre pre _ 0 hps]
          obtain ⟨i, h⟩ := cnt_leaf hf hk (List.replicate k 41) 0
          rw [h, cnt_close _ _ _ (sep_rep k)]
          omega
    · rename_i hx
      have hk : f.kd = 3 := by
        by_cases e : f.kd = 3
        · exact e
        · exact absurd (.inr (.inl e)) hx
      have hne : f.ks ≠ [] := fun e => hx (.inr (.inr e))
      have hks : f.kids = f.ks := by unfold Fm.kids; rw [if_pos hk]
      have hfl := hf
      rw [fieldsF_eq, Bool.and_eq_true, hks] at hfl
      have hkid : ∀ g ∈ f.ks, fieldsF g = true := fun g hg => fieldsL_mem hfl.2 hg
      obtain ⟨inn, hinn⟩ : ∃ inn, c + indN f.ks = inn := ⟨_, rfl⟩
      rw [hinn]
      -- Kids, each on a line of its own
      have hl : ∀ (l : List Fm) (fr i : Nat) (cur : List UInt8), fr ≤ i → 0 < i → l ≠ [] → (∀ g ∈ l, fieldsF g = true ∧ SizeOf.sizeOf g < n) → Ok w cur → okL w cur (linL l fr i inn w k ++ (List.replicate (k + 1) 41 ++ z)) := by
        intro l
        induction l with
        | nil => intro fr i cur _ _ h; exact absurd rfl h
        | cons g l ihl =>
          intro fr i cur hi hp _ hall hc
          have hg := hall g (by simp)
          rw [linL_nl hi hp, List.cons_append, okL, if_pos rfl]
          refine ⟨hc, ?_⟩
          rw [List.append_assoc, okL_run w (blk inn) [] _ (nl_blk inn), List.nil_append, List.append_assoc]
          cases l with
          | nil =>
            rw [linL]
            exact ih g hg.2 hg.1 inn w (k + 1) (blk inn) z (by simp [blk]) (sep_blk inn) hz
          | cons g2 l2 =>
            have h2 := ihl fr (i + 1) [] (by omega) (by omega) (by simp) (fun x hx => hall x (by simp [hx])) (.inl (by simp))
            have ht : Tail w (linL (g2 :: l2) fr (i + 1) inn w k ++ (List.replicate (k + 1) 41 ++ z)) := by
              rw [linL_nl (by omega) (by omega), List.cons_append] at h2 ⊢
              rw [okL, if_pos rfl] at h2
              exact .inr ⟨_, rfl, h2.2⟩
            exact ih g hg.2 hg.1 inn w 0 (blk inn) _ (by simp [blk]) (sep_blk inn) ht
      have hjoin : 40 :: (joinB ((f.ks.take (frN f.ks)).map txF) ++ (linL f.ks (frN f.ks) 0 inn w k ++ [41])) ++ (List.replicate k 41 ++ z) =
          [40] ++ (joinB ((f.ks.take (frN f.ks)).map txF) ++ (linL f.ks (frN f.ks) 0 inn w k ++ (List.replicate (k + 1) 41 ++ z))) := by
        rw [List.replicate_succ]; simp
      rw [hjoin, okL_run w [40] pre _ (by intro b hb; simp at hb; subst hb; decide)]
      have hp40 : ∀ b ∈ pre ++ [40], sepB b := by
        intro b hb
        rcases List.mem_append.1 hb with hb | hb
        · exact hps b hb
        · simp at hb; subst hb; exact .inr (.inl (by decide))
      obtain ⟨hnl, hfc⟩ := front_ok hkid
      have hfr := frN_le f.ks
      have e0 := linL_skip (frN f.ks) f.ks (frN f.ks) 0 inn w k (by omega) hfr.1
      rw [Nat.zero_add] at e0
      have hsz : ∀ g ∈ f.ks, fieldsF g = true ∧ SizeOf.sizeOf g < n := fun g hg => ⟨hkid g hg, by have := Fm.kid_lt hg; omega⟩
      rcases Nat.eq_zero_or_pos (frN f.ks) with h0 | h0
      · rw [h0]
        simp only [List.take_zero, List.map_nil, joinB, List.nil_append]
        have hi1 : inn = c + 1 := by rw [← hinn]; unfold indN; rw [if_pos h0]
        cases hl0 : f.ks with
        | nil => exact absurd hl0 hne
        | cons g l =>
          rw [hl0] at hsz
          have hg := hsz g (by simp)
          rw [linL, if_neg (by omega), if_neg (by omega), List.nil_append, List.append_assoc]
          cases l with
          | nil =>
            rw [linL]
            exact ih g hg.2 hg.1 inn w (k + 1) (pre ++ [40]) z (by simp; omega) hp40 hz
          | cons g2 l2 =>
            have h2 := hl (g2 :: l2) 0 (0 + 1) [] (by omega) (by omega) (by simp) (fun x hx => hsz x (by simp [hx])) (.inl (by simp))
            have ht : Tail w (linL (g2 :: l2) 0 (0 + 1) inn w k ++ (List.replicate (k + 1) 41 ++ z)) := by
              rw [linL_nl (by omega) (by omega), List.cons_append] at h2 ⊢
              rw [okL, if_pos rfl] at h2
              exact .inr ⟨_, rfl, h2.2⟩
            exact ih g hg.2 hg.1 inn w 0 (pre ++ [40]) _ (by simp; omega) hp40 ht
      · rw [okL_run w _ (pre ++ [40]) _ hnl, e0]
        cases hd : f.ks.drop (frN f.ks) with
        | nil =>
          rw [linL, List.nil_append, okL_run w _ _ z (nl_rep (k + 1))]
          refine okL_tail hz (.inr ?_)
          rw [List.append_assoc, cnt_pre _ _ 0 hp40]
          obtain ⟨i, m, hm, h⟩ := hfc (List.replicate (k + 1) 41) 0 h0
          rw [h, cnt_close _ _ _ (sep_rep (k + 1))]
          omega
        | cons g l =>
          refine hl (g :: l) (frN f.ks) (frN f.ks) _ (Nat.le_refl _) h0 (by simp) (fun x hx => hsz x (List.mem_of_mem_drop (by rw [hd]; exact hx))) (.inr ?_)
          rw [cnt_pre _ _ 0 hp40]
          obtain ⟨i, m, hm, h⟩ := hfc [] 0 h0
          rw [List.append_nil] at h
          rw [h]
          simp only [pcnt]
          omega
/-- The lines of a form. -/
theorem lin_lines {f : Fm} (hv : validF f = true) (w : Nat) : okL w [] (linF f 0 w 0) := by
  have := lin_ok _ f (Nat.lt_succ_self _) (valid_parts hv).2.2 0 w 0 [] [] rfl (by simp) (.inl rfl)
  simpa using this
end Go.Proofs.YtdehkgflokeodaaGreatDoor.Y
