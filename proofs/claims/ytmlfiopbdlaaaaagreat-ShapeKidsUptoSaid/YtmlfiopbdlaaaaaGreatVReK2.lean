/- The document's askings of old, call, make, bits, fuel, empty, imap, map, and of all other heads. (Made by genrek2.py.) -/
import Derived.Test.YtmlfiopbdlaaaaaGreatJ13
namespace Go.Proofs.YtmlfiopbdlaaaaaGreat
open Go.RowKit Go.Deep
set_option maxHeartbeats 1000000 in
theorem rbehind2_any (n : Nat) (E : Fm → Bool) (hE : HExp n E) (a : Option Addr) (c : Nat) (x y : T) (r : List T) (w : World) (hk : InL w a 0 (x :: y :: r)) (hlen : r.length ≤ 1000000) (hc : r.length + 2 ≤ c) (hq : ∀ u ∈ r, Asked n u) :
    Calls Tryz.prog 128 #[.slice a (r.length + 1 + 1) c, .int .i64 2] w fun e w' => AnsR (AllE E (r.map T.form)) w e w' := by
  obtain ⟨⟨b, o, rfl, -⟩, -⟩ := hk.at 0 (by simp)
  have HX := Lib.hid fun (a' : Option Addr) (c' : Nat) (hi : InL w a' 0 r) => rexprs_any n E hE a' c' r w hi hlen hq
  have HI := Lib.hid (by
    split
    · exact InL_nil (by omega)
    · exact InL_tail2 hk : InL w (if c = 2 then some ⟨b, o, none⟩ else some ⟨b, o + 8, none⟩) 0 r)
  have HI2 := Lib.hid (InL_tail2 hk)
  obtain ⟨m, hm⟩ : ∃ m, r.length = m := ⟨_, rfl⟩
  have HM := Lib.hid hm
  rw [hm] at HX hlen hc ⊢
  clear hk hq hE hm
  have g1 : decide ((m : Int) + 1 + 1 < 2) = false := by simp; omega
  go_enter Tryz.func128, Tryz.ntmps128
  go_wp2_with (go_at_call 104; refine (HX.out _ _ (by first | exact HI2.out | exact HI.out | exact InL_nil (by have := HM.out; omega))).mono ?_; intro e w2 hA; obtain ⟨q, rfl, hq, hB⟩ := hA; have HA := Lib.hid hq; have HB := Lib.hid hB; clear hB hq)
  all_goals
    go_ret
    exact ⟨_, rfl, HA.out, HB.out⟩
def OldL (E : Fm → Bool) (l : List Fm) : Prop := (∃ a, l = [a] ∧ E a = true) ∨ ∃ a b, l = [a, b] ∧ nameF a = true ∧ E b = true
def BitsL (l : List Fm) : Prop := ∃ a b, l = [a, b] ∧ NumP 1 16 a ∧ NumP 0 1152921504606846976 b
def EmptyL (l : List Fm) : Prop := ∃ a, l = [a] ∧ typeF a = true
def ImapL (E : Fm → Bool) (l : List Fm) : Prop := ∃ a b, l = [a, b] ∧ E a = true ∧ typeF b = true
def FuelL (E : Fm → Bool) (l : List Fm) : Prop := ∃ a b c, l = [a, b, c] ∧ NumP 0 9 a ∧ nameF b = true ∧ E c = true
set_option maxHeartbeats 4000000 in
set_option maxRecDepth 100000 in
theorem rspec_old (n : Nat) (E : Fm → Bool) (hE : HExp n E) (hd : ByteArray) (hq : hd.toList = [111, 108, 100]) (a : Option Addr) (c : Nat) (l : List T) (w : World) (hk : InL w a 0 l) (hlen : l.length ≤ 1000000) (hc : l.length ≤ c) (hs : ∀ u ∈ l, Asked n u) :
    Calls Tryz.prog 106 #[.string hd, .slice a l.length c] w fun e w' => AnsR (OldL E (l.map T.form)) w e w' := by
  have HIA := Lib.hid fun (W : World) => in_val hd ⟨#[105, 115, 32, 103, 101, 116]⟩ (by kernel_rfl) false (by rw [← Lib.toList_data, hq]; kernel_rfl) W
  have HIB := Lib.hid fun (W : World) => in_val hd ⟨#[99, 97, 108, 108, 32, 109, 97, 107, 101]⟩ (by kernel_rfl) false (by rw [← Lib.toList_data, hq]; kernel_rfl) W
  by_cases hl : l.length = 2
  · obtain ⟨x, r, hxr⟩ : ∃ x r, l = x :: r := by
      match l, hl with
      | x :: r, _ => exact ⟨x, r, rfl⟩
    subst hxr
    obtain ⟨⟨b, o, rfl, z0, z1, z2, z3⟩, hinx⟩ := hk.at 0 (by simp)
    simp only [List.getElem_cons_zero, Nat.zero_mul, Nat.add_zero] at z0 z1 z2 z3 hinx
    have lb : b < w.heap.size := World.block_lt_of_cell? _ _ z0
    have HX := Lib.hid fun (W : World) (h : Below w.heap.size w W) => rnamed_any x W (hinx.below h)
    have HT := Lib.hid fun (W : World) (h : Below w.heap.size w W) => rbehind_any n E hE (some ⟨b, o, none⟩) c x r W (hk.below h) (by simp at hlen; omega) (by simpa using hc) (fun u hu => hs u (List.mem_cons_of_mem _ hu))
    have HP : Hid (nameF x.form = true ∧ AllE E (r.map T.form) ↔ OldL E ((x :: r).map T.form)) := Lib.hid (by
      unfold OldL
      have hl : r.length = 1 := by simpa using hl
      obtain ⟨y, hy⟩ : ∃ y, r = [y] := by
        match r, hl with
        | [y], _ => exact ⟨y, rfl⟩
      subst hy
      constructor
      · rintro ⟨h1, h2⟩
        exact .inr ⟨_, _, rfl, h1, h2 _ (by simp)⟩
      · rintro (⟨a', e, _⟩ | ⟨a', b', e, h1, h2⟩)
        · simp at e
        · injection e with e1 e2
          refine ⟨by rw [e1]; exact h1, fun z hz => ?_⟩
          rw [e2, List.mem_singleton] at hz
          rw [hz]; exact h2)
    obtain ⟨m, hm⟩ : ∃ m, r.length = m := ⟨_, rfl⟩
    rw [List.length_cons, hm] at hl hc hlen ⊢
    rw [hm] at HT
    obtain ⟨nx, hnx⟩ : ∃ nx, nameF x.form = nx := ⟨_, rfl⟩
    rw [hnx] at HX HP
    obtain rfl : m = 1 := by omega
    clear hk hinx hm hs hE hnx
    go_enter Tryz.func106, Tryz.ntmps106
    go_wp2_with (first
      | (go_at_call 32; with_reducible refine (HIA.out _).mono ?_; rintro e wi ⟨rfl, rfl⟩)
      | (go_at_call 32; with_reducible refine (HIB.out _).mono ?_; rintro e wj ⟨rfl, rfl⟩)
      | (go_at_call 67; refine (HX.out _ (Below.refl _ _)).mono ?_; rintro e w2 ⟨rfl, hB⟩; have HB1 := Lib.hid hB; clear hB)
      | (go_at_call 102; refine (truth_q _ _).mono ?_; rintro e w3 ⟨⟨q1, rfl, hq1⟩, rfl⟩; have HQ1 := Lib.hid hq1; clear hq1)
      | (go_at_call 128; refine (HT.out _ HB1.out).mono ?_; intro e w4 hA; obtain ⟨q2, rfl, hq2, hB⟩ := hA; have HQ2 := Lib.hid hq2; have HB2 := Lib.hid (up HB1.out hB); clear hB hq2)
      | (go_at_call 126; refine (first_q _ _ _).mono ?_; rintro e w5 ⟨⟨q3, rfl, hq3⟩, rfl⟩; have HQ3 := Lib.hid hq3; clear hq3))
    go_ret
    exact ⟨_, rfl, HQ3.out.trans ((and_congr HQ1.out HQ2.out).trans HP.out), HB2.out⟩
  · have g : ((l.length : Int) == 2) = false := by simp; omega
    have HT := Lib.hid (rsome_any n E hE a c l 1 1 w hk hlen hs)
    have HP : Hid ((1 ≤ (l.map T.form).length ∧ (l.map T.form).length ≤ 1 ∧ AllE E (l.map T.form)) ↔ OldL E (l.map T.form)) := Lib.hid (by
      unfold OldL
      constructor
      · rintro ⟨h1, h2, h3⟩
        obtain ⟨y, hy⟩ : ∃ y, l = [y] := by
          rw [List.length_map] at h1 h2
          have hl : l.length = 1 := by omega
          match l, hl with
          | [y], _ => exact ⟨y, rfl⟩
        subst hy
        exact .inl ⟨_, rfl, h3 _ (by simp)⟩
      · rintro (⟨a', e, h1⟩ | ⟨a', b', e, _⟩)
        · rw [e]; exact ⟨Nat.le_refl _, Nat.le_refl _, fun z hz => by rw [List.mem_singleton] at hz; rw [hz]; exact h1⟩
        · have := congrArg List.length e
          simp at this; exact absurd this hl)
    clear hk hs hE
    go_enter Tryz.func106, Tryz.ntmps106
    go_wp2_with (first
      | (go_at_call 32; with_reducible refine (HIA.out _).mono ?_; rintro e wi ⟨rfl, rfl⟩)
      | (go_at_call 32; with_reducible refine (HIB.out _).mono ?_; rintro e wj ⟨rfl, rfl⟩)
      | (go_at_call 103; refine HT.out.mono ?_; intro e w4 hA; have HA := Lib.hid hA; obtain ⟨q, rfl, hq, hB⟩ := hA; clear hB hq))
    go_ret
    exact HA.out.iff HP.out
set_option maxHeartbeats 4000000 in
set_option maxRecDepth 100000 in
theorem rspec_call (n : Nat) (E : Fm → Bool) (hE : HExp n E) (hd : ByteArray) (hq : hd.toList = [99, 97, 108, 108]) (a : Option Addr) (c : Nat) (l : List T) (w : World) (hk : InL w a 0 l) (hlen : l.length ≤ 1000000) (hc : l.length ≤ c) (hs : ∀ u ∈ l, Asked n u) :
    Calls Tryz.prog 106 #[.string hd, .slice a l.length c] w fun e w' => AnsR (CallL E (l.map T.form)) w e w' := by
  have HIA := Lib.hid fun (W : World) => in_val hd ⟨#[105, 115, 32, 103, 101, 116]⟩ (by kernel_rfl) false (by rw [← Lib.toList_data, hq]; kernel_rfl) W
  have HIB := Lib.hid fun (W : World) => in_val hd ⟨#[99, 97, 108, 108, 32, 109, 97, 107, 101]⟩ (by kernel_rfl) true (by rw [← Lib.toList_data, hq]; kernel_rfl) W
  rcases l with _ | ⟨x, r⟩
  · have HN : Hid (¬ CallL E (([] : List T).map T.form)) := Lib.hid (by rintro ⟨_, _, e, _⟩; cases e)
    clear hk hs hE
    simp only [List.length_nil] at hc ⊢
    go_enter Tryz.func106, Tryz.ntmps106
    go_wp2_with (first
      | (go_at_call 32; with_reducible refine (HIA.out _).mono ?_; rintro e wi ⟨rfl, rfl⟩)
      | (go_at_call 32; with_reducible refine (HIB.out _).mono ?_; rintro e wj ⟨rfl, rfl⟩))
    go_ret
    exact AnsR.ofNo (by decide) HN.out (Below.refl _ _)
  · have HT := Lib.hid (rcalled_any n E hE a c x r w hk (by simp at hlen; omega) (by simpa using hc) (fun u hu => hs u (List.mem_cons_of_mem _ hu)))
    obtain ⟨m, hm⟩ : ∃ m, r.length = m := ⟨_, rfl⟩
    rw [List.length_cons, hm] at hlen hc ⊢
    rw [hm] at HT
    have g : decide ((1 : Int) ≤ (m : Int) + 1) = true := by simp; omega
    have g' : (1 : Int) ≤ (m : Int) + 1 := by omega
    clear hk hs hE hm
    go_enter Tryz.func106, Tryz.ntmps106
    go_wp2_with (first
      | (go_at_call 32; with_reducible refine (HIA.out _).mono ?_; rintro e wi ⟨rfl, rfl⟩)
      | (go_at_call 32; with_reducible refine (HIB.out _).mono ?_; rintro e wj ⟨rfl, rfl⟩)
      | (go_at_call 166; refine HT.out.mono ?_; intro e w4 hA; have HA := Lib.hid hA; obtain ⟨q, rfl, hq, hB⟩ := hA; clear hB hq))
    go_ret
    exact HA.out
set_option maxHeartbeats 4000000 in
set_option maxRecDepth 100000 in
theorem rspec_make (n : Nat) (E : Fm → Bool) (hE : HExp n E) (hd : ByteArray) (hq : hd.toList = [109, 97, 107, 101]) (a : Option Addr) (c : Nat) (l : List T) (w : World) (hk : InL w a 0 l) (hlen : l.length ≤ 1000000) (hc : l.length ≤ c) (hs : ∀ u ∈ l, Asked n u) :
    Calls Tryz.prog 106 #[.string hd, .slice a l.length c] w fun e w' => AnsR (CallL E (l.map T.form)) w e w' := by
  have HIA := Lib.hid fun (W : World) => in_val hd ⟨#[105, 115, 32, 103, 101, 116]⟩ (by kernel_rfl) false (by rw [← Lib.toList_data, hq]; kernel_rfl) W
  have HIB := Lib.hid fun (W : World) => in_val hd ⟨#[99, 97, 108, 108, 32, 109, 97, 107, 101]⟩ (by kernel_rfl) true (by rw [← Lib.toList_data, hq]; kernel_rfl) W
  rcases l with _ | ⟨x, r⟩
  · have HN : Hid (¬ CallL E (([] : List T).map T.form)) := Lib.hid (by rintro ⟨_, _, e, _⟩; cases e)
    clear hk hs hE
    simp only [List.length_nil] at hc ⊢
    go_enter Tryz.func106, Tryz.ntmps106
    go_wp2_with (first
      | (go_at_call 32; with_reducible refine (HIA.out _).mono ?_; rintro e wi ⟨rfl, rfl⟩)
      | (go_at_call 32; with_reducible refine (HIB.out _).mono ?_; rintro e wj ⟨rfl, rfl⟩))
    go_ret
    exact AnsR.ofNo (by decide) HN.out (Below.refl _ _)
  · have HT := Lib.hid (rcalled_any n E hE a c x r w hk (by simp at hlen; omega) (by simpa using hc) (fun u hu => hs u (List.mem_cons_of_mem _ hu)))
    obtain ⟨m, hm⟩ : ∃ m, r.length = m := ⟨_, rfl⟩
    rw [List.length_cons, hm] at hlen hc ⊢
    rw [hm] at HT
    have g : decide ((1 : Int) ≤ (m : Int) + 1) = true := by simp; omega
    have g' : (1 : Int) ≤ (m : Int) + 1 := by omega
    clear hk hs hE hm
    go_enter Tryz.func106, Tryz.ntmps106
    go_wp2_with (first
      | (go_at_call 32; with_reducible refine (HIA.out _).mono ?_; rintro e wi ⟨rfl, rfl⟩)
      | (go_at_call 32; with_reducible refine (HIB.out _).mono ?_; rintro e wj ⟨rfl, rfl⟩)
      | (go_at_call 166; refine HT.out.mono ?_; intro e w4 hA; have HA := Lib.hid hA; obtain ⟨q, rfl, hq, hB⟩ := hA; clear hB hq))
    go_ret
    exact HA.out
set_option maxHeartbeats 4000000 in
set_option maxRecDepth 100000 in
theorem rspec_bits (n : Nat) (E : Fm → Bool) (_hE : HExp n E) (hd : ByteArray) (hq : hd.toList = [98, 105, 116, 115]) (a : Option Addr) (c : Nat) (l : List T) (w : World) (hk : InL w a 0 l) (hlen : l.length ≤ 1000000) (hc : l.length ≤ c) (_hs : ∀ u ∈ l, Asked n u) :
    Calls Tryz.prog 106 #[.string hd, .slice a l.length c] w fun e w' => AnsR (BitsL (l.map T.form)) w e w' := by
  have HIA := Lib.hid fun (W : World) => in_val hd ⟨#[105, 115, 32, 103, 101, 116]⟩ (by kernel_rfl) false (by rw [← Lib.toList_data, hq]; kernel_rfl) W
  have HIB := Lib.hid fun (W : World) => in_val hd ⟨#[99, 97, 108, 108, 32, 109, 97, 107, 101]⟩ (by kernel_rfl) false (by rw [← Lib.toList_data, hq]; kernel_rfl) W
  by_cases hl : l.length = 2
  · obtain ⟨x, y, hxy⟩ := two_of hl
    subst hxy
    obtain ⟨⟨b, o, rfl, z0, z1, z2, z3⟩, hinx⟩ := hk.at 0 (by simp)
    obtain ⟨⟨b', o', hbo, v0, v1, v2, v3⟩, hiny⟩ := hk.at 1 (by simp)
    injection hbo with hbo
    injection hbo with e1 e2 e3
    subst e1 e2
    simp only [List.getElem_cons_zero, Nat.zero_mul, Nat.add_zero] at z0 z1 z2 z3 hinx
    simp only [List.getElem_cons_succ, List.getElem_cons_zero] at v0 v1 v2 v3 hiny
    have lb : b < w.heap.size := World.block_lt_of_cell? _ _ z0
    have HZ := Lib.hid fun (W : World) (h : Below w.heap.size w W) => (⟨(h.cell (p := ⟨b, o + 1 * 4, none⟩) lb).trans v0, (h.cell (p := ⟨b, o + 1 * 4 + 1, none⟩) lb).trans v1, (h.cell (p := ⟨b, o + 1 * 4 + 2, none⟩) lb).trans v2, (h.cell (p := ⟨b, o + 1 * 4 + 3, none⟩) lb).trans v3⟩ : W.cell? ⟨b, o + 1 * 4, none⟩ = some (.int .i64 y.kd) ∧ W.cell? ⟨b, o + 1 * 4 + 1, none⟩ = some (.int .i64 y.nn) ∧ W.cell? ⟨b, o + 1 * 4 + 2, none⟩ = some (.string y.tx) ∧ W.cell? ⟨b, o + 1 * 4 + 3, none⟩ = some (.slice y.ad y.ks.length y.cp))
    have HX := Lib.hid fun (W : World) => rnumber_any x 1 16 W
    have HY := Lib.hid fun (W : World) => rnumber_any y 0 1152921504606846976 W
    have HP : Hid ((NumP 1 16 x.form ∧ NumP 0 1152921504606846976 y.form) ↔ BitsL ([x, y].map T.form)) := Lib.hid (by
      unfold BitsL
      constructor
      · rintro ⟨h1, h2⟩; exact ⟨_, _, rfl, h1, h2⟩
      · rintro ⟨a', b', e, h1, h2⟩; injection e with e1 e; injection e with e2 _; rw [e1, e2]; exact ⟨h1, h2⟩)
    clear hk _hs _hE hinx hiny
    simp only [List.length_cons, List.length_nil] at hc hlen ⊢
    by_cases hx : NumP 1 16 x.form
    · have ex : decide (NumP 1 16 x.form) = true := decide_eq_true hx
      rw [ex] at HX
      have HPP : Hid (NumP 0 1152921504606846976 y.form ↔ BitsL ([x, y].map T.form)) := Lib.hid ⟨fun h => HP.out.1 ⟨hx, h⟩, fun h => (HP.out.2 h).2⟩
      clear hx ex
      go_enter Tryz.func106, Tryz.ntmps106
      go_wp2_with (first
      | (go_at_call 32; with_reducible refine (HIA.out _).mono ?_; rintro e wi ⟨rfl, rfl⟩)
      | (go_at_call 32; with_reducible refine (HIB.out _).mono ?_; rintro e wj ⟨rfl, rfl⟩)
        | (go_at_call 167; with_reducible refine (HX.out _).mono ?_; rintro e w2 ⟨rfl, hB⟩; obtain ⟨y0, y1, y2, y3⟩ := HZ.out _ hB; have HB1 := Lib.hid hB; clear hB)
        | (go_at_call 167; with_reducible refine (HY.out _).mono ?_; rintro e w3 ⟨rfl, hB⟩; have HB2 := Lib.hid (up HB1.out hB); clear hB)
        | (go_at_call 102; refine (truth_q _ _).mono ?_; rintro e w4 ⟨⟨q1, rfl, hq1⟩, rfl⟩; have HQ1 := Lib.hid hq1; clear hq1))
      go_ret
      exact ⟨_, rfl, HQ1.out.trans (Iff.trans (by simp) HPP.out), HB2.out⟩
    · have ex : decide (NumP 1 16 x.form) = false := decide_eq_false hx
      rw [ex] at HX
      have HNN : Hid (¬ BitsL ([x, y].map T.form)) := Lib.hid fun h => hx (HP.out.2 h).1
      clear hx ex
      go_enter Tryz.func106, Tryz.ntmps106
      go_wp2_with (first
      | (go_at_call 32; with_reducible refine (HIA.out _).mono ?_; rintro e wi ⟨rfl, rfl⟩)
      | (go_at_call 32; with_reducible refine (HIB.out _).mono ?_; rintro e wj ⟨rfl, rfl⟩)
        | (go_at_call 167; with_reducible refine (HX.out _).mono ?_; rintro e w2 ⟨rfl, hB⟩; obtain ⟨y0, y1, y2, y3⟩ := HZ.out _ hB; have HB1 := Lib.hid hB; clear hB)
        | (go_at_call 102; refine (truth_any _ _).mono ?_; rintro e w4 ⟨rfl, rfl⟩))
      go_ret
      exact AnsR.ofNo (by decide) HNN.out HB1.out
  · have g : ((l.length : Int) == 2) = false := by simp; omega
    have HN : Hid (¬ BitsL (l.map T.form)) := Lib.hid (by
      rintro ⟨a', b', e, _⟩
      have : (l.map T.form).length = 2 := by rw [e]; rfl
      rw [List.length_map] at this
      exact hl this)
    clear hk _hs _hE
    go_enter Tryz.func106, Tryz.ntmps106
    go_wp2_with (first
      | (go_at_call 32; with_reducible refine (HIA.out _).mono ?_; rintro e wi ⟨rfl, rfl⟩)
      | (go_at_call 32; with_reducible refine (HIB.out _).mono ?_; rintro e wj ⟨rfl, rfl⟩))
    go_ret
    exact AnsR.ofNo (by decide) HN.out (Below.refl _ _)
set_option maxHeartbeats 4000000 in
set_option maxRecDepth 100000 in
theorem rspec_imap (n : Nat) (E : Fm → Bool) (hE : HExp n E) (hd : ByteArray) (hq : hd.toList = [105, 109, 97, 112]) (a : Option Addr) (c : Nat) (l : List T) (w : World) (hk : InL w a 0 l) (hlen : l.length ≤ 1000000) (hc : l.length ≤ c) (hs : ∀ u ∈ l, Asked n u) :
    Calls Tryz.prog 106 #[.string hd, .slice a l.length c] w fun e w' => AnsR (ImapL E (l.map T.form)) w e w' := by
  have HIA := Lib.hid fun (W : World) => in_val hd ⟨#[105, 115, 32, 103, 101, 116]⟩ (by kernel_rfl) false (by rw [← Lib.toList_data, hq]; kernel_rfl) W
  have HIB := Lib.hid fun (W : World) => in_val hd ⟨#[99, 97, 108, 108, 32, 109, 97, 107, 101]⟩ (by kernel_rfl) false (by rw [← Lib.toList_data, hq]; kernel_rfl) W
  by_cases hl : l.length = 2
  · obtain ⟨x, y, hxy⟩ := two_of hl
    subst hxy
    obtain ⟨⟨b, o, rfl, z0, z1, z2, z3⟩, hinx⟩ := hk.at 0 (by simp)
    obtain ⟨⟨b', o', hbo, v0, v1, v2, v3⟩, hiny⟩ := hk.at 1 (by simp)
    injection hbo with hbo
    injection hbo with e1 e2 e3
    subst e1 e2
    simp only [List.getElem_cons_zero, Nat.zero_mul, Nat.add_zero] at z0 z1 z2 z3 hinx
    simp only [List.getElem_cons_succ, List.getElem_cons_zero] at v0 v1 v2 v3 hiny
    have lb : b < w.heap.size := World.block_lt_of_cell? _ _ z0
    have HZ := Lib.hid fun (W : World) (h : Below w.heap.size w W) => (⟨(h.cell (p := ⟨b, o + 1 * 4, none⟩) lb).trans v0, (h.cell (p := ⟨b, o + 1 * 4 + 1, none⟩) lb).trans v1, (h.cell (p := ⟨b, o + 1 * 4 + 2, none⟩) lb).trans v2, (h.cell (p := ⟨b, o + 1 * 4 + 3, none⟩) lb).trans v3⟩ : W.cell? ⟨b, o + 1 * 4, none⟩ = some (.int .i64 y.kd) ∧ W.cell? ⟨b, o + 1 * 4 + 1, none⟩ = some (.int .i64 y.nn) ∧ W.cell? ⟨b, o + 1 * 4 + 2, none⟩ = some (.string y.tx) ∧ W.cell? ⟨b, o + 1 * 4 + 3, none⟩ = some (.slice y.ad y.ks.length y.cp))
    have HX := Lib.hid fun (W : World) (h : Below w.heap.size w W) => hE x W (hinx.below h) (hs x (by simp))
    have HZX := Lib.hid fun (W : World) (h : Below w.heap.size w W) => (⟨⟨(h.cell (p := ⟨b, o, none⟩) lb).trans z0, (h.cell (p := ⟨b, o + 1, none⟩) lb).trans z1, (h.cell (p := ⟨b, o + 2, none⟩) lb).trans z2, (h.cell (p := ⟨b, o + 3, none⟩) lb).trans z3⟩, HZ.out W h⟩ : (W.cell? ⟨b, o, none⟩ = some (.int .i64 x.kd) ∧ W.cell? ⟨b, o + 1, none⟩ = some (.int .i64 x.nn) ∧ W.cell? ⟨b, o + 2, none⟩ = some (.string x.tx) ∧ W.cell? ⟨b, o + 3, none⟩ = some (.slice x.ad x.ks.length x.cp)) ∧ W.cell? ⟨b, o + 1 * 4, none⟩ = some (.int .i64 y.kd) ∧ W.cell? ⟨b, o + 1 * 4 + 1, none⟩ = some (.int .i64 y.nn) ∧ W.cell? ⟨b, o + 1 * 4 + 2, none⟩ = some (.string y.tx) ∧ W.cell? ⟨b, o + 1 * 4 + 3, none⟩ = some (.slice y.ad y.ks.length y.cp))
    have HY := Lib.hid fun (W : World) => rtyped_any y W
    have HP : Hid ((E x.form = true ∧ typeF y.form = true) ↔ ImapL E ([x, y].map T.form)) := Lib.hid (by
      unfold ImapL
      constructor
      · rintro ⟨h1, h2⟩; exact ⟨_, _, rfl, h1, h2⟩
      · rintro ⟨a', b', e, h1, h2⟩; injection e with e1 e; injection e with e2 _; rw [e1, e2]; exact ⟨h1, h2⟩)
    obtain ⟨ty, hty⟩ : ∃ ty, typeF y.form = ty := ⟨_, rfl⟩
    rw [hty] at HY HP
    have HS1 := Lib.hid (HZX.out _ (Below.refl _ _).drew)
    clear hk hs hE hinx hiny hty
    simp only [List.length_cons, List.length_nil] at hc hlen ⊢
    go_enter Tryz.func106, Tryz.ntmps106
    go_wp2_with (first
      | (go_at_call 32; with_reducible refine (HIA.out _).mono ?_; rintro e wi ⟨rfl, rfl⟩)
      | (go_at_call 32; with_reducible refine (HIB.out _).mono ?_; rintro e wj ⟨rfl, rfl⟩))
    go_region_held3 (fun W => (W.cell? ⟨b, o, none⟩ = some (.int .i64 x.kd) ∧ W.cell? ⟨b, o + 1, none⟩ = some (.int .i64 x.nn) ∧ W.cell? ⟨b, o + 2, none⟩ = some (.string x.tx) ∧ W.cell? ⟨b, o + 3, none⟩ = some (.slice x.ad x.ks.length x.cp)) ∧ W.cell? ⟨b, o + 1 * 4, none⟩ = some (.int .i64 y.kd) ∧ W.cell? ⟨b, o + 1 * 4 + 1, none⟩ = some (.int .i64 y.nn) ∧ W.cell? ⟨b, o + 1 * 4 + 2, none⟩ = some (.string y.tx) ∧ W.cell? ⟨b, o + 1 * 4 + 3, none⟩ = some (.slice y.ad y.ks.length y.cp)) (first | exact HS1.out | exact HS2.out | exact HS3.out)
      (first
        | (go_at_call 61; refine (HX.out _ (Below.refl _ _).drew).mono ?_; intro e w2 hA; obtain ⟨q1, rfl, hq1, hB⟩ := hA; have HQ1 := Lib.hid hq1; have HB1 := Lib.hid (up (Below.refl _ _).drew hB); have HS2 := Lib.hid (HZX.out _ HB1.out); clear hB hq1)
        | (go_at_call 124; refine (HY.out _).mono ?_; rintro e w3 ⟨rfl, hB⟩; have HB2 := Lib.hid (up HB1.out hB); have HS3 := Lib.hid (HZX.out _ HB2.out); clear hB)
        | (go_at_call 102; refine (truth_q _ _).mono ?_; rintro e w4 ⟨⟨q2, rfl, hq2⟩, rfl⟩; have HQ2 := Lib.hid hq2; clear hq2)
        | (go_at_call 126; refine (first_q _ _ _).mono ?_; rintro e w5 ⟨⟨q3, rfl, hq3⟩, rfl⟩; have HQ3 := Lib.hid hq3; clear hq3)
        | fail)
    go_wp2_with fail
    go_ret
    exact ⟨_, rfl, HQ3.out.trans ((and_congr HQ1.out HQ2.out).trans HP.out), HB2.out⟩
  · have g : ((l.length : Int) == 2) = false := by simp; omega
    have HN : Hid (¬ ImapL E (l.map T.form)) := Lib.hid (by
      rintro ⟨a', b', e, _⟩
      have : (l.map T.form).length = 2 := by rw [e]; rfl
      rw [List.length_map] at this
      exact hl this)
    clear hk hs hE
    go_enter Tryz.func106, Tryz.ntmps106
    go_wp2_with (first
      | (go_at_call 32; with_reducible refine (HIA.out _).mono ?_; rintro e wi ⟨rfl, rfl⟩)
      | (go_at_call 32; with_reducible refine (HIB.out _).mono ?_; rintro e wj ⟨rfl, rfl⟩))
    go_ret
    exact AnsR.ofNo (by decide) HN.out (Below.refl _ _)
set_option maxHeartbeats 4000000 in
set_option maxRecDepth 100000 in
theorem rspec_empty (n : Nat) (E : Fm → Bool) (_hE : HExp n E) (hd : ByteArray) (hq : hd.toList = [101, 109, 112, 116, 121]) (a : Option Addr) (c : Nat) (l : List T) (w : World) (hk : InL w a 0 l) (hlen : l.length ≤ 1000000) (hc : l.length ≤ c) (_hs : ∀ u ∈ l, Asked n u) :
    Calls Tryz.prog 106 #[.string hd, .slice a l.length c] w fun e w' => AnsR (EmptyL (l.map T.form)) w e w' := by
  have HIA := Lib.hid fun (W : World) => in_val hd ⟨#[105, 115, 32, 103, 101, 116]⟩ (by kernel_rfl) false (by rw [← Lib.toList_data, hq]; kernel_rfl) W
  have HIB := Lib.hid fun (W : World) => in_val hd ⟨#[99, 97, 108, 108, 32, 109, 97, 107, 101]⟩ (by kernel_rfl) false (by rw [← Lib.toList_data, hq]; kernel_rfl) W
  by_cases hl : l.length = 1
  · obtain ⟨x, hx⟩ : ∃ x, l = [x] := by
      match l, hl with
      | [x], _ => exact ⟨x, rfl⟩
    subst hx
    obtain ⟨⟨b, o, rfl, z0, z1, z2, z3⟩, -⟩ := hk.at 0 (by simp)
    simp only [List.getElem_cons_zero, Nat.zero_mul, Nat.add_zero] at z0 z1 z2 z3
    have lb : b < w.heap.size := World.block_lt_of_cell? _ _ z0
    have HY := Lib.hid fun (W : World) => rtyped_any x W
    have HP : Hid (typeF x.form = true ↔ EmptyL ([x].map T.form)) := Lib.hid (by
      unfold EmptyL
      constructor
      · intro h1; exact ⟨_, rfl, h1⟩
      · rintro ⟨a', e, h1⟩; injection e with e1 e; rw [e1]; exact h1)
    obtain ⟨ty, hty⟩ : ∃ ty, typeF x.form = ty := ⟨_, rfl⟩
    rw [hty] at HY HP
    clear hk _hs _hE hty
    simp only [List.length_cons, List.length_nil] at hc hlen ⊢
    go_enter Tryz.func106, Tryz.ntmps106
    go_wp2_with (first
      | (go_at_call 32; with_reducible refine (HIA.out _).mono ?_; rintro e wi ⟨rfl, rfl⟩)
      | (go_at_call 32; with_reducible refine (HIB.out _).mono ?_; rintro e wj ⟨rfl, rfl⟩)
      | (go_at_call 124; refine (HY.out _).mono ?_; rintro e w3 ⟨rfl, hB⟩; have HB2 := Lib.hid hB; clear hB)
      | (go_at_call 102; refine (truth_q _ _).mono ?_; rintro e w4 ⟨⟨q2, rfl, hq2⟩, rfl⟩; have HQ2 := Lib.hid hq2; clear hq2))
    go_ret
    exact ⟨_, rfl, HQ2.out.trans HP.out, HB2.out⟩
  · have g : ((l.length : Int) == 1) = false := by simp; omega
    have HN : Hid (¬ EmptyL (l.map T.form)) := Lib.hid (by
      rintro ⟨a', e, _⟩
      have : (l.map T.form).length = 1 := by rw [e]; rfl
      rw [List.length_map] at this
      exact hl this)
    clear hk _hs _hE
    go_enter Tryz.func106, Tryz.ntmps106
    go_wp2_with (first
      | (go_at_call 32; with_reducible refine (HIA.out _).mono ?_; rintro e wi ⟨rfl, rfl⟩)
      | (go_at_call 32; with_reducible refine (HIB.out _).mono ?_; rintro e wj ⟨rfl, rfl⟩))
    go_ret
    exact AnsR.ofNo (by decide) HN.out (Below.refl _ _)
set_option maxHeartbeats 4000000 in
set_option maxRecDepth 100000 in
theorem rspec_fuel (n : Nat) (E : Fm → Bool) (hE : HExp n E) (hd : ByteArray) (hq : hd.toList = [102, 117, 101, 108]) (a : Option Addr) (c : Nat) (l : List T) (w : World) (hk : InL w a 0 l) (hlen : l.length ≤ 1000000) (hc : l.length ≤ c) (hs : ∀ u ∈ l, Asked n u) :
    Calls Tryz.prog 106 #[.string hd, .slice a l.length c] w fun e w' => AnsR (FuelL E (l.map T.form)) w e w' := by
  have HIA := Lib.hid fun (W : World) => in_val hd ⟨#[105, 115, 32, 103, 101, 116]⟩ (by kernel_rfl) false (by rw [← Lib.toList_data, hq]; kernel_rfl) W
  have HIB := Lib.hid fun (W : World) => in_val hd ⟨#[99, 97, 108, 108, 32, 109, 97, 107, 101]⟩ (by kernel_rfl) false (by rw [← Lib.toList_data, hq]; kernel_rfl) W
  by_cases hl : l.length = 3
  · obtain ⟨x, y, z, hxy⟩ : ∃ x y z, l = [x, y, z] := by
      match l, hl with
      | [x, y, z], _ => exact ⟨x, y, z, rfl⟩
    subst hxy
    obtain ⟨⟨b, o, rfl, z0, z1, z2, z3⟩, hinx⟩ := hk.at 0 (by simp)
    obtain ⟨⟨b', o', hbo, v0, v1, v2, v3⟩, hiny⟩ := hk.at 1 (by simp)
    injection hbo with hbo
    injection hbo with e1 e2 e3
    subst e1 e2
    simp only [List.getElem_cons_zero, Nat.zero_mul, Nat.add_zero] at z0 z1 z2 z3 hinx
    simp only [List.getElem_cons_succ, List.getElem_cons_zero] at v0 v1 v2 v3 hiny
    have lb : b < w.heap.size := World.block_lt_of_cell? _ _ z0
    have HZ := Lib.hid fun (W : World) (h : Below w.heap.size w W) => (⟨(h.cell (p := ⟨b, o + 1 * 4, none⟩) lb).trans v0, (h.cell (p := ⟨b, o + 1 * 4 + 1, none⟩) lb).trans v1, (h.cell (p := ⟨b, o + 1 * 4 + 2, none⟩) lb).trans v2, (h.cell (p := ⟨b, o + 1 * 4 + 3, none⟩) lb).trans v3⟩ : W.cell? ⟨b, o + 1 * 4, none⟩ = some (.int .i64 y.kd) ∧ W.cell? ⟨b, o + 1 * 4 + 1, none⟩ = some (.int .i64 y.nn) ∧ W.cell? ⟨b, o + 1 * 4 + 2, none⟩ = some (.string y.tx) ∧ W.cell? ⟨b, o + 1 * 4 + 3, none⟩ = some (.slice y.ad y.ks.length y.cp))
    have HX := Lib.hid fun (W : World) => rnumber_any x 0 9 W
    have HY := Lib.hid fun (W : World) (h : Below w.heap.size w W) => rnamed_any y W (hiny.below h)
    have HT := Lib.hid fun (W : World) (h : Below w.heap.size w W) => rbehind2_any n E hE (some ⟨b, o, none⟩) c x y [z] W (hk.below h) (by simp) (by simpa using hc) (fun u hu => hs u (by simp at hu; simp [hu]))
    have HP : Hid (((NumP 0 9 x.form ∧ nameF y.form = true) ∧ AllE E ([z].map T.form)) ↔ FuelL E ([x, y, z].map T.form)) := Lib.hid (by
      unfold FuelL
      constructor
      · rintro ⟨⟨h1, h2⟩, h3⟩; exact ⟨_, _, _, rfl, h1, h2, h3 _ (by simp)⟩
      · rintro ⟨a', b', c', e, h1, h2, h3⟩
        injection e with e1 e; injection e with e2 e; injection e with e3 _
        refine ⟨⟨by rw [e1]; exact h1, by rw [e2]; exact h2⟩, fun q hq => ?_⟩
        simp only [List.map_cons, List.map_nil, List.mem_singleton] at hq
        rw [hq, e3]; exact h3)
    clear hk hs hE hinx hiny
    simp only [List.length_cons, List.length_nil] at hc hlen HT ⊢
    by_cases hx : NumP 0 9 x.form
    · have ex : decide (NumP 0 9 x.form) = true := decide_eq_true hx
      rw [ex] at HX
      have HPP : Hid ((nameF y.form = true ∧ AllE E ([z].map T.form)) ↔ FuelL E ([x, y, z].map T.form)) := Lib.hid ⟨fun h => HP.out.1 ⟨⟨hx, h.1⟩, h.2⟩, fun h => ⟨(HP.out.2 h).1.2, (HP.out.2 h).2⟩⟩
      obtain ⟨ny, hny⟩ : ∃ ny, nameF y.form = ny := ⟨_, rfl⟩
      rw [hny] at HY HPP
      clear hx ex hny HP
      go_enter Tryz.func106, Tryz.ntmps106
      go_wp2_with (first
      | (go_at_call 32; with_reducible refine (HIA.out _).mono ?_; rintro e wi ⟨rfl, rfl⟩)
      | (go_at_call 32; with_reducible refine (HIB.out _).mono ?_; rintro e wj ⟨rfl, rfl⟩)
        | (go_at_call 167; refine (HX.out _).mono ?_; rintro e w2 ⟨rfl, hB⟩; obtain ⟨y0, y1, y2, y3⟩ := HZ.out _ hB; have HB1 := Lib.hid hB; clear hB)
        | (go_at_call 67; refine (HY.out _ HB1.out).mono ?_; rintro e w3 ⟨rfl, hB⟩; have HB2 := Lib.hid (up HB1.out hB); clear hB)
        | (go_at_call 102; refine (truth_q _ _).mono ?_; rintro e w4 ⟨⟨q1, rfl, hq1⟩, rfl⟩; have HQ1 := Lib.hid hq1; clear hq1)
        | (go_at_call 128; refine (HT.out _ HB2.out).mono ?_; intro e w5 hA; obtain ⟨q2, rfl, hq2, hB⟩ := hA; have HQ2 := Lib.hid hq2; have HB3 := Lib.hid (up HB2.out hB); clear hB hq2)
        | (go_at_call 126; refine (first_q _ _ _).mono ?_; rintro e w6 ⟨⟨q3, rfl, hq3⟩, rfl⟩; have HQ3 := Lib.hid hq3; clear hq3))
      go_ret
      exact ⟨_, rfl, HQ3.out.trans ((and_congr HQ1.out HQ2.out).trans HPP.out), HB3.out⟩
    · have ex : decide (NumP 0 9 x.form) = false := decide_eq_false hx
      rw [ex] at HX
      have HNN : Hid (¬ FuelL E ([x, y, z].map T.form)) := Lib.hid fun h => hx (HP.out.2 h).1.1
      clear hx ex HP
      go_enter Tryz.func106, Tryz.ntmps106
      go_wp2_with (first
      | (go_at_call 32; with_reducible refine (HIA.out _).mono ?_; rintro e wi ⟨rfl, rfl⟩)
      | (go_at_call 32; with_reducible refine (HIB.out _).mono ?_; rintro e wj ⟨rfl, rfl⟩)
        | (go_at_call 167; refine (HX.out _).mono ?_; rintro e w2 ⟨rfl, hB⟩; obtain ⟨y0, y1, y2, y3⟩ := HZ.out _ hB; have HB1 := Lib.hid hB; clear hB)
        | (go_at_call 102; refine (truth_any _ _).mono ?_; rintro e w4 ⟨rfl, rfl⟩)
        | (go_at_call 128; refine (HT.out _ HB1.out).mono ?_; intro e w5 hA; obtain ⟨q2, rfl, hq2, hB⟩ := hA; have HB3 := Lib.hid (up HB1.out hB); clear hB hq2)
        | (go_at_call 126; refine (first_q _ _ _).mono ?_; rintro e w6 ⟨⟨q3, rfl, hq3⟩, rfl⟩; have HQ3 := Lib.hid hq3; clear hq3))
      go_ret
      exact ⟨_, rfl, HQ3.out.trans ⟨fun h => absurd h.1 (by decide), fun h => absurd h HNN.out⟩, HB3.out⟩
  · have g : ((l.length : Int) == 3) = false := by simp; omega
    have HN : Hid (¬ FuelL E (l.map T.form)) := Lib.hid (by
      rintro ⟨a', b', c', e, _⟩
      have : (l.map T.form).length = 3 := by rw [e]; rfl
      rw [List.length_map] at this
      exact hl this)
    clear hk hs hE
    go_enter Tryz.func106, Tryz.ntmps106
    go_wp2_with (first
      | (go_at_call 32; with_reducible refine (HIA.out _).mono ?_; rintro e wi ⟨rfl, rfl⟩)
      | (go_at_call 32; with_reducible refine (HIB.out _).mono ?_; rintro e wj ⟨rfl, rfl⟩))
    go_ret
    exact AnsR.ofNo (by decide) HN.out (Below.refl _ _)
end Go.Proofs.YtmlfiopbdlaaaaaGreat
