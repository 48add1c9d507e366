/- Rows: how many Kids they let, and the saying at an index. -/
import Derived.Test.YtmlfiopbdlaaaaaGreatSh1
namespace Go.Proofs.YtmlfiopbdlaaaaaGreat
open Go.RowKit Go.Deep
variable {S : Nat → Prop}

theorem RS.lets_some {r : RS} {m : Nat} (h : r.lets m = true) (i : Nat) (hi : i < m) : ∃ p, r.at i m = some p := by
  unfold RS.lets at h
  unfold RS.at
  rcases Bool.or_eq_true_iff.1 h with h | h
  · have h : m = r.front.length + r.back.length := of_decide_eq_true h
    by_cases h1 : i < r.front.length
    · rw [if_pos h1, List.getElem?_eq_getElem h1]; exact ⟨_, rfl⟩
    · rw [if_neg h1, if_neg (by omega), List.getElem?_eq_getElem (by omega)]; exact ⟨_, rfl⟩
  · obtain ⟨h1, h2⟩ := Bool.and_eq_true_iff.1 h
    have h1 : r.front.length + r.back.length < m := of_decide_eq_true h1
    by_cases h3 : i < r.front.length
    · rw [if_pos h3, List.getElem?_eq_getElem h3]; exact ⟨_, rfl⟩
    · rw [if_neg h3]
      split
      · exact Option.isSome_iff_exists.1 h2
      · rw [List.getElem?_eq_getElem (by omega)]; exact ⟨_, rfl⟩
set_option maxHeartbeats 1000000 in
theorem lets_any (n : Nat) (rv : Value) (R : RS) (m : Nat) (w : World) (hR : RowIs n S w rv R) (hl : R.front.length ≤ 1000000) (hl2 : R.back.length ≤ 1000000) :
    Calls Tryz.prog 137 #[rv, .int .i64 m] w fun e w' => e = .returned (.bool (R.lets m)) ∧ Below w.heap.size w w' := by
  obtain ⟨fa, fc, ba, bc, mp, rfl, _, _, hm⟩ := hR
  obtain ⟨fl, hfl⟩ : ∃ k, R.front.length = k := ⟨_, rfl⟩
  obtain ⟨bl, hbl⟩ : ∃ k, R.back.length = k := ⟨_, rfl⟩
  unfold RS.lets
  rw [hfl] at hl ⊢
  rw [hbl] at hl2 ⊢
  have hmore : R.more.isSome = mp.isSome := by
    cases h : R.more with
    | none => rw [h] at hm; rw [hm]; rfl
    | some p => rw [h] at hm; obtain ⟨b, e, _⟩ := hm; rw [e]; rfl
  rw [hmore]
  clear hm hmore hfl hbl
  by_cases h1 : m = fl + bl
  · have g1 : ((m : Int) == (fl : Int) + (bl : Int)) = true := by simp; omega
    have e : (decide (m = fl + bl) || (decide (fl + bl < m) && mp.isSome)) = true := by simp [h1]
    rw [e]; clear e h1
    go_enter Tryz.func137, Tryz.ntmps137
    go_wp2_with fail
    go_ret
    exact ⟨rfl, bel1 _ _⟩
  · have g1 : ((m : Int) == (fl : Int) + (bl : Int)) = false := by simp; omega
    by_cases h2 : fl + bl < m
    · have g2 : (fl : Int) + (bl : Int) < (m : Int) := by omega
      cases mp with
      | none =>
        have e : (decide (m = fl + bl) || (decide (fl + bl < m) && (none : Option Addr).isSome)) = false := by simp [h1]
        rw [e]; clear e h1 h2
        go_enter Tryz.func137, Tryz.ntmps137
        go_wp2_with fail
        go_ret
        exact ⟨rfl, bel1 _ _⟩
      | some ad =>
        have e : (decide (m = fl + bl) || (decide (fl + bl < m) && (some ad).isSome)) = true := by simp [h2]
        rw [e]; clear e h1 h2
        go_enter Tryz.func137, Tryz.ntmps137
        go_wp2_with fail
        go_ret
        exact ⟨rfl, bel1 _ _⟩
    · have g2 : decide ((fl : Int) + (bl : Int) < (m : Int)) = false := by simp; omega
      have e : (decide (m = fl + bl) || (decide (fl + bl < m) && mp.isSome)) = false := by simp [h1, h2]
      rw [e]; clear e h1 h2
      go_enter Tryz.func137, Tryz.ntmps137
      go_wp2_with fail
      go_ret
      exact ⟨rfl, bel1 _ _⟩
theorem PartsAt.get {n : Nat} {w : World} {a : Option Addr} {l : List PS} (h : PartsAt n S w a l) (i : Nat) (hi : i < l.length) : ∃ b o, a = some ⟨b, o, none⟩ ∧ PartAt n S w b (o + i * 3) l[i] := by
  rcases h with h | ⟨b, o, h1, h2⟩
  · subst h; simp at hi
  · exact ⟨b, o, h1, h2 i hi⟩
theorem PartIs.vals {n : Nat} {w : World} {vf vi ve : Value} {p : PS} (h : PartIs n S w vf vi ve p) : ∃ K caps, vf = .func (.func K) #[] caps ∧ (vi = .nilFunc ∨ ∃ K' caps', vi = .func (.func K') #[] caps') ∧ ve = .bool p.isE := by
  obtain ⟨⟨K, caps, h1, _⟩, h2, h3⟩ := h
  refine ⟨K, caps, h1, ?_, h3⟩
  cases hp : p.ins with
  | none => rw [hp] at h2; exact .inl h2
  | some q => rw [hp] at h2; obtain ⟨K', caps', e, _⟩ := h2; exact .inr ⟨K', caps', e⟩
set_option maxHeartbeats 4000000 in
set_option maxRecDepth 100000 in
theorem at_row (n : Nat) (rv : Value) (R : RS) (i m : Nat) (p : PS) (w : World) (hR : RowIs n S w rv R) (hl : R.front.length ≤ 1000000) (hl2 : R.back.length ≤ 1000000) (hi : i < m) (hm : m ≤ 1000000000) (hle : R.front.length + R.back.length ≤ m) (hp : R.at i m = some p) :
    Calls Tryz.prog 59 #[rv, .int .i64 i, .int .i64 m] w fun e w' => PartEnd n S w w' p e := by
  obtain ⟨fa, fc, ba, bc, mp, rfl, hf, hb, hmo⟩ := hR
  have HF := Lib.hid hf
  have HB := Lib.hid hb
  clear hf hb
  obtain ⟨fl, hfl⟩ : ∃ k, R.front.length = k := ⟨_, rfl⟩
  obtain ⟨bl, hbl⟩ : ∃ k, R.back.length = k := ⟨_, rfl⟩
  unfold RS.at at hp
  rw [hfl] at hl hle ⊢
  rw [hbl] at hl2 hle ⊢
  have HFL := Lib.hid hfl
  have HBL := Lib.hid hbl
  have gi0 : (0 : Int) ≤ (i : Int) := by omega
  by_cases h1 : i < fl
  · have g1 : (i : Int) < (fl : Int) := by omega
    rw [if_pos (by omega)] at hp
    obtain ⟨b, o, rfl, hb0, hs0, vf, vi, ve, c0, c1, c2, hpi⟩ := HF.out.get i (by omega)
    have hpe : R.front[i]'(by omega) = p := by rw [List.getElem?_eq_getElem (by omega)] at hp; exact Option.some.inj hp
    have HPI := Lib.hid (show PartIs n S w vf vi ve p by rw [← hpe]; exact hpi)
    obtain ⟨K, caps, rfl, hvi, rfl⟩ := HPI.out.vals
    clear hp hpi hpe hmo h1 hfl hbl
    rcases hvi with rfl | ⟨K', caps', rfl⟩
    all_goals
      go_enter Tryz.func59, Tryz.ntmps59
      go_wp2_with fail
      exact bodyPost_ret (v := .agg #[_, _, _]) (by simp [results, Tryz.results59, go_sem]) rfl ⟨_, _, _, rfl, HPI.out.below (bel2 _ _ _), bel2 _ _ _⟩
  · have g1 : decide ((i : Int) < (fl : Int)) = false := by simp; omega
    have g1n : decide (i < fl) = false := by simp; omega
    rw [if_neg (by omega)] at hp
    by_cases h2 : i < m - bl
    · have g2 : (i : Int) < (m : Int) - (bl : Int) := by omega
      rw [if_pos (by omega)] at hp
      rw [hp] at hmo
      obtain ⟨b, rfl, hb0, hs0, vf, vi, ve, c0, c1, c2, hpi⟩ := hmo
      simp only [Nat.zero_add] at c1 c2
      have HPI := Lib.hid hpi
      obtain ⟨K, caps, rfl, hvi, rfl⟩ := HPI.out.vals
      clear hp hpi h1 h2 hfl hbl
      rcases hvi with rfl | ⟨K', caps', rfl⟩
      all_goals
        go_enter Tryz.func59, Tryz.ntmps59
        go_wp2_with fail
        exact bodyPost_ret (v := .agg #[_, _, _]) (by simp [results, Tryz.results59, go_sem]) rfl ⟨_, _, _, rfl, HPI.out.below (bel2 _ _ _), bel2 _ _ _⟩
    · have g2 : decide ((i : Int) < (m : Int) - (bl : Int)) = false := by simp; omega
      rw [if_neg (by omega), hbl] at hp
      have hj : i - (m - bl) < bl := by omega
      obtain ⟨j, hjd⟩ : ∃ j, i - (m - bl) = j := ⟨_, rfl⟩
      rw [hjd] at hp hj
      obtain ⟨b, o, rfl, hb0, hs0, vf, vi, ve, c0, c1, c2, hpi⟩ := HB.out.get j (by omega)
      have hpe : R.back[j]'(by omega) = p := by rw [List.getElem?_eq_getElem (by omega)] at hp; exact Option.some.inj hp
      have HPI := Lib.hid (show PartIs n S w vf vi ve p by rw [← hpe]; exact hpi)
      obtain ⟨K, caps, rfl, hvi, rfl⟩ := HPI.out.vals
      have gj : (i : Int) - ((m : Int) - (bl : Int)) = (j : Int) := by omega
      clear hp hpi hpe hmo h1 hfl hbl
      rcases hvi with rfl | ⟨K', caps', rfl⟩
      all_goals
        go_enter Tryz.func59, Tryz.ntmps59
        go_wp2_with fail
        exact bodyPost_ret (v := .agg #[_, _, _]) (by simp [results, Tryz.results59, go_sem]) rfl ⟨_, _, _, rfl, HPI.out.below (bel2 _ _ _), bel2 _ _ _⟩
end Go.Proofs.YtmlfiopbdlaaaaaGreat
