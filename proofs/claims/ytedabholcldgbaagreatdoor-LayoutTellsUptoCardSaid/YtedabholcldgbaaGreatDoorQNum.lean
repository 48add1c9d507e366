/- The document's own number: digits, or - and digits. -/
import Derived.Test.YtedabholcldgbaaGreatDoorQScan
import Derived.Lib.AtoiAllCases
namespace Go.Proofs.YtedabholcldgbaaGreatDoor.Q
open Go.RowKit Go.Deep

/-- The digits' number, if it is not too great. -/
def magR (acc : Nat) : List UInt8 → Option Nat
  | [] => if acc ≤ 1152921504606846976 then some acc else none
  | c :: r => if 115292150460684697 < acc then none else magR (acc * 10 + (c.toNat - 48)) r
theorem parse_ge : ∀ (l : List UInt8) (acc u : Nat), Lib.parseUint10 acc l = .ok u → acc ≤ u
  | [], acc, u, h => by
    simp only [Lib.parseUint10] at h
    injection h with h
    omega
  | c :: r, acc, u, h => by
    simp only [Lib.parseUint10] at h
    split at h
    · split at h
      · cases h
      · split at h
        · cases h
        · have := parse_ge r _ u h
          omega
    · cases h
def Digs (l : List UInt8) : Prop := ∀ c ∈ l, 48 ≤ c.toNat ∧ c.toNat ≤ 57
theorem mag_parse : ∀ (l : List UInt8) (acc : Nat), Digs l → acc ≤ 1152921504606846985 → magR acc l = match Lib.parseUint10 acc l with
      | .ok u => if u ≤ 1152921504606846976 then some u else none
      | _ => none
  | [], acc, _, _ => by simp only [magR, Lib.parseUint10]
  | c :: r, acc, hd, ha => by
    have hc := hd c (by simp)
    have h1 : ¬ 1844674407370955162 ≤ acc := by omega
    have h2 : ¬ 18446744073709551616 ≤ acc * 10 + (c.toNat - 48) := by omega
    simp only [magR, Lib.parseUint10, if_pos hc, if_neg h1, if_neg h2]
    by_cases h3 : 115292150460684697 < acc
    · rw [if_pos h3]
      cases hp : Lib.parseUint10 (acc * 10 + (c.toNat - 48)) r with
      | ok u =>
        have := parse_ge r _ u hp
        simp only
        rw [if_neg (by omega)]
      | range => rfl
      | _ => rfl
    · rw [if_neg h3]
      exact mag_parse r _ (fun x hx => hd x (by simp [hx])) (by omega)

/-- The bytes behind a sign. -/
def negB (s : ByteArray) : Bool := s.data.toList.head? == some 45
def bodyB (s : ByteArray) : ByteArray := if negB s = true then s.extract 1 s.size else s
/-- What number tells: the number, whether it is written as one, whether it is not too great. -/
def numV (s : ByteArray) : Int × Bool × Bool :=
  if canonL s.data.toList = false then (0, false, true)
  else match magR 0 (bodyB s).data.toList with
    | some u => (if negB s = true then -(u : Int) else (u : Int), true, true)
    | none => (0, true, false)
theorem trim_body (s : ByteArray) : Lib.trimPrefix s.data.toList [45] = (bodyB s).data.toList := by
  unfold bodyB negB
  cases h : s.data.toList with
  | nil => simp [Lib.trimPrefix, Lib.hasPrefix, h]
  | cons c r =>
    by_cases hc : c = 45
    · subst hc
      rw [if_pos (by simp)]
      rw [extract_list, h]
      simp [Lib.trimPrefix, Lib.hasPrefix]
    · rw [if_neg (by simpa using hc), h]
      unfold Lib.trimPrefix
      rw [if_neg]
      simp [Lib.hasPrefix]
      exact fun e => hc e.symm
theorem numB_digs {s : ByteArray} (h : numB s = true) : Digs (bodyB s).data.toList ∧ 0 < (bodyB s).size := by
  unfold numB numL at h
  rw [trim_body] at h
  simp only [Bool.and_eq_true] at h
  refine ⟨fun c hc => ?_, ?_⟩
  · have := List.all_eq_true.1 h.2 c hc
    unfold digB at this
    simp only [Bool.and_eq_true, decide_eq_true_eq] at this
    omega
  · have h1 := h.1
    rw [size_list]
    cases hl : (bodyB s).data.toList with
    | nil => rw [hl] at h1; simp at h1
    | cons a b => simp
/-- What a numeral is read as. -/
theorem token_num {s : ByteArray} (h : numB s = true) : tokenR s = (if (numV s).2.1 = false then .err 4 else if (numV s).2.2 = false then .err 5 else .form 0 (numV s).1 ⟨#[]⟩) := by
  obtain ⟨hd, h0⟩ := numB_digs h
  unfold tokenR numV
  rw [if_neg (by rw [h]; simp)]
  by_cases hc : canonL s.data.toList = false
  · rw [if_pos hc, if_pos hc]; rfl
  · rw [if_neg hc, if_neg hc]
    have hm := mag_parse (bodyB s).data.toList 0 hd (by omega)
    have hne : (bodyB s).data.toList ≠ [] := fun e => by rw [size_list, e] at h0; simp at h0
    have hpm : Lib.parseMag (bodyB s).data.toList = Lib.parseUint10 0 (bodyB s).data.toList := by unfold Lib.parseMag; rw [if_neg hne]
    have ha : Lib.atoiAll s.data.toList = if negB s = true then Lib.signed (Lib.parseMag (bodyB s).data.toList) else Lib.signless (Lib.parseMag (bodyB s).data.toList) := by
      have ht := trim_body s
      unfold bodyB at hd hne ht ⊢
      unfold negB at hd hne ht ⊢
      cases hl : s.data.toList with
      | nil => rw [hl] at hne; simp [hl] at hne
      | cons c r =>
        rw [hl] at hd hne ht
        by_cases hc : c = 45
        · subst hc
          rw [if_pos (by simp), Lib.atoiAll_minus]
          rw [if_pos (by simp)] at ht ⊢
          rw [← ht]
          simp [Lib.trimPrefix, Lib.hasPrefix]
        · have hx : ¬ (((c :: r).head? == some (45 : UInt8)) = true) := by simpa using hc
          rw [if_neg hx] at hd ht ⊢
          rw [if_neg hx]
          rw [hl] at hd ⊢
          have := hd c (by simp)
          exact Lib.atoiAll_plain c r (by omega) (by omega)
    rw [ha, hpm]
    cases hp : Lib.parseUint10 0 (bodyB s).data.toList with
    | ok u =>
      rw [hp] at hm
      simp only at hm
      have hlt := Lib.parseUint10_lt _ 0 u (by omega) hp
      by_cases hu : u ≤ 1152921504606846976
      · rw [if_pos hu] at hm
        rw [hm]
        by_cases hn : negB s = true
        · simp only [hn, if_true, Lib.signed]
          rw [if_neg (by omega)]
          have : rangeB (-(u : Int)) = true := by unfold rangeB; simp; omega
          simp [this]
        · simp only [hn, Lib.signless]
          have : rangeB (u : Int) = true := by unfold rangeB; simp; omega
          have h2 : ¬ 9223372036854775808 ≤ u := by omega
          simp [this, h2]
      · rw [if_neg hu] at hm
        rw [hm]
        by_cases hn : negB s = true
        · simp only [hn, if_true, Lib.signed]
          have : rangeB (-(u : Int)) = false := by unfold rangeB; simp; omega
          split
          · rename_i v hv
            split at hv
            · cases hv
            · injection hv with hv
              subst hv
              rw [if_neg (by rw [this]; simp)]
              simp
          · simp
        · simp only [hn, Lib.signless]
          have : rangeB (u : Int) = false := by unfold rangeB; simp; omega
          simp only [Bool.false_eq_true, if_false]
          split
          · rename_i v hv
            split at hv
            · cases hv
            · injection hv with hv
              subst hv
              rw [if_neg (by rw [this]; simp)]
              simp
          · simp
    | range =>
      rw [hp] at hm
      simp only at hm
      rw [hm]
      by_cases hn : negB s = true <;> simp [hn, Lib.signed, Lib.signless]
    | _ =>
      rw [hp] at hm
      simp only at hm
      rw [hm]
      by_cases hn : negB s = true <;> simp [hn, Lib.signed, Lib.signless]
theorem mag_step {l : List UInt8} {k : Nat} {acc : Nat} (hk : k < l.length) (ha : acc ≤ 115292150460684697) : magR acc (l.drop k) = magR (acc * 10 + (l[k].toNat - 48)) (l.drop (k + 1)) := by
  rw [List.drop_eq_getElem_cons hk, magR, if_neg (by omega)]
theorem mag_stop {l : List UInt8} {k : Nat} {acc : Nat} (hk : k < l.length) (ha : 115292150460684697 < acc) : magR acc (l.drop k) = none := by
  rw [List.drop_eq_getElem_cons hk, magR, if_pos ha]
theorem mag_end {l : List UInt8} {k : Nat} {acc : Nat} (hk : l.length ≤ k) : magR acc (l.drop k) = if acc ≤ 1152921504606846976 then some acc else none := by
  rw [List.drop_of_length_le hk, magR]
end Go.Proofs.YtedabholcldgbaaGreatDoor.Q
