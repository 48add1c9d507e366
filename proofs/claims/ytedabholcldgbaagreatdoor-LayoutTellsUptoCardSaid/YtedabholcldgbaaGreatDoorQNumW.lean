/- The document's own number: the walk. -/
import Derived.Test.YtedabholcldgbaaGreatDoorQNum
import Derived.Deep.Cut
namespace Go.Proofs.YtedabholcldgbaaGreatDoor.Q
open Go.RowKit Go.Deep

/-- What number answers. -/
def numVal (v : Int × Bool × Bool) : Value := .tuple #[.int .i64 v.1, .bool v.2.1, .bool v.2.2]
/-- The digits' loop. -/
structure NumRel (d : ByteArray) (k acc : Nat) : Prop where
  le : k ≤ d.size
  bound : acc ≤ 1152921504606846979
  mag : magR 0 d.data.toList = magR acc (d.data.toList.drop k)
theorem NumRel.step {d : ByteArray} {k acc : Nat} (h : NumRel d k acc) (hd : Digs d.data.toList) (hk : k < d.size) (ha : acc ≤ 115292150460684697) : NumRel d (k + 1) (10 * acc + (d[k].toNat - 48)) := by
  have hl : k < d.data.toList.length := by rw [← size_list]; exact hk
  have e : d.data.toList[k] = d[k] := rfl
  have hc := hd _ (List.getElem_mem hl)
  rw [e] at hc
  refine ⟨by omega, by omega, ?_⟩
  rw [h.mag, mag_step hl ha, e, Nat.mul_comm]
theorem NumRel.stop {d : ByteArray} {k acc : Nat} (h : NumRel d k acc) (hk : k < d.size) (ha : 115292150460684697 < acc) : magR 0 d.data.toList = none := by
  rw [h.mag, mag_stop (by rw [← size_list]; exact hk) ha]
theorem NumRel.ends {d : ByteArray} {k acc : Nat} (h : NumRel d k acc) (hk : d.size ≤ k) : magR 0 d.data.toList = if acc ≤ 1152921504606846976 then some acc else none := by
  rw [h.mag, mag_end (by rw [← size_list]; exact hk)]
theorem head_negB {s : ByteArray} (h : 0 < s.size) : negB s = ((s[0].toNat : Int) == 45) := by
  unfold negB
  have hl : 0 < s.data.toList.length := by rw [← size_list]; exact h
  rw [List.head?_eq_getElem?, List.getElem?_eq_getElem hl]
  have e : s.data.toList[0] = s[0] := rfl
  rw [e, Bool.eq_iff_iff]
  simp only [beq_iff_eq, Option.some.injEq]
  rw [← UInt8.toNat_inj]
  have : (45 : UInt8).toNat = 45 := rfl
  omega
theorem canon_eq {s d : ByteArray} (hbd : bodyB s = d) (h0 : 0 < d.size) : canonL s.data.toList = !((d[0].toNat : Int) == 48 && (decide (1 < d.size) || negB s)) := by
  subst hbd
  unfold canonL
  rw [trim_body]
  have hl : 0 < (bodyB s).data.toList.length := by rw [← size_list]; exact h0
  rw [List.head?_eq_getElem?, List.getElem?_eq_getElem hl]
  have e : (bodyB s).data.toList[0] = (bodyB s)[0] := rfl
  rw [e]
  have hb : (some (bodyB s)[0] == some (48 : UInt8)) = (((bodyB s)[0].toNat : Int) == 48) := by
    rw [Bool.eq_iff_iff]
    simp only [beq_iff_eq, Option.some.injEq]
    rw [← UInt8.toNat_inj]
    have : (48 : UInt8).toNat = 48 := rfl
    omega
  rw [hb]
  cases h48 : (((bodyB s)[0].toNat : Int) == 48) with
  | false => simp
  | true =>
    simp only [Bool.not_true, Bool.false_or, Bool.true_and]
    have h48' : (bodyB s)[0].toNat = 48 := by simp at h48; omega
    cases hn : negB s with
    | true =>
      simp only [Bool.or_true, Bool.not_true]
      unfold negB at hn
      cases hl2 : s.data.toList with
      | nil => rw [hl2] at hn; simp at hn
      | cons c r =>
        rw [hl2] at hn
        simp at hn
        subst hn
        simp
    | false =>
      simp only [Bool.or_false]
      have hbs : bodyB s = s := by unfold bodyB; rw [if_neg (by rw [hn]; simp)]
      simp only [hbs] at h48' h0 hl ⊢
      rw [Bool.eq_iff_iff]
      simp only [beq_iff_eq, Bool.not_eq_true', decide_eq_false_iff_not]
      rw [size_list]
      cases hl2 : s.data.toList with
      | nil => rw [hl2] at hl; simp at hl
      | cons c r =>
        have hc : c = s[0] := by
          have : s.data.toList[0] = s[0] := rfl
          rw [← this]; simp [hl2]
        constructor
        · intro e; rw [e]; simp
        · intro e
          have : r = [] := by cases r with
            | nil => rfl
            | cons a b => simp at e
          subst this
          congr 1
          rw [hc, ← UInt8.toNat_inj]
          exact h48'

set_option maxHeartbeats 4000000 in
set_option maxRecDepth 100000 in
theorem number_any (s : ByteArray) (hn : numB s = true) (hs : s.size ≤ 60000) (w : World) :
    Calls Tryz.prog 155 #[.string s] w fun e w' => e = .returned (numVal (numV s)) ∧ w = w' := by
  obtain ⟨hd, h0⟩ := numB_digs hn
  have hbs : bodyB s = if negB s = true then s.extract 1 s.size else s := rfl
  have hns : 0 < s.size := by
    rcases Nat.eq_zero_or_pos s.size with h | h
    · rw [hbs] at h0
      have e : s.data.toList = [] := List.length_eq_zero_iff.1 (by rw [← size_list]; exact h)
      split at h0
      · rename_i hx; unfold negB at hx; rw [e] at hx; simp at hx
      · omega
    · exact h
  have hneg := head_negB hns
  obtain ⟨r, hr⟩ : ∃ r, numVal (numV s) = r := ⟨_, rfl⟩
  rw [hr]
  have hr1 : r = if canonL s.data.toList = false then .tuple #[.int .i64 0, .bool false, .bool true] else match magR 0 (bodyB s).data.toList with
      | some u => .tuple #[.int .i64 (if negB s = true then -(u : Int) else (u : Int)), .bool true, .bool true]
      | none => .tuple #[.int .i64 0, .bool true, .bool false] := by
    rw [← hr]; unfold numVal numV
    split
    · rfl
    · split <;> (rename_i h; rw [h])
  have hbz : (bodyB s).size ≤ 60000 := by
    rw [hbs]; split
    · simp [ByteArray.size_extract]; omega
    · exact hs
  obtain ⟨d, hdd⟩ : ∃ d, bodyB s = d := ⟨_, rfl⟩
  rw [hdd] at hd h0 hr1 hbz
  have hcan := canon_eq hdd h0
  rw [hdd] at hbs
  have hz0 : (0 : Int) < (s.size : Int) := by omega
  have hz1 : (0 : Int) < (d.size : Int) := by omega
  have hz2 : (d.size : Int) ≤ 60000 := by omega
  have hz3 : (1 : Int) ≤ (s.size : Int) := by omega
  cases hg : negB s with
  | true =>
    rw [hg] at hneg hcan hbs hr1
    rw [if_pos rfl] at hbs
    have g45 : ((s[0].toNat : Int) == 45) = true := hneg.symm
    simp only [Bool.or_true, Bool.and_true] at hcan
    simp only [if_true] at hr1
    clear hneg hg hn hdd hr
    have HBS := Lib.hid hbs
    clear hbs
    go_enter Tryz.func155, Tryz.ntmps155
    go_upto_region 4 with fail
    rw [← HBS.out]
    clear HBS g45
    cases hc : canonL s.data.toList with
    | false =>
      rw [if_pos hc] at hr1
      have HR1 := Lib.hid hr1
      have h48 : ((d[0].toNat : Int) == 48) = true := by rw [hc] at hcan; simpa using hcan.symm
      clear hr1 hc hcan
      go_wp2_with fail
      all_goals
        refine bodyPost_ret (v := .tuple #[.int .i64 0, .bool false, .bool true]) (by simp [results, Tryz.results155, go_sem]) rfl ⟨?_, rfl⟩
        rw [HR1.out]
    | true =>
      rw [if_neg (by rw [hc]; simp)] at hr1
      have HR1 := Lib.hid hr1
      have HD := Lib.hid hd
      have h48 : ((d[0].toNat : Int) == 48) = false := by rw [hc] at hcan; simpa using hcan.symm
      clear hr1 hc hcan hd
      go_wp2_with fail
      all_goals
        go_loopg [7, 8] (d.size) (fun m n i wr => ∃ k acc : Nat, NumRel d k acc ∧ m = d.size - k ∧ i = .int .i64 k ∧ n = .int .i64 acc ∧ w = wr)
        case atStart => exact ⟨0, 0, ⟨Nat.zero_le _, by omega, by simp⟩, rfl, rfl, rfl, rfl⟩
        case round =>
          obtain ⟨k, acc, hrl, rfl, rfl, rfl, rfl⟩ := hrel
          have HRL := Lib.hid hrl
          have hk := hrl.le
          have hb := hrl.bound
          clear hrl
          by_cases hlt : k < d.size
          · by_cases ha : acc ≤ 115292150460684697
            · have HN := Lib.hid (HRL.out.step HD.out hlt ha)
              have hdk : 48 ≤ d[k].toNat ∧ d[k].toNat ≤ 57 := HD.out _ (List.getElem_mem (by rw [← size_list]; exact hlt))
              have d1 : (48 : Int) ≤ (d[k].toNat : Int) := by omega
              have d2 : (d[k].toNat : Int) ≤ 57 := by omega
              have d3 : (acc : Int) ≤ 115292150460684697 := by omega
              have d4 : ¬ (115292150460684697 : Int) < (acc : Int) := by omega
              have HA : Hid (10 * (acc : Int) + ((d[k].toNat : Int) - 48) = ((10 * acc + (d[k].toNat - 48) : Nat) : Int)) := Lib.hid (by omega)
              clear hdk ha hb
              go_wp2_with fail
              go_roundg (d.size - (k + 1))
              case measure => omega
              case rel => exact ⟨k + 1, 10 * acc + (d[k].toNat - 48), HN.out, rfl, by go_num, by rw [HA.out], rfl⟩
            · have HN := Lib.hid (HRL.out.stop hlt (by omega))
              have d4 : (115292150460684697 : Int) < (acc : Int) := by omega
              clear ha
              go_wp2_with fail
              refine bodyPost_ret (v := .tuple #[.int .i64 0, .bool true, .bool false]) (by simp [results, Tryz.results155, go_sem]) rfl ⟨?_, rfl⟩
              rw [HR1.out, HN.out]
          · have HN := Lib.hid (HRL.out.ends (by omega))
            by_cases ha : acc ≤ 1152921504606846976
            · have d4 : ¬ (1152921504606846976 : Int) < (acc : Int) := by omega
              have d5 : (acc : Int) ≤ 1152921504606846976 := by omega
              have HA := Lib.hid ha
              clear ha
              go_wp2_with fail
              refine bodyPost_ret (v := .tuple #[.int .i64 (-(acc : Int)), .bool true, .bool true]) (by simp [results, Tryz.results155, go_sem]) rfl ⟨?_, rfl⟩
              rw [HR1.out, HN.out, if_pos HA.out]
            · have d4 : (1152921504606846976 : Int) < (acc : Int) := by omega
              have HA := Lib.hid ha
              clear ha
              go_wp2_with fail
              refine bodyPost_ret (v := .tuple #[.int .i64 0, .bool true, .bool false]) (by simp [results, Tryz.results155, go_sem]) rfl ⟨?_, rfl⟩
              rw [HR1.out, HN.out, if_neg HA.out]
  | false =>
    rw [hg] at hneg hcan hbs hr1
    rw [if_neg (by simp)] at hbs
    subst hbs
    have g45 : ((d[0].toNat : Int) == 45) = false := hneg.symm
    simp only [Bool.or_false] at hcan
    simp only [Bool.false_eq_true, if_false] at hr1
    obtain ⟨s, hss⟩ : ∃ s, s = d := ⟨_, rfl⟩
    have hcs : canonL d.data.toList = canonL s.data.toList := by rw [hss]
    rw [hcs] at hcan hr1
    clear hcs hss hneg hg hn hdd hr
    go_enter Tryz.func155, Tryz.ntmps155
    go_upto_region 4 with fail
    clear g45
    cases hc : canonL s.data.toList with
    | false =>
      rw [if_pos hc] at hr1
      have HR1 := Lib.hid hr1
      have h48 : ((d[0].toNat : Int) == 48) = true ∧ decide (1 < d.size) = true := by rw [hc] at hcan; simpa using hcan.symm
      obtain ⟨h48, h1⟩ := h48
      have h2 : (1 : Int) < (d.size : Int) := by simp at h1; omega
      clear hr1 hc hcan
      go_wp2_with fail
      refine bodyPost_ret (v := .tuple #[.int .i64 0, .bool false, .bool true]) (by simp [results, Tryz.results155, go_sem]) rfl ⟨?_, rfl⟩
      rw [HR1.out]
    | true =>
      rw [if_neg (by rw [hc]; simp)] at hr1
      have HR1 := Lib.hid hr1
      have HD := Lib.hid hd
      have hx : ((d[0].toNat : Int) == 48) = false ∨ (((d[0].toNat : Int) == 48) = true ∧ ¬ (1 : Int) < (d.size : Int)) := by
        rw [hc] at hcan
        cases h48 : ((d[0].toNat : Int) == 48) with
        | false => exact .inl rfl
        | true => rw [h48] at hcan; simp at hcan; exact .inr ⟨rfl, by omega⟩
      clear hr1 hc hcan hd
      rcases hx with h48 | ⟨h48, h1⟩
      all_goals
        go_wp2_with fail
        go_loopg [7, 8] (d.size) (fun m n i wr => ∃ k acc : Nat, NumRel d k acc ∧ m = d.size - k ∧ i = .int .i64 k ∧ n = .int .i64 acc ∧ w = wr)
        case atStart => exact ⟨0, 0, ⟨Nat.zero_le _, by omega, by simp⟩, rfl, rfl, rfl, rfl⟩
        case round =>
          obtain ⟨k, acc, hrl, rfl, rfl, rfl, rfl⟩ := hrel
          have HRL := Lib.hid hrl
          have hk := hrl.le
          have hb := hrl.bound
          clear hrl
          by_cases hlt : k < d.size
          · by_cases ha : acc ≤ 115292150460684697
            · have HN := Lib.hid (HRL.out.step HD.out hlt ha)
              have hdk : 48 ≤ d[k].toNat ∧ d[k].toNat ≤ 57 := HD.out _ (List.getElem_mem (by rw [← size_list]; exact hlt))
              have d1 : (48 : Int) ≤ (d[k].toNat : Int) := by omega
              have d2 : (d[k].toNat : Int) ≤ 57 := by omega
              have d3 : (acc : Int) ≤ 115292150460684697 := by omega
              have d4 : ¬ (115292150460684697 : Int) < (acc : Int) := by omega
              have HA : Hid (10 * (acc : Int) + ((d[k].toNat : Int) - 48) = ((10 * acc + (d[k].toNat - 48) : Nat) : Int)) := Lib.hid (by omega)
              clear hdk ha hb
              go_wp2_with fail
              go_roundg (d.size - (k + 1))
              case measure => omega
              case rel => exact ⟨k + 1, 10 * acc + (d[k].toNat - 48), HN.out, rfl, by go_num, by rw [HA.out], rfl⟩
            · have HN := Lib.hid (HRL.out.stop hlt (by omega))
              have d4 : (115292150460684697 : Int) < (acc : Int) := by omega
              clear ha
              go_wp2_with fail
              refine bodyPost_ret (v := .tuple #[.int .i64 0, .bool true, .bool false]) (by simp [results, Tryz.results155, go_sem]) rfl ⟨?_, rfl⟩
              rw [HR1.out, HN.out]
          · have HN := Lib.hid (HRL.out.ends (by omega))
            by_cases ha : acc ≤ 1152921504606846976
            · have d4 : ¬ (1152921504606846976 : Int) < (acc : Int) := by omega
              have d5 : (acc : Int) ≤ 1152921504606846976 := by omega
              have HA := Lib.hid ha
              clear ha
              go_wp2_with fail
              refine bodyPost_ret (v := .tuple #[.int .i64 (acc : Int), .bool true, .bool true]) (by simp [results, Tryz.results155, go_sem]) rfl ⟨?_, rfl⟩
              rw [HR1.out, HN.out, if_pos HA.out]
            · have d4 : (1152921504606846976 : Int) < (acc : Int) := by omega
              have HA := Lib.hid ha
              clear ha
              go_wp2_with fail
              refine bodyPost_ret (v := .tuple #[.int .i64 0, .bool true, .bool false]) (by simp [results, Tryz.results155, go_sem]) rfl ⟨?_, rfl⟩
              rw [HR1.out, HN.out, if_neg HA.out]
end Go.Proofs.YtedabholcldgbaaGreatDoor.Q
