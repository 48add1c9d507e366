/- The document's In: is a text one of a row's words. -/
import Derived.Test.YtmlfiopbdlaaaaaGreatVal
import Derived.Test.YtmlfiopbdlaaaaaGreatNPure
namespace Go.Proofs.YtmlfiopbdlaaaaaGreat
open Go.RowKit Go.Deep

/-- A piece of a text, as its bytes. -/
theorem sub_list (r : ByteArray) (f k : Nat) : (r.extract f k).data.toList = (r.data.toList.drop f).take (k - f) := by
  simp [ByteArray.data_extract, Array.toList_extract, List.extract_eq_take_drop]
/-- How far In has come: the word that is read began at f, k bytes are behind. -/
def InRel (s r : ByteArray) (f k : Nat) : Prop :=
  f ≤ k ∧ ((k ≤ r.size ∧ inB s.data.toList [] r.data.toList = inB s.data.toList ((r.data.toList.drop f).take (k - f)) (r.data.toList.drop k)) ∨ (k = r.size + 1 ∧ f = r.size + 1 ∧ inB s.data.toList [] r.data.toList = false))
theorem beq_bytes {a b : ByteArray} (h : a.data.toList = b.data.toList) : a = b := by
  cases a; cases b; rw [ByteArray.mk.injEq]; exact Array.toList_inj.1 h
theorem eqT {a b : ByteArray} (h : a = b) : (a.toList == b.toList) = true := by subst h; simp
theorem eqF {a b : ByteArray} (h : ¬ a = b) : (a.toList == b.toList) = false := by
  rw [beq_eq_false_iff_ne, Lib.toList_data, Lib.toList_data]
  exact fun e => h (beq_bytes e)
theorem inB_end {s r : ByteArray} {f k : Nat} (h : InRel s r f k) (hk : k = r.size) : inB s.data.toList [] r.data.toList = decide (r.extract f k = s) := by
  obtain ⟨hf, ⟨_, h⟩ | ⟨h, _⟩⟩ := h
  · have hd : r.data.toList.drop k = [] := List.drop_of_length_le (by rw [hk]; simp)
    rw [hd, inB, ← sub_list] at h
    rw [h]
    exact decide_eq_decide.2 ⟨beq_bytes, fun h => by rw [h]⟩
  · omega
theorem inB_blank {s r : ByteArray} {f k : Nat} (h : InRel s r f k) (hk : k < r.size) (hb : r[k].toNat = 32) :
    (r.extract f k = s → inB s.data.toList [] r.data.toList = true) ∧ (¬ r.extract f k = s → InRel s r (k + 1) (k + 1)) := by
  obtain ⟨hf, ⟨_, h⟩ | ⟨h, _⟩⟩ := h
  · have hd : r.data.toList.drop k = 32 :: r.data.toList.drop (k + 1) := by
      rw [List.drop_eq_getElem_cons (by simpa using hk)]
      have : r.data.toList[k]'(by simpa using hk) = 32 := by
        have : r[k] = 32 := by rw [← UInt8.toNat_inj, hb]; rfl
        rw [← this]; rfl
      rw [this]
    rw [hd, inB, if_pos rfl, ← sub_list] at h
    refine ⟨fun e => ?_, fun e => ⟨Nat.le_refl _, .inl ⟨hk, ?_⟩⟩⟩
    · rw [h, e]; simp
    · have : decide ((r.extract f k).data.toList = s.data.toList) = false := by simp; exact fun e' => e (beq_bytes (by simpa using e'))
      rw [h, this]; simp
  · omega
theorem inB_step {s r : ByteArray} {f k : Nat} (h : InRel s r f k) (hk : k < r.size) (hb : ¬ r[k].toNat = 32) : InRel s r f (k + 1) := by
  obtain ⟨hf, ⟨_, h⟩ | ⟨h, _⟩⟩ := h
  · refine ⟨by omega, .inl ⟨hk, ?_⟩⟩
    have hlt : k < r.data.toList.length := by simpa using hk
    have hne : ¬ r.data.toList[k] = 32 := fun e => hb (by
      have : r[k] = 32 := by rw [← e]; rfl
      rw [this]; rfl)
    rw [List.drop_eq_getElem_cons hlt, inB, if_neg hne] at h
    rw [h]
    congr 1
    rw [show k + 1 - f = (k - f) + 1 by omega, List.take_add_one, List.getElem?_drop, show f + (k - f) = k by omega, List.getElem?_eq_getElem hlt]
    rfl
  · omega

set_option maxHeartbeats 1000000 in
theorem in_any (s r : ByteArray) (hr : r.size ≤ 1000000) (w : World) :
    Calls Tryz.prog 32 #[.string s, .string r] w fun e w' => e = .returned (.bool (inB s.data.toList [] r.data.toList)) ∧ w = w' := by
  go_enter Tryz.func32, Tryz.ntmps32
  go_wp2_with fail
  go_loopg [5, 6] (r.size + 1) (fun m from' i wr => ∃ k f : Nat, m = r.size + 1 - k ∧ k ≤ r.size + 1 ∧ i = .int .i64 k ∧ from' = .int .i64 f ∧ InRel s r f k ∧ w = wr)
  case atStart => exact ⟨0, 0, by omega, by omega, rfl, rfl, ⟨Nat.le_refl _, .inl ⟨by omega, by simp⟩⟩, rfl⟩
  case round =>
    obtain ⟨k, f, rfl, hk, rfl, rfl, hI, rfl⟩ := hrel
    by_cases hlt : k ≤ r.size
    · have hf := hI.1
      by_cases he : k = r.size
      · subst he
        have hE := inB_end hI rfl
        have hN : Hid (¬ r.extract f r.size = s → InRel s r (r.size + 1) (r.size + 1)) := Lib.hid fun h => ⟨Nat.le_refl _, .inr ⟨rfl, rfl, by rw [hE]; simpa using h⟩⟩
        by_cases hx : r.extract f r.size = s
        · have HS := Lib.hid (show inB s.data.toList [] r.data.toList = true by rw [hE]; simpa using hx)
          have g := eqT hx
          clear hE hI hx
          go_wp2_with fail
          go_ret
          exact ⟨ret_bool HS.out.symm, rfl⟩
        · have HS := Lib.hid (hN.out hx)
          have g := eqF hx
          clear hE hI hx
          go_wp2_with fail
          go_roundg (0)
          case measure => omega
          case rel => exact ⟨r.size + 1, r.size + 1, by omega, by omega, by go_num, by go_num, HS.out, rfl⟩
      · have hlt2 : k < r.size := by omega
        by_cases hb : r[k].toNat = 32
        · have hb' : ((r[k].toNat : Int) == 32) = true := by rw [hb]; rfl
          have hB := inB_blank hI hlt2 hb
          by_cases hx : r.extract f k = s
          · have HS := Lib.hid (hB.1 hx)
            have g := eqT hx
            clear hI hx hB hb
            go_wp2_with fail
            go_ret
            exact ⟨ret_bool HS.out.symm, rfl⟩
          · have HS := Lib.hid (hB.2 hx)
            have g := eqF hx
            clear hI hx hB hb
            go_wp2_with fail
            go_roundg (r.size + 1 - (k + 1))
            case measure => omega
            case rel => exact ⟨k + 1, k + 1, by omega, by omega, by go_num, by go_num, HS.out, rfl⟩
        · have hb' : ((r[k].toNat : Int) == 32) = false := by simp; omega
          have HS := Lib.hid (inB_step hI hlt2 hb)
          clear hI hb
          go_wp2_with fail
          go_roundg (r.size + 1 - (k + 1))
          case measure => omega
          case rel => exact ⟨k + 1, f, by omega, by omega, by go_num, rfl, HS.out, rfl⟩
    · have HS : Hid (inB s.data.toList [] r.data.toList = false) := Lib.hid (by
        obtain ⟨_, ⟨h, _⟩ | ⟨_, _, h⟩⟩ := hI
        · omega
        · exact h)
      have hlt' : decide ((k : Int) ≤ (r.size : Int)) = false := by simp; omega
      clear hI
      go_wp2_with fail
      go_ret
      exact ⟨ret_bool HS.out.symm, rfl⟩
end Go.Proofs.YtmlfiopbdlaaaaaGreat
