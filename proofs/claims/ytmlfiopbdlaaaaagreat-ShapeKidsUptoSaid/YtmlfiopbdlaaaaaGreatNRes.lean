/- shape.isReserved, shape.IsName. -/
import Derived.Test.YtmlfiopbdlaaaaaGreatNIs
namespace Go.Proofs.YtmlfiopbdlaaaaaGreat
open Go.RowKit Go.Deep

/-- The library's variable MaxLen holds some int. -/
def MaxIs (w : World) : Prop := ∃ m : Int, w.cell? ⟨0, 0, none⟩ = some (.int .i64 m)
theorem MaxIs.below {w w' : World} (h : MaxIs w) (hb : Below w.heap.size w w') : MaxIs w' := by
  obtain ⟨m, hm⟩ := h
  exact ⟨m, by rw [← hm]; exact World.cell?_of_block (hb.block _ (World.block_lt_of_cell? _ _ hm))⟩
def resv (s : ByteArray) : Bool := Lib.contains resB (32 :: (s.data.toList ++ [32]))
set_option maxRecDepth 100000 in
theorem resv_any (s : ByteArray) (hs : s.size ≤ 1000) (w : World) (hm : MaxIs w) :
    Calls Tryz.prog 57 #[.string s] w fun e w' => e = .returned (.bool (resv s)) ∧ w = w' := by
  obtain ⟨m, hm⟩ := hm
  have HC : Hid (∀ (R sub : ByteArray), Nat.blt R.size 4294967281 = true → R.data.toList = resB → sub.data.toList = 32 :: (s.data.toList ++ [32]) → Calls Tryz.prog 92 #[.string R, .string sub] w fun e w' => e = .returned (.bool (resv s)) ∧ w' = w) := Lib.hid fun R sub h h1 h2 => by
    have := Tryz.strings_Contains R sub m w (Nat.le_of_ble_eq_true h) hm
    rw [h1, h2] at this
    exact this
  clear hm
  go_enter Tryz.func57, Tryz.ntmps57
  go_wp2_with (go_at_call 92; refine (HC.out _ _ (by kernel_rfl) (by kernel_rfl) (by simp)).mono ?_; rintro e w2 ⟨rfl, rfl⟩)
  go_ret
  exact ⟨rfl, rfl⟩

/-- Is a text a name? -/
def nameB (s : ByteArray) : Bool := identB s && !resv s
theorem isName_any (s : ByteArray) (hs : s.size ≤ maxLen) (w : World) (hm : MaxIs w) :
    Calls Tryz.prog 28 #[.string s] w fun e w' => e = .returned (.bool (nameB s)) ∧ w = w' := by
  have HI := Lib.hid (ident_any s hs w)
  cases h : identB s with
  | false =>
    rw [h] at HI
    have e : nameB s = false := by simp [nameB, h]
    rw [e]
    clear h e hm
    go_enter Tryz.func28, Tryz.ntmps28
    go_wp2_with (go_at_call 56; refine (HI.out).mono ?_; rintro e w2 ⟨rfl, rfl⟩)
    go_ret
    exact ⟨rfl, rfl⟩
  | true =>
    rw [h] at HI
    have hsz : s.size ≤ 20 := by simp [identB] at h; omega
    have HR := Lib.hid (resv_any s (by omega) w hm)
    have e : nameB s = !resv s := by simp [nameB, h]
    rw [e]
    clear h e hm hsz
    go_enter Tryz.func28, Tryz.ntmps28
    go_wp2_with (first
      | (go_at_call 56; refine (HI.out).mono ?_; rintro e w2 ⟨rfl, rfl⟩)
      | (go_at_call 57; refine (HR.out).mono ?_; rintro e w2 ⟨rfl, rfl⟩))
    go_ret
    exact ⟨rfl, rfl⟩

/-- What a text without blanks is: reserved, or not. -/
theorem resv_mem {s : ByteArray} (h : (32 : UInt8) ∉ s.data.toList) : resv s = decide (s.data.toList ∈ wordsL) := by
  unfold resv Lib.contains
  rw [res_flat]
  refine decide_eq_decide.2 (has_words _ h _ fun x hx => ?_)
  have := List.all_eq_true.1 words_sp x hx
  simpa using this
theorem row_mem (s : List UInt8) : inB s [] rowB = decide (s ∈ wordsL) := by
  rw [inB_split]
  refine decide_eq_decide.2 ⟨fun h => ?_, fun h => ?_⟩
  · have := List.all_eq_true.1 row_same.1 s h; simpa using this
  · have := List.all_eq_true.1 row_same.2 s h; simpa using this
theorem idB_sp {s : ByteArray} (h : allB idB s = true) : (32 : UInt8) ∉ s.data.toList := by
  intro hm
  have := List.all_eq_true.1 h 32 hm
  exact absurd this (by decide)
/-- A name, in the document's own words. -/
theorem name_row (s : ByteArray) : nameB s = (identB s && !inB s.data.toList [] rowB) := by
  unfold nameB
  cases h : identB s with
  | false => rfl
  | true =>
    have h2 : allB idB s = true := by simp [identB] at h; exact h.2
    rw [row_mem, resv_mem (idB_sp h2)]
end Go.Proofs.YtmlfiopbdlaaaaaGreat
