/- The reserved words: the document's, and shape.Reserved. -/
import Derived.Test.YtniklangimnpfaaGreatDoorNSort
import Derived.Test.YtniklangimnpfaaGreatDoorNWds
import Derived.Test.YtniklangimnpfaaGreatDoorNRes
import Derived.Test.YtniklangimnpfaaGreatDoorShelf
import Derived.Sort.OwnSorted
import Derived.Lib.LaidTab
namespace Go.Proofs.YtniklangimnpfaaGreatDoor
open Go.RowKit Go.Deep

theorem sort_row : sortS (splitB [] rowB) = sortedL := by
  refine asc_unique (sortS_asc _) sorted_pair fun z => ?_
  rw [sortS_mem, ← sorted_perm.mem_iff]
  constructor
  · intro h; have := List.all_eq_true.1 row_same.1 z h; simpa using this
  · intro h; have := List.all_eq_true.1 row_same.2 z h; simpa using this
theorem row_len : (splitB [] rowB).length ≤ 1000000 := Nat.le_of_ble_eq_true (by kernel_rfl)
theorem words_len : wordsL.length = 116 := by kernel_rfl
theorem sorted_len : sortedL.length = 116 := by kernel_rfl
set_option maxRecDepth 100000 in
theorem rReserved_any (w : World) : Calls Tryz.prog 8 #[] w fun e w' => ∃ v, e = .returned v ∧ OwnS w.heap.size w w' v sortedL := by
  have HW : Hid (∀ R : ByteArray, Nat.ble R.size 1000000 = true → R.data.toList = rowB → Calls Tryz.prog 17 #[.string R] w fun e w' => ∃ v, e = .returned v ∧ OwnS w.heap.size w w' v (splitB [] rowB)) := Lib.hid fun R hR e => by
    have := words_any R (Nat.le_of_ble_eq_true hR) w
    rwa [e] at this
  go_enter Tryz.func8, Tryz.ntmps8
  go_wp2_with (first
    | (go_at_call 17; refine (HW.out _ (by kernel_rfl) (by kernel_rfl)).mono ?_; rintro e w2 ⟨v, rfl, hO⟩; have HO := Lib.hid hO; obtain ⟨la, lc, rfl, _, hr⟩ := hO.row; have HR := Lib.hid (sorted_any la _ lc w2 row_len hr); clear hO hr)
    | (go_at_call 16; refine HR.out.mono ?_; rintro e w3 ⟨v, rfl, hO⟩; have HO2 := Lib.hid hO; clear hO))
  go_ret
  refine ⟨_, rfl, ?_⟩
  have := HO2.out
  rw [sort_row] at this
  exact OwnS.from HO.out.below HO.out.le this
theorem res_ascii : resB.all (fun b => b.toNat.blt 128) = true := by kernel_rfl
set_option maxRecDepth 100000 in
theorem reserved_gen (WL SL : List (List UInt8)) (n : Nat) (hl : WL.length = n) (hsl : SL.length = n) (hn : n ≤ 1000) (hm : (WL.mergeSort fun x y => decide (x ≤ y)) = SL) (hf : Lib.fields resB = WL)
    (w : World) (ht : Lib.TabIs Tryz.prog w "strings.asciiSpace" .u8 Lib.asciiSpaceTab) :
    Calls Tryz.prog 7 #[] w fun e w' => ∃ v, e = .returned v ∧ OwnS w.heap.size w w' v SL := by
  have HF : Hid (∀ R : ByteArray, Nat.blt R.size 4294967281 = true → R.data.toList = resB → Calls Tryz.prog 14 #[.string R] w fun e w' => e = .returned (.slice (some ⟨w.heap.size, 0, none⟩) n n) ∧ w' = w.alloc (.cells (WL.map fun l => Value.string ⟨l.toArray⟩).toArray 9)) := Lib.hid fun R hR e => by
    have := Tryz.strings_Fields R w (Nat.le_of_ble_eq_true hR) (fun j b hb => by
      rw [e] at hb
      have := List.all_eq_true.1 res_ascii b (List.mem_of_getElem? hb)
      exact Nat.le_of_ble_eq_true this) ht
    rwa [e, hf, hl] at this
  have hown : OwnS w.heap.size w (w.alloc (.cells (WL.map fun l => Value.string ⟨l.toArray⟩).toArray 9)) (.slice (some ⟨w.heap.size, 0, none⟩) n n) WL :=
    ⟨by
      have := World.ownsRow_lit (base := w.heap.size) (e := 9) (size := 1) w (WL.map fun l => Value.string ⟨l.toArray⟩).toArray n (Nat.le_refl _) (by unfold maxLen; omega) (by simp [hl])
      rw [hl]; simpa [strV] using this, bel1 _ _, by simp⟩
  obtain ⟨W, hW⟩ : ∃ W, w.alloc (.cells (WL.map fun l => Value.string ⟨l.toArray⟩).toArray 9) = W := ⟨_, rfl⟩
  rw [hW] at HF hown
  have hb : W.heap[w.heap.size]? = some (.cells (WL.map fun l => Value.string ⟨l.toArray⟩).toArray 9 (0, 0)) := by rw [← hW]; exact heap_alloc_new _ _
  have hS := Tryz.slices_Sort_string w.heap.size 0 n WL W (holds_of_block hb (by rw [List.toList_toArray, List.take_of_length_le (by simp)])) (lt_of_getElem? hb) (by omega)
  rw [hm, hl] at hS
  have HS := Lib.hid hS
  have HO := Lib.hid hown
  have HB := Lib.hid hb
  have HL := Lib.hid hl
  have HSL := Lib.hid hsl
  have HN := Lib.hid hn
  clear hW hown hb hS ht hl hsl hm hf hn
  go_enter Tryz.func7, Tryz.ntmps7
  go_wp2_with (first
    | (go_at_call 14; refine (HF.out _ (by kernel_rfl) (by kernel_rfl)).mono ?_; rintro e w2 ⟨rfl, rfl⟩)
    | (go_at_call 15; refine HS.out.mono ?_; rintro e w3 ⟨rfl, m, os, rfl⟩))
  go_ret
  refine ⟨_, rfl, ?_⟩
  have ho := ownsRow_sorted (w := w2) (g := w.heap.size) (base := w.heap.size) (n := m) (os := os) (ts := SL) (ss := WL) (cap := n) (by rw [HL.out, HSL.out]) (Nat.le_refl _) HB.out (by rw [HL.out]; exact Nat.le_refl _) (by have := HN.out; unfold maxLen; omega) (by have := HL.out; simp [this])
  have hg := grownBy_sorted (w := w2) (g := w.heap.size) (n := m) (os := os) SL.toArray
  refine ⟨?_, HO.out.below.grown hg HO.out.le fun k hk => by cases hk; exact Nat.le_refl _, Nat.le_trans HO.out.le hg.size⟩
  rw [HL.out] at ho
  rw [HSL.out]
  exact ho
theorem reserved_any (w : World) (ht : Lib.TabIs Tryz.prog w "strings.asciiSpace" .u8 Lib.asciiSpaceTab) :
    Calls Tryz.prog 7 #[] w fun e w' => ∃ v, e = .returned v ∧ OwnS w.heap.size w w' v sortedL :=
  reserved_gen wordsL sortedL 116 words_len sorted_len (by decide) sorted_merge res_fields w ht
end Go.Proofs.YtniklangimnpfaaGreatDoor
