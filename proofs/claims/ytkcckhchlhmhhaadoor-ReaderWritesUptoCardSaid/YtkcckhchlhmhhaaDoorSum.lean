/- reader.Sum. -/
import Derived.Test.YtkcckhchlhmhhaaDoorWrite
namespace Go.Proofs.YtkcckhchlhmhhaaDoor
open Go.RowKit Go.Deep

/-- '[]byte(s)': a new row with the bytes. -/
theorem bytes_of (w : World) (d : ByteArray) : ∃ c W, (convert 9 55 (.string d)).run Tryd.prog w = .ok (.slice (some ⟨w.heap.size, 0, none⟩) d.size c) W ∧ Below w.heap.size w W ∧ ∀ j (h : j < d.size), W.cell? ⟨w.heap.size, j, none⟩ = some (.int .u8 (d[j].toNat : Int)) := by
  refine ⟨_, _, run_bytes_of_string w 9 55 5 d Tryd.underlying9 Tryd.underlying55 Tryd.underlying5, (Below.refl _ _).drew.alloc (by simp) _, fun j h => ?_⟩
  have hb := heap_alloc_new w.drew (.cells (bytesRow d (grownCap w d.size 0 5)) 5 ((bytesRow d (grownCap w d.size 0 5)).size, (bytesRow d (grownCap w d.size 0 5)).size + 1))
  have hz : w.drew.heap.size = w.heap.size := rfl
  rw [hz] at hb
  rw [Joins.cell_of_block hb j]
  unfold bytesRow
  rw [Array.getElem?_append_left (by simpa using h)]
  simp
  exact ⟨_, Array.getElem?_eq_getElem (by simpa using h), rfl⟩
set_option maxHeartbeats 1000000 in
theorem sum_any (t : T) (w : World) (hin : In w t) (hb : szF t.form ≤ 4611686018427387903) (ht : Tab w.heap.size w) :
    Calls Tryd.prog 24 #[t.val] w fun e w' => e = .returned (.int .i64 (sumL (wrF t.form))) ∧ Below w.heap.size w w' := by
  obtain ⟨d, hd⟩ : ∃ d : ByteArray, d = ⟨(wrF t.form).toArray⟩ := ⟨_, rfl⟩
  have hdl : d.data.toList = wrF t.form := by rw [hd]
  have hds : d.size ≤ 80200000 := by
    have := wrF_len t.form
    have e : d.size = d.data.toList.length := by simp
    rw [e, hdl]; exact this
  have HW := Lib.hid fun W (h : In W t) (h2 : Tab W.heap.size W) => (write_any t W h hb h2).mono fun e w' hh => (by rw [← hd] at hh; exact hh : e = .returned (.string d) ∧ Below W.heap.size W w')
  rw [← hdl]
  clear hd hdl
  have HT := Lib.hid ht
  go_enter Tryd.func24, Tryd.ntmps24
  go_wp2_with (go_at_call 16; refine (HW.out _ (hin.alloc _) (HT.out.next (bel1 _ _))).mono ?_; rintro e w2 ⟨rfl, hB⟩; obtain ⟨c, W, hcv, hBW, hcell⟩ := bytes_of w2 d; have HB := Lib.hid (up (bel1 _ _) (up hB hBW)); have HC := Lib.hid hcell; clear hB hBW hcell)
  clear hcv
  go_loopg [3, 10] (d.size) (fun m n i wr => ∃ k : Nat, k ≤ d.size ∧ m = d.size - k ∧ i = .int .i64 k ∧ n = .int .i64 (sumL (d.data.toList.take k)) ∧ wr = W)
  case atStart => exact ⟨0, by omega, rfl, rfl, rfl, rfl⟩
  case round =>
    obtain ⟨k, hk, rfl, rfl, rfl, rfl⟩ := hrel
    obtain ⟨r0, r1⟩ := sumL_rng (d.data.toList.take k)
    by_cases hlt : k < d.size
    · have hx := HC.out k hlt
      have hn := sumL_next hlt
      have HN := Lib.hid hn
      have hu : (d[k].toNat : Int) ≤ 255 := by have := d[k].toNat_lt; omega
      clear hn
      go_wp2_with fail
      go_roundg (d.size - (k + 1))
      case measure => omega
      case rel => exact ⟨k + 1, by omega, rfl, by go_num, by rw [HN.out], rfl⟩
    · have HE : Hid (d.data.toList.take k = d.data.toList) := Lib.hid (List.take_of_length_le (by simp; omega))
      go_wp2_with fail
      go_ret
      exact ⟨ret_int (by rw [HE.out]), HB.out⟩
end Go.Proofs.YtkcckhchlhmhhaaDoor
