/- ReaderWrites: the walk. -/
import Derived.Test.YtkcckhchlhmhhaaDoorRef4
import Derived.Test.YtkcckhchlhmhhaaDoorSane2
namespace Go.Proofs.YtkcckhchlhmhhaaDoor
open Go.RowKit Go.Deep

theorem Boxed.drew {w W : World} {t : T} (h : Boxed w W t) : Boxed w W.drew t := h.next (Below.refl _ _).drew
set_option maxHeartbeats 8000000 in
set_option maxRecDepth 100000 in
theorem writes_any (t : T) (w : World) (hin : In w t) (hb : szF t.form ≤ 4611686018427387903) (htab : Tab w.heap.size w) (hg : Glob w) (h6 : 6 ≤ w.heap.size) :
    Calls Tryd.prog 4 #[t.val] w fun e w' => e = .returned (.bool true) ∧ Below w.heap.size w w' := by
  obtain ⟨d, hd⟩ : ∃ d : ByteArray, (⟨(wrF t.form).toArray⟩ : ByteArray) = d := ⟨_, rfl⟩
  have C1 := Lib.hid fun W (k : Boxed w W t) => (write_any t W (hin.below k.2) hb (htab.next k.2)).mono fun e w' hh => (by rw [hd] at hh; exact hh : e = .returned (.string d) ∧ Below W.heap.size W w')
  have C2 := Lib.hid fun W (k : Boxed w W t) => (rwrite_any t W (hin.below k.2) hb (htab.next k.2)).mono fun e w' hh => (by rw [hd] at hh; exact hh : e = .returned (.string d) ∧ Below W.heap.size W w')
  have C3 := Lib.hid fun W (k : Boxed w W t) => valid_any t W (hin.below k.2) hb
  have C4 := Lib.hid fun W (k : Boxed w W t) => rvalid_any t W (hin.below k.2) hb
  have C5 := Lib.hid fun W (k : Boxed w W t) => size_any t W (hin.below k.2) hb
  have C6 := Lib.hid fun W (k : Boxed w W t) => rsize_T t W (hin.below k.2) hb
  have C7 := Lib.hid fun W (k : Boxed w W t) => depth_any t W (hin.below k.2) hb
  have C8 := Lib.hid fun W (k : Boxed w W t) => rdepth_T t W (hin.below k.2) hb
  have C9 := Lib.hid fun W (k : Boxed w W t) => sum_any t W (hin.below k.2) hb (htab.next k.2)
  have C10 := Lib.hid fun W (k : Boxed w W t) => rsum_any t W (hin.below k.2) hb (htab.next k.2)
  have C11 := Lib.hid fun W (k : Boxed w W t) => head_any t W (hin.below k.2)
  have C12 := Lib.hid fun W (k : Boxed w W t) => rhead_any t W (hin.below k.2)
  have C13 := Lib.hid fun W (k : Boxed w W t) => sane_any W (hg.below k.2 h6) (Nat.le_trans h6 k.2.size)
  generalize validF t.form = bv at *
  generalize sumL (wrF t.form) = bs at *
  generalize headF t.form = bh at *
  generalize hm : szF t.form = m at *
  generalize hq : dpF t.form = q at *
  have KK := Lib.hid (Boxed.start w t)
  clear hin hb htab hg hd hm hq
  go_enter Tryd.func4, Tryd.ntmps4
  go_wp2_with fail
  go_region_held3 (fun w' => w'.cell? ⟨w.heap.size, 0, none⟩ = some (.int .i64 t.kd) ∧ w'.cell? ⟨w.heap.size, 1, none⟩ = some (.int .i64 t.nn) ∧ w'.cell? ⟨w.heap.size, 2, none⟩ = some (.string t.tx) ∧ w'.cell? ⟨w.heap.size, 3, none⟩ = some (.slice t.ad t.ks.length t.cp))
    (first
      | exact KK.out.drew.1.cells
      | exact KK.out.1.cells)
    (first
      | (go_at_call 16; with_reducible refine (C1.out _ KK.out.drew).mono ?_; rintro e w1 ⟨rfl, hB⟩; have KK := Lib.hid (KK.out.drew.next hB); clear hB)
      | (go_at_call 17; with_reducible refine (C2.out _ KK.out).mono ?_; rintro e w1 ⟨rfl, hB⟩; have KK := Lib.hid (KK.out.next hB); clear hB)
      | (go_at_call 18; with_reducible refine (C3.out _ KK.out).mono ?_; rintro e w1 ⟨rfl, hB⟩; have KK := Lib.hid (KK.out.next hB); clear hB)
      | (go_at_call 19; with_reducible refine (C4.out _ KK.out).mono ?_; rintro e w1 ⟨rfl, hB⟩; have KK := Lib.hid (KK.out.next hB); clear hB)
      | (go_at_call 20; with_reducible refine (C5.out _ KK.out).mono ?_; rintro e w1 ⟨rfl, hB⟩; have KK := Lib.hid (KK.out.next hB); clear hB)
      | (go_at_call 21; with_reducible refine (C6.out _ KK.out).mono ?_; rintro e w1 ⟨rfl, hB⟩; have KK := Lib.hid (KK.out.next hB); clear hB)
      | (go_at_call 22; with_reducible refine (C7.out _ KK.out).mono ?_; rintro e w1 ⟨rfl, hB⟩; have KK := Lib.hid (KK.out.next hB); clear hB)
      | (go_at_call 23; with_reducible refine (C8.out _ KK.out).mono ?_; rintro e w1 ⟨rfl, hB⟩; have KK := Lib.hid (KK.out.next hB); clear hB)
      | (go_at_call 24; with_reducible refine (C9.out _ KK.out).mono ?_; rintro e w1 ⟨rfl, hB⟩; have KK := Lib.hid (KK.out.next hB); clear hB)
      | (go_at_call 25; with_reducible refine (C10.out _ KK.out).mono ?_; rintro e w1 ⟨rfl, hB⟩; have KK := Lib.hid (KK.out.next hB); clear hB)
      | (go_at_call 26; with_reducible refine (C11.out _ KK.out).mono ?_; rintro e w1 ⟨rfl, hB⟩; have KK := Lib.hid (KK.out.next hB); clear hB)
      | (go_at_call 27; with_reducible refine (C12.out _ KK.out).mono ?_; rintro e w1 ⟨rfl, hB⟩; have KK := Lib.hid (KK.out.next hB); clear hB)
      | (go_at_call 15; with_reducible refine (C13.out _ KK.out).mono ?_; rintro e w1 ⟨rfl, hB⟩; have KK := Lib.hid (KK.out.next hB); clear hB))
  go_wp2_with fail
  go_ret
  exact ⟨rfl, KK.out.2⟩
end Go.Proofs.YtkcckhchlhmhhaaDoor
