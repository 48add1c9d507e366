/- reader.Write and reader.Sum. -/
import Derived.Test.YtdehkgflokeodaaGreatDoorAppForm
namespace Go.Proofs.YtdehkgflokeodaaGreatDoor
open Go.RowKit Go.Deep

theorem Tab.mono {B B' : Nat} {w : World} (h : Tab B w) (hB : B ≤ B') : Tab B' w := fun w' hb => h w' (hb.mono hB)
theorem Tab.next {w w' : World} (h : Tab w.heap.size w) (hb : Below w.heap.size w w') : Tab w'.heap.size w' := Tab.mono (h.on hb) hb.size
theorem conv_buf {B : Nat} {w0 w : World} {v : Value} {l : List UInt8} (h : Buf B w0 w v l) : (convert 46 9 v).run Tryz.prog w = .ok (.string ⟨l.toArray⟩) w := conv_row h.own 0
theorem wrF_no {f : Fm} (h : validF f = false) : wrF f = [] := by unfold wrF; rw [if_neg (by rw [h]; simp)]
theorem wrF_yes {f : Fm} (h : validF f = true) : wrF f = txF f := by unfold wrF; rw [if_pos h]
set_option maxHeartbeats 1000000 in
theorem write_any (t : T) (w : World) (hin : In w t) (hb : szF t.form ≤ 4611686018427387903) (ht : Tab w.heap.size w) :
    Calls Tryz.prog 140 #[t.val] w fun e w' => e = .returned (.string ⟨(wrF t.form).toArray⟩) ∧ Below w.heap.size w w' := by
  have HV := Lib.hid fun W (h : In W t) => valid_any t W h hb
  cases hv : validF t.form with
  | false =>
    rw [wrF_no hv]
    rw [hv] at HV
    clear hv
    go_enter Tryz.func140, Tryz.ntmps140
    go_wp2_with (go_at_call 30; refine (HV.out _ (hin.alloc _)).mono ?_; rintro e w2 ⟨rfl, hB⟩)
    go_ret
    exact ⟨rfl, up (bel1 _ _) hB⟩
  | true =>
    rw [wrF_yes hv]
    obtain ⟨h1, _, h3⟩ := valid_parts hv
    have HA := Lib.hid fun W (h : In W t) (h2 : Tab W.heap.size W) => appendForm_T W.heap.size t (.slice none 0 0) [] W h (fun b hb => h.lt hb) (Buf.start (Nat.le_refl _)) h2 h3 (by simp; omega)
    rw [hv] at HV
    simp only [List.nil_append] at HA
    have HI := Lib.hid hin
    have HT := Lib.hid ht
    clear hv h3 hin ht
    go_enter Tryz.func140, Tryz.ntmps140
    go_wp2_with (first
      | (go_at_call 30; refine (HV.out _ (HI.out.alloc _)).mono ?_; rintro e w2 ⟨rfl, hB⟩; obtain ⟨c0, c1, c2, c3⟩ := Box4.cells (w := w2) (b := w.heap.size) (t := t) ((hB.block _ (by simp)).trans (heap_alloc_new w _)); have HB := Lib.hid (up (bel1 _ _) hB); clear hB)
      | (go_at_call 31; refine (HA.out _ (HI.out.below HB.out) (HT.out.next HB.out)).mono ?_; rintro e w3 ⟨v3, rfl, hb3⟩; have hcv := conv_buf hb3; have HB3 := Lib.hid hb3; clear hb3))
    go_ret
    exact ⟨rfl, up HB.out HB3.out.below⟩

/-- The checksum of bytes. -/
def sumL (l : List UInt8) : Int := l.foldl (fun n b => (31 * n + (b.toNat : Int)) % 1000003) 7
theorem sumL_snoc (l : List UInt8) (b : UInt8) : sumL (l ++ [b]) = (31 * sumL l + (b.toNat : Int)) % 1000003 := by simp [sumL]
theorem sumL_rng (l : List UInt8) : 0 ≤ sumL l ∧ sumL l ≤ 1000003 := by
  rcases List.eq_nil_or_concat l with rfl | ⟨l, b, rfl⟩
  · simp [sumL]
  · rw [List.concat_eq_append, sumL_snoc]; omega
theorem sumL_next {d : ByteArray} {k : Nat} (h : k < d.size) : sumL (d.data.toList.take (k + 1)) = (31 * sumL (d.data.toList.take k) + (d[k].toNat : Int)) % 1000003 := by
  rw [take_byte d k h, sumL_snoc]
end Go.Proofs.YtdehkgflokeodaaGreatDoor
