/- reader.WriteAll. -/
import Derived.Test.YtkcckhchlhmhhaaDoorWrite
namespace Go.Proofs.YtkcckhchlhmhhaaDoor
open Go.RowKit Go.Deep

/-- Forms as text, each with a line feed behind it; those that are not valid are empty. -/
def wAllG (fs : List Fm) : List UInt8 := fs.flatMap fun f => wrF f ++ [10]
theorem wAllG_next (ts : List T) (k : Nat) (h : k < ts.length) : wAllG ((ts.take (k + 1)).map T.form) = wAllG ((ts.take k).map T.form) ++ (wrF ts[k].form ++ [10]) := by
  rw [List.take_succ_eq_append_getElem h]
  simp only [wAllG, List.map_append, List.flatMap_append, List.map_cons, List.map_nil, List.flatMap_cons, List.flatMap_nil, List.append_nil]
theorem wrF_sz (f : Fm) : (wrF f).length + 1 ≤ 4010 * szF f := by
  have hp : 1 ≤ szF f := by rw [szF_eq]; omega
  unfold wrF
  split
  · rename_i h
    have := txF_len (valid_parts h).2.2
    omega
  · simp; omega
theorem wAllG_len : ∀ l : List Fm, (wAllG l).length ≤ 4010 * szL l
  | [] => by simp [wAllG]
  | f :: fs => by
    have := wAllG_len fs
    have := wrF_sz f
    have e : wAllG (f :: fs) = wrF f ++ [10] ++ wAllG fs := by simp [wAllG]
    rw [e]
    simp only [List.length_append, List.length_cons, List.length_nil, szL]
    omega
set_option maxHeartbeats 2000000 in
theorem writeAll_any (ts : List T) (va : Option Addr) (vc : Nat) (w : World) (hin : InL w va 0 ts) (hl : ts.length ≤ 1000000) (hsz : szL (ts.map T.form) ≤ 220000) (htab : Tab w.heap.size w) :
    Calls Tryd.prog 35 #[.slice va ts.length vc] w fun e w' => e = .returned (.string ⟨(wAllG (ts.map T.form)).toArray⟩) ∧ Below w.heap.size w w' := by
  have HK : Hid (∀ W, Below w.heap.size w W → InL W va 0 ts) := Lib.hid fun W h => hin.below h
  have HI := Lib.hid hin
  have HT := Lib.hid htab
  have HS : Hid (∀ k (h : k < ts.length), szF ts[k].form ≤ 220000) := Lib.hid fun k h => by
    have := szL_le (l := ts.map T.form) (f := ts[k].form) (List.mem_map_of_mem (List.getElem_mem h)); omega
  have HL : Hid (∀ k, (wAllG ((ts.take k).map T.form)).length ≤ 882200000) := Lib.hid fun k => by
    have h1 := wAllG_len ((ts.take k).map T.form)
    have h2 := szL_takes (ts.map T.form) k
    rw [← List.map_take] at h2
    omega
  have HE : Hid (∀ k, ts.length ≤ k → wAllG ((ts.take k).map T.form) = wAllG (ts.map T.form)) := Lib.hid fun k h => by rw [List.take_of_length_le h]
  clear hin htab hsz
  go_enter Tryd.func35, Tryd.ntmps35
  go_wp2_with fail
  go_loopg [3, 8] (ts.length) (fun m o i wr => ∃ k : Nat, k ≤ ts.length ∧ m = ts.length - k ∧ i = .int .i64 k ∧ Buf w.heap.size w wr o (wAllG ((ts.take k).map T.form)))
  case atStart => exact ⟨0, by omega, rfl, rfl, by simpa [wAllG] using Buf.start (B := w.heap.size) (w := w) (Nat.le_refl _)⟩
  case round =>
    obtain ⟨k, hk, rfl, rfl, hbk⟩ := hrel
    have HBK := Lib.hid hbk
    have hlk := HL.out k
    clear hbk
    by_cases hlt : k < ts.length
    · obtain ⟨⟨b, o, rfl, hx0, hx1, hx2, hx3⟩, hink⟩ := (HK.out _ HBK.out.below).at k hlt
      have lb : b < wr.heap.size := World.block_lt_of_cell? _ _ hx0
      have hs := HS.out k hlt
      have hin0 := (HI.out.at k hlt).2
      have HN := Lib.hid (wAllG_next ts k hlt)
      have HV := Lib.hid fun W (h : Below w.heap.size w W) => valid_any ts[k] W (hin0.below h) (by omega)
      cases hv : validF ts[k].form with
      | false =>
        rw [hv] at HV
        rw [wrF_no hv, List.nil_append] at HN
        clear hv hink
        go_wp2_with (first
          | (go_at_call 18; refine (HV.out _ (HBK.out.alloc _).below).mono ?_; rintro e w2 ⟨rfl, hB⟩; have HB2 := Lib.hid ((HBK.out.alloc _).next hB); clear hB)
          | (at_builtin; refine buf_bytes rfl _ _ 55 rfl Tryd.underlying55 rfl HB2.out [10] _ (by simp [bytesV]) 1 rfl 1 _ rfl (by simp) (by omega) ?_; intro v3 w3 hb3; have HB3 := Lib.hid hb3; clear hb3))
        go_roundg (ts.length - (k + 1))
        case measure => omega
        case rel => exact ⟨k + 1, by omega, rfl, by go_num, by rw [HN.out]; exact HB3.out⟩
      | true =>
        rw [hv] at HV
        rw [wrF_yes hv] at HN
        have hvp := valid_parts hv
        have hfl := hvp.2.2
        have htl := txF_len hfl
        have HA := Lib.hid fun (v' : Value) W (h : Buf w.heap.size w W v' (wAllG ((ts.take k).map T.form))) => appendForm_T w.heap.size ts[k] v' (wAllG ((ts.take k).map T.form)) W (hin0.below h.below) (fun b hb => hin0.lt hb) h.back (HT.out.on h.below) hfl (by omega)
        have hlen2 : (wAllG ((ts.take k).map T.form) ++ txF ts[k].form).length ≤ 1100000000 := by
          have := hvp.1
          rw [List.length_append]; omega
        clear hv hink hvp hfl htl
        go_wp2_with (first
          | (go_at_call 18; refine (HV.out _ (HBK.out.alloc _).below).mono ?_; rintro e w2 ⟨rfl, hB⟩; obtain ⟨c0, c1, c2, c3⟩ := Box4.cells (w := w2) (b := wr.heap.size) (t := ts[k]) ((hB.block _ (by simp)).trans (heap_alloc_new wr _)); have HB2 := Lib.hid ((HBK.out.alloc _).next hB); clear hB)
          | (go_at_call 41; refine (HA.out _ _ HB2.out).mono ?_; rintro e w3 ⟨v3, rfl, hb3⟩; have HB3 := Lib.hid (HB2.out.trans hb3); clear hb3)
          | (at_builtin; refine buf_bytes rfl _ _ 55 rfl Tryd.underlying55 rfl HB3.out [10] _ (by simp [bytesV]) 1 rfl 1 _ rfl (by simp) (by omega) ?_; intro v4 w4 hb4; have HB4 := Lib.hid hb4; clear hb4))
        go_roundg (ts.length - (k + 1))
        case measure => omega
        case rel => exact ⟨k + 1, by omega, rfl, by go_num, by rw [HN.out, ← List.append_assoc]; exact HB4.out⟩
    · have hcv := conv_buf HBK.out
      rw [HE.out k (by omega)] at hcv
      go_wp2_with fail
      go_ret
      exact ⟨rfl, HBK.out.below⟩
end Go.Proofs.YtkcckhchlhmhhaaDoor
