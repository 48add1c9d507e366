/- The document's own text of a form, and Write. -/
import Derived.Test.YtdehkgflokeodaaGreatDoorRef3
import Derived.Test.YtdehkgflokeodaaGreatDoorWrite
import Derived.Laws.OwnMore
import Derived.Laws.Concat
namespace Go.Proofs.YtdehkgflokeodaaGreatDoor
open Go.RowKit Go.Deep

theorem itoa_any (n : Int) (h : I64 n) (w : World) (ht : Tab w.heap.size w) :
    Calls Tryz.prog 95 #[.int .i64 n] w fun e w' => e = .returned (.string ⟨(Lib.itoa n).toArray⟩) ∧ Below w.heap.size w w' :=
  (Tryz.strconv_Itoa n h.1 h.2 w (Lib.TabBelow.here ht)).mono fun e w' ⟨he, k, os, hw⟩ => ⟨he, by rw [hw]; exact Lib.below_grow _ _ (Nat.le_refl _) _ _⟩
/-- What a slice that was just laid owns. -/
theorem Buf.lit (w : World) (l : List UInt8) (cs : Array Value) (h : cs.toList = bytesV l) (n : Nat) (hn : l.length = n) (hm : n ≤ 1000000) : Buf w.heap.size w (w.alloc (.cells cs 5)) (.slice (some ⟨w.heap.size, 0, none⟩) n n) l := by
  have hs : cs.size = n * 1 := by
    have := congrArg List.length h
    simp [bytesV] at this
    omega
  have := World.ownsRow_lit (e := 5) (base := w.heap.size) (size := 1) w cs n (Nat.le_refl _) (by unfold maxLen; omega) hs
  rw [h] at this
  exact ⟨by rw [hn]; exact this, bel1 _ _, (Lib.OthersKept.refl _ _ _).alloc _, by simp⟩
theorem ret_bytes {a b : List UInt8} (h : a = b) : Ending.returned (.string ⟨a.toArray⟩) = .returned (.string ⟨b.toArray⟩) := by rw [h]
theorem esc_next0 {s : ByteArray} {k : Nat} (h : k < s.size) {x : List UInt8} (hx : escB s[k] = x) : escL (s.data.toList.take k) ++ x = escL (s.data.toList.take (k + 1)) := by
  rw [take_byte s k h, escL_snoc, hx]
theorem esc_small0 (s : ByteArray) (k : Nat) (hs : s.size ≤ 2000) : (escL (s.data.toList.take k)).length ≤ 10000 := by
  have h1 := escL_len (s.data.toList.take k)
  have h2 : (s.data.toList.take k).length ≤ s.data.toList.length := List.length_take_le' _ _
  have e : s.data.toList.length = s.size := by simp
  omega
set_option maxHeartbeats 4000000 in
set_option maxRecDepth 100000 in
theorem rtxt_any (n : Nat) : ∀ t : T, SizeOf.sizeOf t < n → ∀ w, In w t → Tab w.heap.size w → fieldsF t.form = true → szF t.form ≤ 20000 →
    Calls Tryz.prog 62 #[t.val] w fun e w' => e = .returned (.string ⟨(txF t.form).toArray⟩) ∧ Below w.heap.size w w' := by
  induction n with
  | zero => intro t h; omega
  | succ n ih =>
    intro t hn w hin htab hf hsz
    have HF := Lib.hid hf
    have HT := Lib.hid htab
    have HI := Lib.hid hin
    rw [fieldsF_eq, Bool.and_eq_true] at hf
    have hal := alone_cases hf.1
    have htx := txF_eq t.form
    simp only [T.form_kd, T.form_nn, T.form_tx] at hal htx
    by_cases k0 : t.kd = 0
    · rw [if_pos k0] at htx
      have b0 : (t.kd == 0) = true := by simpa using k0
      have HX := Lib.hid htx
      have HA := Lib.hid fun (W : World) (h2 : Tab W.heap.size W) => itoa_any t.nn hin.ok.nn W h2
      clear hal ih k0 hf htab hin htx
      go_enter Tryz.func62, Tryz.ntmps62
      go_wp2_with (go_at_call 95; refine (HA.out _ (HT.out.next (bel1 _ _))).mono ?_; rintro e w2 ⟨rfl, hB⟩; have HB := Lib.hid (up (bel1 _ _) hB); clear hB)
      go_ret
      exact ⟨ret_bytes HX.out.symm, HB.out⟩
    · rw [if_neg k0] at htx
      have b0 : (t.kd == 0) = false := by simpa using k0
      by_cases k1 : t.kd = 1
      · rw [if_pos k1] at htx
        have b1 : (t.kd == 1) = true := by simpa using k1
        have HX := Lib.hid htx
        clear hal ih k0 k1 hf htab hin htx
        go_enter Tryz.func62, Tryz.ntmps62
        go_wp2_with fail
        go_ret
        exact ⟨ret_str (by rw [HX.out]), bel1 _ _⟩
      · rw [if_neg k1] at htx
        have b1 : (t.kd == 1) = false := by simpa using k1
        by_cases k2 : t.kd = 2
        · rw [if_pos k2] at htx
          have b2 : (t.kd == 2) = true := by simpa using k2
          have hw : t.tx.size ≤ 2000 := by
            rcases hal with h | h | h | h
            · omega
            · omega
            · exact text_size h.2.2.2
            · omega
          have HX := Lib.hid htx
          have K0 := Lib.hid (Boxed.start w t)
          clear hal ih k0 k1 k2 hf htab hin htx
          go_enter Tryz.func62, Tryz.ntmps62
          go_wp2_with fail
          go_loopg [3, 4] (t.tx.size) (fun m b i wr => ∃ k : Nat, k ≤ t.tx.size ∧ m = t.tx.size - k ∧ i = .int .i64 k ∧ Buf (w.heap.size + 1) (w.alloc (.cells #[.int .i64 t.kd, .int .i64 t.nn, .string t.tx, .slice t.ad t.ks.length t.cp] 29)) wr b (escL (t.tx.data.toList.take k)))
          case atStart => exact ⟨0, by omega, rfl, rfl, by simpa [escL] using Buf.start (B := w.heap.size + 1) (w := w.alloc (.cells #[.int .i64 t.kd, .int .i64 t.nn, .string t.tx, .slice t.ad t.ks.length t.cp] 29)) (by simp)⟩
          case round =>
            obtain ⟨k, hk, rfl, rfl, hbk⟩ := hrel
            obtain ⟨c0, c1, c2, c3⟩ := Box4.cells (w := wr) (b := w.heap.size) (t := t) ((hbk.below.block _ (by omega)).trans K0.out.1)
            have HBK := Lib.hid hbk
            have hlen := esc_small0 t.tx k hw
            clear hbk
            by_cases hlt : k < t.tx.size
            · by_cases b10 : t.tx[k].toNat = 10
              · have g10 : ((t.tx[k].toNat : Int) == 10) = true := by simp; omega
                have HX := Lib.hid (esc_next0 hlt (x := [92, 110]) (by unfold escB; rw [if_neg (by omega), if_pos b10]))
                clear b10
                go_wp2_with (at_builtin; refine buf_bytes rfl _ _ 46 rfl Tryz.underlying46 rfl HBK.out [92, 110] _ (by simp [bytesV]) 2 rfl 2 _ rfl (by simp) (by omega) ?_; intro v2 w2 hb2; have HB2 := Lib.hid hb2; clear hb2)
                go_roundg (t.tx.size - (k + 1))
                case measure => omega
                case rel => exact ⟨k + 1, by omega, rfl, by go_num, by rw [← HX.out]; exact HB2.out⟩
              · have g10 : ((t.tx[k].toNat : Int) == 10) = false := by simp; omega
                by_cases b34 : t.tx[k].toNat = 34
                · have g34 : ((t.tx[k].toNat : Int) == 34) = true := by simp; omega
                  have HX := Lib.hid (esc_next0 hlt (x := [92, t.tx[k]]) (by unfold escB; rw [if_pos (.inl b34)]))
                  clear b10 b34
                  go_wp2_with (at_builtin; refine buf_bytes rfl _ _ 46 rfl Tryz.underlying46 rfl HBK.out [92, t.tx[k]] _ (by simp [bytesV]) 2 rfl 2 _ rfl (by simp) (by omega) ?_; intro v2 w2 hb2; have HB2 := Lib.hid hb2; clear hb2)
                  go_roundg (t.tx.size - (k + 1))
                  case measure => omega
                  case rel => exact ⟨k + 1, by omega, rfl, by go_num, by rw [← HX.out]; exact HB2.out⟩
                · have g34 : ((t.tx[k].toNat : Int) == 34) = false := by simp; omega
                  by_cases b92 : t.tx[k].toNat = 92
                  · have g92 : ((t.tx[k].toNat : Int) == 92) = true := by simp; omega
                    have HX := Lib.hid (esc_next0 hlt (x := [92, t.tx[k]]) (by unfold escB; rw [if_pos (.inr b92)]))
                    clear b10 b34 b92
                    go_wp2_with (at_builtin; refine buf_bytes rfl _ _ 46 rfl Tryz.underlying46 rfl HBK.out [92, t.tx[k]] _ (by simp [bytesV]) 2 rfl 2 _ rfl (by simp) (by omega) ?_; intro v2 w2 hb2; have HB2 := Lib.hid hb2; clear hb2)
                    go_roundg (t.tx.size - (k + 1))
                    case measure => omega
                    case rel => exact ⟨k + 1, by omega, rfl, by go_num, by rw [← HX.out]; exact HB2.out⟩
                  · have g92 : ((t.tx[k].toNat : Int) == 92) = false := by simp; omega
                    have HX := Lib.hid (esc_next0 hlt (x := [t.tx[k]]) (by unfold escB; rw [if_neg (by omega), if_neg b10]))
                    clear b10 b34 b92
                    go_wp2_with (at_builtin; refine buf_bytes rfl _ _ 46 rfl Tryz.underlying46 rfl HBK.out [t.tx[k]] _ (by simp [bytesV]) 1 rfl 1 _ rfl (by simp) (by omega) ?_; intro v2 w2 hb2; have HB2 := Lib.hid hb2; clear hb2)
                    go_roundg (t.tx.size - (k + 1))
                    case measure => omega
                    case rel => exact ⟨k + 1, by omega, rfl, by go_num, by rw [← HX.out]; exact HB2.out⟩
            · have he : t.tx.data.toList.take k = t.tx.data.toList := List.take_of_length_le (by simp; omega)
              rw [he] at HBK hlen
              obtain ⟨d, hd⟩ : ∃ d : ByteArray, d = ⟨(escL t.tx.data.toList).toArray⟩ := ⟨_, rfl⟩
              have hcv := conv_buf HBK.out
              rw [← hd] at hcv
              have hds : d.size ≤ 10000 := by rw [hd]; show (escL t.tx.data.toList).toArray.size ≤ 10000; simpa using hlen
              have HD := Lib.hid hd
              clear he hd
              go_wp2_with fail
              go_ret
              exact ⟨ret_str (by rw [HX.out, HD.out]; apply ByteArray.ext; simp [quoL]), (K0.out.2.trans (HBK.out.below.mono (by omega)))⟩
        · rw [if_neg k2] at htx
          have b2 : (t.kd == 2) = false := by simpa using k2
          have k3 : t.kd = 3 := by
            rcases hal with h | h | h | h
            · omega
            · omega
            · omega
            · exact h.1
          have hks : t.form.kids = t.ks.map T.form := by unfold Fm.kids; rw [T.form_kd, if_pos k3, T.form_ks]
          have hfk : ∀ x ∈ t.ks, fieldsF x.form = true := fun x hx => fieldsL_mem hf.2 (by rw [hks]; exact List.mem_map_of_mem hx)
          have hszl : szF t.form = 1 + szL (t.ks.map T.form) := by rw [szF_eq, hks]
          rw [hszl] at hsz
          have n1 := Nat.le_trans hin.ok.le hin.ok.cp
          unfold maxLen at n1
          have HFK := Lib.hid hfk
          have IH := Lib.hid ih
          obtain ⟨a, ha⟩ : ∃ a, t.ad = a := ⟨_, rfl⟩
          have HK : Hid (∀ W, Below w.heap.size w W → InL W a 0 t.ks) := Lib.hid fun W h => by rw [← ha]; exact (hin.below h).inL
          have HAD := Lib.hid ha
          have HD := Lib.hid fun (k : Nat) (h : t.ks.length ≤ k) => upTo_done [] t k h k0 k1 k2
          have HL : Hid (∀ k, k ≤ t.ks.length → (upTo [] t.ks k).length ≤ 1 + 4010 * szL ((t.ks.map T.form).take k)) := Lib.hid fun k _ => by
            have := joinB_take t.ks k hfk
            rw [← List.map_take]
            simp only [upTo, List.length_append, List.length_cons, List.length_nil]
            omega
          have HS : Hid (∀ k (h : k < t.ks.length), szL ((t.ks.map T.form).take k) + szF t.ks[k].form ≤ szL (t.ks.map T.form)) := Lib.hid fun k h => by
            have := szL_take_le (t.ks.map T.form) k (by simpa using h)
            simpa using this
          have HS2 : Hid (∀ k, szL ((t.ks.map T.form).take k) ≤ szL (t.ks.map T.form)) := Lib.hid fun k => szL_takes _ _
          have K0 := Lib.hid (Boxed.start w t)
          have KL := Lib.hid (Buf.lit (w.alloc (.cells #[.int .i64 t.kd, .int .i64 t.nn, .string t.tx, .slice t.ad t.ks.length t.cp] 29)) [40] #[.int .u8 40] (by simp [bytesV]) 1 rfl (by omega))
          rw [show (w.alloc (.cells #[.int .i64 t.kd, .int .i64 t.nn, .string t.tx, .slice t.ad t.ks.length t.cp] 29)).heap.size = w.heap.size + 1 by simp] at KL
          clear hal ih k0 k1 k2 k3 hf htab hks hfk hin htx ha hszl
          go_enter Tryz.func62, Tryz.ntmps62
          go_wp2_with fail
          go_loopg [6, 7] (t.ks.length) (fun m b i wr => ∃ k : Nat, k ≤ t.ks.length ∧ m = t.ks.length - k ∧ i = .int .i64 k ∧ Buf (w.heap.size + 1) (w.alloc (.cells #[.int .i64 t.kd, .int .i64 t.nn, .string t.tx, .slice t.ad t.ks.length t.cp] 29)) wr b (upTo [] t.ks k))
          case atStart => exact ⟨0, by omega, rfl, rfl, by simpa [upTo, joinB] using KL.out⟩
          case round =>
            obtain ⟨k, hk, rfl, rfl, hbk⟩ := hrel
            have hbw : Below w.heap.size w wr := K0.out.2.trans (hbk.below.mono (by omega))
            obtain ⟨c0, c1, c2, c3⟩ := box_cells (W := wr) (K := w.heap.size) (t := t) ((hbk.below.block _ (by omega)).trans K0.out.1) HAD.out
            have HBW := Lib.hid hbw
            have HBK := Lib.hid hbk
            have hlk := HL.out k hk
            have hs2 := HS2.out k
            clear hbk hbw
            by_cases hlt : k < t.ks.length
            · have hsk := HS.out k hlt
              obtain ⟨⟨b, o, rfl, hx0, hx1, hx2, hx3⟩, hink⟩ := (HK.out _ HBW.out).at k hlt
              have HX := Lib.hid (upTo_next [] t.ks k hlt)
              have hmk := List.getElem_mem hlt
              have HR := Lib.hid fun (W : World) (h : Below w.heap.size w W) => IH.out t.ks[k] (by have := T.kid_lt hmk; omega) W ((HK.out _ h).at k hlt).2 (Tab.mono (HT.out.on h) h.size) (HFK.out _ hmk) (by omega)
              have hxl := txF_len (HFK.out _ hmk)
              obtain ⟨d, hd⟩ : ∃ d : ByteArray, d = ⟨(txF t.ks[k].form).toArray⟩ := ⟨_, rfl⟩
              have hdl : d.data.toList = txF t.ks[k].form := by rw [hd]
              have hds : d.size ≤ 4010 * szF t.ks[k].form := by
                have e : d.size = d.data.toList.length := by simp
                rw [e, hdl]; omega
              rw [← hd] at HR
              have HDL := Lib.hid hdl
              have lb : b < wr.heap.size := World.block_lt_of_cell? _ _ hx0
              clear hink hd hdl hxl
              by_cases hk0 : k = 0
              · subst hk0
                rw [if_pos rfl] at HX
                simp only [List.nil_append] at HX
                simp only [Nat.zero_mul, Nat.add_zero] at hx0 hx1 hx2 hx3
                go_wp2_with (first
                  | (go_at_call 62; refine (HR.out _ HBW.out).mono ?_; rintro e w2 ⟨rfl, hB⟩; have HB := Lib.hid hB; clear hB)
                  | (at_builtin; refine buf_text rfl _ _ 46 9 rfl Tryz.underlying46 Tryz.underlying9 rfl (HBK.out.next HB.out) d rfl (by omega) ?_; intro v3 w3 hb3; have HB3 := Lib.hid hb3; clear hb3))
                go_roundg (t.ks.length - 1)
                case measure => omega
                case rel => exact ⟨1, by omega, rfl, by go_num, by rw [HX.out, ← HDL.out]; exact HB3.out⟩
              · rw [if_neg hk0] at HX
                have hkp : (0 : Int) < (k : Int) := by omega
                go_wp2_with (first
                  | (at_builtin; refine buf_bytes rfl (.tmp 63) (.tmp 64) 46 rfl Tryz.underlying46 rfl HBK.out [32] _ (by simp [bytesV]) 1 rfl 1 _ rfl (by simp) (by omega) ?_; intro v1 w1 hb1; have HBM := Lib.hid hb1; have HBW1 := Lib.hid (show Below w.heap.size w w1 from K0.out.2.trans (hb1.below.mono (by omega))); obtain ⟨c0, c1, c2, c3⟩ := box_cells (W := w1) (K := w.heap.size) (t := t) ((hb1.below.block _ (by omega)).trans K0.out.1) HAD.out; obtain ⟨⟨b', o', hbo, y0, y1, y2, y3⟩, _⟩ := (HK.out _ HBW1.out).at k hlt; injection hbo with hbo; injection hbo with hb' ho' _; subst hb' ho'; clear hb1)
                  | (go_at_call 62; refine (HR.out _ HBW1.out).mono ?_; rintro e w2 ⟨rfl, hB⟩; have HB := Lib.hid hB; clear hB)
                  | (at_builtin; refine buf_text rfl (.tmp 66) (.tmp 72) 46 9 rfl Tryz.underlying46 Tryz.underlying9 rfl (HBM.out.next HB.out) d rfl (by simp only [List.length_append, List.length_cons, List.length_nil]; omega) ?_; intro v3 w3 hb3; have HB3 := Lib.hid hb3; clear hb3))
                go_roundg (t.ks.length - (k + 1))
                case measure => omega
                case rel => exact ⟨k + 1, by omega, rfl, by go_num, by rw [HX.out, ← List.append_assoc, ← HDL.out]; exact HB3.out⟩
            · have HX := Lib.hid (HD.out k (by omega))
              go_wp2_with (at_builtin; refine buf_bytes rfl _ _ 46 rfl Tryz.underlying46 rfl HBK.out [41] _ (by simp [bytesV]) 1 rfl 1 _ rfl (by simp) (by omega) ?_; intro v2 w2 hb2; have hcv := conv_buf hb2; have HB2 := Lib.hid hb2; clear hb2)
              go_ret
              exact ⟨ret_bytes (by rw [HX.out]; rfl), K0.out.2.trans (HB2.out.below.mono (by omega))⟩
theorem rtxt_T (t : T) (w : World) (hin : In w t) (ht : Tab w.heap.size w) (hf : fieldsF t.form = true) (hs : szF t.form ≤ 20000) :
    Calls Tryz.prog 62 #[t.val] w fun e w' => e = .returned (.string ⟨(txF t.form).toArray⟩) ∧ Below w.heap.size w w' := rtxt_any _ t (Nat.lt_succ_self _) w hin ht hf hs
set_option maxHeartbeats 1000000 in
theorem rwrite_any (t : T) (w : World) (hin : In w t) (hb : szF t.form ≤ 4611686018427387903) (ht : Tab w.heap.size w) :
    Calls Tryz.prog 32 #[t.val] w fun e w' => e = .returned (.string ⟨(wrF t.form).toArray⟩) ∧ Below w.heap.size w w' := by
  have HV := Lib.hid fun W (h : In W t) => rvalid_any t W h hb
  cases hv : validF t.form with
  | false =>
    rw [wrF_no hv]
    rw [hv] at HV
    clear hv
    go_enter Tryz.func32, Tryz.ntmps32
    go_wp2_with (go_at_call 46; refine (HV.out _ (hin.alloc _)).mono ?_; rintro e w2 ⟨rfl, hB⟩)
    go_ret
    exact ⟨rfl, up (bel1 _ _) hB⟩
  | true =>
    rw [wrF_yes hv]
    obtain ⟨h1, _, h3⟩ := valid_parts hv
    have HA := Lib.hid fun W (h : In W t) (h2 : Tab W.heap.size W) => rtxt_T t W h h2 h3 h1
    rw [hv] at HV
    have HI := Lib.hid hin
    have HT := Lib.hid ht
    clear hv h3 hin ht
    go_enter Tryz.func32, Tryz.ntmps32
    go_wp2_with (first
      | (go_at_call 46; refine (HV.out _ (HI.out.alloc _)).mono ?_; rintro e w2 ⟨rfl, hB⟩; obtain ⟨c0, c1, c2, c3⟩ := Box4.cells (w := w2) (b := w.heap.size) (t := t) ((hB.block _ (by simp)).trans (heap_alloc_new w _)); have HB := Lib.hid (up (bel1 _ _) hB); clear hB)
      | (go_at_call 62; refine (HA.out _ (HI.out.below HB.out) (HT.out.next HB.out)).mono ?_; rintro e w3 ⟨rfl, hB⟩; have HB3 := Lib.hid (up HB.out hB); clear hB))
    go_ret
    exact ⟨rfl, HB3.out⟩
end Go.Proofs.YtdehkgflokeodaaGreatDoor
