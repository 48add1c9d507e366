/- The document's own reader's token. -/
import Derived.Test.YtedabholcldgbaaGreatDoorQPut
import Derived.Test.YtedabholcldgbaaGreatDoorQNumW
import Derived.Test.YtedabholcldgbaaGreatDoorRef2
namespace Go.Proofs.YtedabholcldgbaaGreatDoor.Q
open Go.RowKit Go.Deep

theorem word_any (s : ByteArray) (w : World) : Calls Tryz.prog 154 #[.string s] w fun e w' => e = .returned (.agg #[.int .i64 1, .int .i64 0, .string s, .slice none 0 0]) ∧ Below w.heap.size w w' := by
  go_enter Tryz.func154, Tryz.ntmps154
  go_wp2_with fail
  refine bodyPost_ret (v := .agg #[.int .i64 1, .int .i64 0, .string s, .slice none 0 0]) (by simp [results, Tryz.results154, go_sem]) rfl ⟨rfl, ?_⟩
  first
    | exact bel1 _ _
    | exact below_lay4 (bel1 _ _) (Nat.le_refl _) _ _ _ _
theorem num_any (n : Int) (w : World) : Calls Tryz.prog 156 #[.int .i64 n] w fun e w' => e = .returned (.agg #[.int .i64 0, .int .i64 n, .string ⟨#[]⟩, .slice none 0 0]) ∧ Below w.heap.size w w' := by
  go_enter Tryz.func156, Tryz.ntmps156
  go_wp2_with fail
  refine bodyPost_ret (v := .agg #[.int .i64 0, .int .i64 n, .string ⟨#[]⟩, .slice none 0 0]) (by simp [results, Tryz.results156, go_sem]) rfl ⟨rfl, ?_⟩
  first
    | exact bel1 _ _
    | exact below_lay4 (bel1 _ _) (Nat.le_refl _) _ _ _ _
theorem magR_le : ∀ (l : List UInt8) (acc u : Nat), magR acc l = some u → u ≤ 1152921504606846976
  | [], acc, u, h => by
    rw [magR] at h
    split at h
    · injection h with h; omega
    · cases h
  | c :: r, acc, u, h => by
    rw [magR] at h
    split at h
    · cases h
    · exact magR_le r _ u h
theorem numV_i64 (d : ByteArray) : I64 (numV d).1 := by
  unfold numV I64
  split
  · simp
  · split
    · rename_i u hu
      have := magR_le _ _ _ hu
      simp only
      split <;> omega
    · simp
/-- The reader's block bears the error c. -/
def Bad (w : World) (R : Nat) (s : ByteArray) (c : Int) : Prop := ∃ (at' : Int) (ov' : Value) (nr : Bool), w.heap[R]? = some (.cells #[.string s, .int .i64 at', ov', .bool nr, .int .i64 c] 103 (0, 0))
theorem Scan.bad {base : Nat} {w : World} {R : Nat} {s : ByteArray} {pos : Nat} {ov : Value} {L : List Lv} {b : Bool} {c : Int} (h : Scan base w R s pos ov L (b, c)) : Bad w R s c := ⟨pos, ov, b, h.blk⟩
theorem Bad.near {w : World} {R : Nat} {s : ByteArray} {c : Int} (h : Bad w R s c) (b : Bool) : Bad (w.setCell ⟨R, 3, none⟩ (.bool b)) R s c := by
  obtain ⟨a, o, n, h⟩ := h
  exact ⟨a, o, b, heap_setCell_same w R 3 _ _ _ h⟩
/-- How the reading of a token ends. -/
def TokQ (base : Nat) (w w' : World) (R : Nat) (s : ByteArray) (pos : Nat) (ov : Value) (L : List Lv) (ts : List T) (nb : Bool) : Prop :=
  match tokenR (spanB tokB s pos) with
  | .err c => Bad w' R s c ∧ Below base w w'
  | .form k n t => Added base w w' R s (pos + (spanB tokB s pos).size) ov L (ts ++ [T.leaf k n t]) (nb, 0)
theorem tokQ_err {base : Nat} {w w2 w' : World} {R : Nat} {s d : ByteArray} {pos q : Nat} {ov : Value} {L : List Lv} {ts us : List T} {nb : Bool} {c : Int} (hd : spanB tokB s pos = d) (ht : tokenR d = .err c) (hb : Below base w w2) (ha : Added base w2 w' R s q ov L us (nb, c)) : TokQ base w w' R s pos ov L ts nb := by
  unfold TokQ
  rw [hd, ht]
  obtain ⟨hB, v', hS⟩ := ha
  exact ⟨hS.bad, hb.trans hB⟩
theorem tokQ_form {base : Nat} {w w2 w' : World} {R : Nat} {s d : ByteArray} {pos q : Nat} {ov : Value} {L : List Lv} {ts : List T} {nb : Bool} {k n : Int} {t : ByteArray} (hd : spanB tokB s pos = d) (ht : tokenR d = .form k n t) (hb : Below base w w2) (hq : q = pos + d.size) (ha : Added base w2 w' R s q ov L (ts ++ [T.leaf k n t]) (nb, 0)) : TokQ base w w' R s pos ov L ts nb := by
  unfold TokQ
  rw [hd, ht]
  subst hq
  exact ⟨hb.trans ha.1, ha.2⟩
theorem extract_span {s : ByteArray} {pos q : Nat} {p : Int → Bool} (hh : Held p s pos q) (hend : ∀ hq : q < s.size, p (s[q].toNat : Int) = false) : s.extract pos q = spanB p s pos ∧ q = pos + (spanB p s pos).size := by
  have hsp := hh.span hend
  have e : (s.extract pos q).data.toList = spanL p (s.data.toList.drop pos) := by
    rw [hsp.1]; simp [ByteArray.data_extract, Array.toList_extract, List.extract_eq_take_drop]
  refine ⟨?_, ?_⟩
  · generalize s.extract pos q = d at *
    cases d with
    | mk a => cases a with
      | mk l => simp only at e; rw [e]; rfl
  · rw [spanB_size, hsp.2]; have := hh.1; omega
theorem span_small {s : ByteArray} {p : Int → Bool} {pos : Nat} (hs : s.size ≤ 60000) : (spanB p s pos).size ≤ 60000 := by
  rw [spanB_size]
  have h1 : (spanL p (s.data.toList.drop pos)).length ≤ (s.data.toList.drop pos).length := List.Sublist.length_le (List.takeWhile_sublist _)
  have h2 : s.data.toList.length = s.size := by simp
  rw [List.length_drop] at h1
  omega

set_option maxHeartbeats 8000000 in
set_option maxRecDepth 100000 in
theorem token_any (base : Nat) (w : World) (R : Nat) (s : ByteArray) (pos : Nat) (ov : Value) (L : List Lv) (v : Value) (ts : List T) (nb : Bool)
    (h : Scan base w R s pos ov (L ++ [(v, ts)]) (nb, 0)) (hpos : pos ≤ s.size) (hs : s.size ≤ 60000) (hlen : ts.length + L.length ≤ 1000000) :
    Calls Tryz.prog 129 #[.pointer (some ⟨R, 0, none⟩)] w fun e w' => e = .returned (.tuple #[]) ∧ TokQ base w w' R s pos ov L ts nb := by
  have hsz := span_small (p := tokB) (pos := pos) hs
  obtain ⟨d, hd⟩ : ∃ d, spanB tokB s pos = d := ⟨_, rfl⟩
  have HD := Lib.hid hd
  rw [hd] at hsz
  have hm : d.size ≤ maxLen := by unfold maxLen; omega
  have HG := Lib.hid (digits_any d hm)
  have HW := Lib.hid (word_any d)
  have hz := hsz
  obtain ⟨c0, c1, c2, c3, c4, f1, f2, f3, f4⟩ := h.cells
  have H := Lib.hid h
  have hbR := h.hR
  have hbw := h.hw
  have HX : Hid (∀ q, Held tokB s pos q → (∀ hq : q < s.size, tokB (s[q].toNat : Int) = false) → s.extract pos q = d ∧ q = pos + d.size) := Lib.hid fun q h1 h2 => by have := extract_span h1 h2; rw [hd] at this; exact this
  have HP : Hid (∀ (k n : Int) (t : ByteArray) (q : Nat) (c : Int) W, I64 k → I64 n → t.size ≤ maxLen → Scan base W R s q ov (L ++ [(v, ts)]) (nb, c) → Calls Tryz.prog 126 #[.pointer (some ⟨R, 0, none⟩), .agg #[.int .i64 k, .int .i64 n, .string t, .slice none 0 0]] W
      fun e w' => e = .returned (.tuple #[]) ∧ Added base W w' R s q ov L (ts ++ [T.leaf k n t]) (nb, c)) :=
    Lib.hid fun k n t q c W o1 o2 o3 hS => put_any base W R s q ov L v ts (nb, c) (T.leaf k n t) hS (leaf_in W k n t o1 o2 o3) (fun b hb => absurd hb (leaf_on k n t b)) (fun b hb => absurd hb (leaf_on k n t b)) hlen
  clear h hd hlen
  cases hn : numB d with
  | false =>
    rw [hn] at HG
    by_cases h30 : 30 < d.size
    · have HT : Hid (tokenR d = .err 4) := Lib.hid (by unfold tokenR; rw [if_pos hn, if_pos h30])
      have g30 : (30 : Int) < (d.size : Int) := by omega
      clear hn h30
      go_enter Tryz.func129, Tryz.ntmps129
      go_wp2_with fail
      clear c0 c1 c2 c3 c4 f1 f2 f3 f4
      go_loopg [] (s.size - pos) (fun m wr => ∃ q : Nat, m = s.size - q ∧ Held tokB s pos q ∧ Scan base wr R s q ov (L ++ [(v, ts)]) (nb, 0) ∧ Below base w wr)
      case atStart => exact ⟨pos, rfl, ⟨Nat.le_refl _, hpos, fun j _ h1 h2 => absurd h1 (by omega)⟩, H.out, Below.refl _ _⟩
      case round =>
        obtain ⟨q, rfl, hh, hS, hB⟩ := hrel
        obtain ⟨c0, c1, c2, c3, c4, f1, f2, f3, f4⟩ := hS.cells
        have HS := Lib.hid hS
        have HB := Lib.hid hB
        have HH := Lib.hid hh
        have hq1 := hh.1
        have hq2 := hh.2.1
        have hq3 : (0 : Int) ≤ (q : Int) := by omega
        clear hS hB hh c2 c3 f2 f3
        by_cases hlt : q < s.size
        · have hP := visible_ok (s[q].toNat : Int)
          have hq4 : (q : Int) < (s.size : Int) := by omega
          have hdq : decide (q < s.size) = true := by simpa using hlt
          cases hp : tokB (s[q].toNat : Int) with
          | true =>
            rw [hp] at hP
            have HP1 := Lib.hid hP
            have HST := Lib.hid (HH.out.step hlt hp)
            clear hp hP
            go_wp2_with fail
            go_quiet ((go_at_call 128; exact Calls.quiet_of_same ((HP1.out _).mono fun _ _ ⟨he, hw⟩ => ⟨he, hw.symm⟩)))
            go_wp2_with fail
            go_roundg (s.size - (q + 1))
            case measure => omega
            case rel => exact ⟨q + 1, rfl, HST.out, (HS.out.setPos (q + 1)).drewN nq, below_drewN (below_setR HB.out hbR _) _⟩
          | false =>
            rw [hp] at hP
            have HP1 := Lib.hid hP
            have HE := Lib.hid (HX.out q HH.out fun _ => hp)
            clear hp hP
            go_wp2_with fail
            go_quiet ((go_at_call 128; exact Calls.quiet_of_same ((HP1.out _).mono fun _ _ ⟨he, hw⟩ => ⟨he, hw.symm⟩)))
            have hp0 : (0 : Int) ≤ (pos : Int) := by omega
            have hp1 : (pos : Int) ≤ (q : Int) := by omega
            have hp2 : (q : Int) ≤ (s.size : Int) := by omega
            go_wp2_with fail
            go_quiet (fail)
            rw [HE.out.1]
            go_wp2_with (first
              | (go_at_call 141; refine (HG.out _).mono ?_; rintro e w2 ⟨rfl, rfl⟩)
              | (go_at_call 154; refine (HW.out _).mono ?_; rintro e w3 ⟨rfl, hB3⟩; have HS3 : Hid (Scan base w3 R s q ov (L ++ [(v, ts)]) (nb, 4)) := Lib.hid (Scan.below (by (first | exact (HS.out.drewN _) | exact ((HS.out.drewN _).drewN _) | exact (HS.out.drewN _).setE 4 | exact ((HS.out.drewN _).drewN _).setE 4 | exact ((HS.out.setE 4).drewN _) | exact ((HS.out.setE 4).drewN _).drewN _)) hB3); have HB3 : Hid (Below base w w3) := Lib.hid (upB (by (first | exact below_drewN HB.out _ | exact below_drewN (below_drewN HB.out _) _ | exact below_setR (below_drewN HB.out _) hbR _ | exact below_setR (below_drewN (below_drewN HB.out _) _) hbR _ | exact below_drewN (below_setR HB.out hbR _) _ | exact below_drewN (below_drewN (below_setR HB.out hbR _) _) _)) hB3 hbw); clear hB3)
              | (go_at_call 126; refine (HP.out 1 0 d q 4 _ (by unfold I64; omega) (by unfold I64; omega) hm HS3.out).mono ?_; rintro e w4 ⟨rfl, hA⟩; have HA := Lib.hid hA; clear hA))
            refine bodyPost_ret (results_none (by rfl) _ _ _) rfl ?_
            exact ⟨rfl, tokQ_err HD.out HT.out HB3.out HA.out⟩
        · have hdq : decide (q < s.size) = false := by simpa using hlt
          have HE := Lib.hid (HX.out q HH.out fun hq => absurd hq hlt)
          go_wp2_with fail
          go_quiet (fail)
          have hp0 : (0 : Int) ≤ (pos : Int) := by omega
          have hp1 : (pos : Int) ≤ (q : Int) := by omega
          have hp2 : (q : Int) ≤ (s.size : Int) := by omega
          go_wp2_with fail
          go_quiet (fail)
          rw [HE.out.1]
          go_wp2_with (first
            | (go_at_call 141; refine (HG.out _).mono ?_; rintro e w2 ⟨rfl, rfl⟩)
            | (go_at_call 154; refine (HW.out _).mono ?_; rintro e w3 ⟨rfl, hB3⟩; have HS3 : Hid (Scan base w3 R s q ov (L ++ [(v, ts)]) (nb, 4)) := Lib.hid (Scan.below (by (first | exact (HS.out.drewN _) | exact ((HS.out.drewN _).drewN _) | exact (HS.out.drewN _).setE 4 | exact ((HS.out.drewN _).drewN _).setE 4 | exact ((HS.out.setE 4).drewN _) | exact ((HS.out.setE 4).drewN _).drewN _)) hB3); have HB3 : Hid (Below base w w3) := Lib.hid (upB (by (first | exact below_drewN HB.out _ | exact below_drewN (below_drewN HB.out _) _ | exact below_setR (below_drewN HB.out _) hbR _ | exact below_setR (below_drewN (below_drewN HB.out _) _) hbR _ | exact below_drewN (below_setR HB.out hbR _) _ | exact below_drewN (below_drewN (below_setR HB.out hbR _) _) _)) hB3 hbw); clear hB3)
            | (go_at_call 126; refine (HP.out 1 0 d q 4 _ (by unfold I64; omega) (by unfold I64; omega) hm HS3.out).mono ?_; rintro e w4 ⟨rfl, hA⟩; have HA := Lib.hid hA; clear hA))
          refine bodyPost_ret (results_none (by rfl) _ _ _) rfl ?_
          exact ⟨rfl, tokQ_err HD.out HT.out HB3.out HA.out⟩
    · have HT : Hid (tokenR d = .form 1 0 d) := Lib.hid (by unfold tokenR; rw [if_pos hn, if_neg h30])
      have g30 : ¬ (30 : Int) < (d.size : Int) := by omega
      clear hn h30
      go_enter Tryz.func129, Tryz.ntmps129
      go_wp2_with fail
      clear c0 c1 c2 c3 c4 f1 f2 f3 f4
      go_loopg [] (s.size - pos) (fun m wr => ∃ q : Nat, m = s.size - q ∧ Held tokB s pos q ∧ Scan base wr R s q ov (L ++ [(v, ts)]) (nb, 0) ∧ Below base w wr)
      case atStart => exact ⟨pos, rfl, ⟨Nat.le_refl _, hpos, fun j _ h1 h2 => absurd h1 (by omega)⟩, H.out, Below.refl _ _⟩
      case round =>
        obtain ⟨q, rfl, hh, hS, hB⟩ := hrel
        obtain ⟨c0, c1, c2, c3, c4, f1, f2, f3, f4⟩ := hS.cells
        have HS := Lib.hid hS
        have HB := Lib.hid hB
        have HH := Lib.hid hh
        have hq1 := hh.1
        have hq2 := hh.2.1
        have hq3 : (0 : Int) ≤ (q : Int) := by omega
        clear hS hB hh c2 c3 f2 f3
        by_cases hlt : q < s.size
        · have hP := visible_ok (s[q].toNat : Int)
          have hq4 : (q : Int) < (s.size : Int) := by omega
          have hdq : decide (q < s.size) = true := by simpa using hlt
          cases hp : tokB (s[q].toNat : Int) with
          | true =>
            rw [hp] at hP
            have HP1 := Lib.hid hP
            have HST := Lib.hid (HH.out.step hlt hp)
            clear hp hP
            go_wp2_with fail
            go_quiet ((go_at_call 128; exact Calls.quiet_of_same ((HP1.out _).mono fun _ _ ⟨he, hw⟩ => ⟨he, hw.symm⟩)))
            go_wp2_with fail
            go_roundg (s.size - (q + 1))
            case measure => omega
            case rel => exact ⟨q + 1, rfl, HST.out, (HS.out.setPos (q + 1)).drewN nq, below_drewN (below_setR HB.out hbR _) _⟩
          | false =>
            rw [hp] at hP
            have HP1 := Lib.hid hP
            have HE := Lib.hid (HX.out q HH.out fun _ => hp)
            clear hp hP
            go_wp2_with fail
            go_quiet ((go_at_call 128; exact Calls.quiet_of_same ((HP1.out _).mono fun _ _ ⟨he, hw⟩ => ⟨he, hw.symm⟩)))
            have hp0 : (0 : Int) ≤ (pos : Int) := by omega
            have hp1 : (pos : Int) ≤ (q : Int) := by omega
            have hp2 : (q : Int) ≤ (s.size : Int) := by omega
            go_wp2_with fail
            go_quiet (fail)
            rw [HE.out.1]
            go_wp2_with (first
              | (go_at_call 141; refine (HG.out _).mono ?_; rintro e w2 ⟨rfl, rfl⟩)
              | (go_at_call 154; refine (HW.out _).mono ?_; rintro e w3 ⟨rfl, hB3⟩; have HS3 : Hid (Scan base w3 R s q ov (L ++ [(v, ts)]) (nb, 0)) := Lib.hid (Scan.below (by (first | exact (HS.out.drewN _) | exact ((HS.out.drewN _).drewN _) | exact (HS.out.drewN _).setE 0 | exact ((HS.out.drewN _).drewN _).setE 0 | exact ((HS.out.setE 0).drewN _) | exact ((HS.out.setE 0).drewN _).drewN _)) hB3); have HB3 : Hid (Below base w w3) := Lib.hid (upB (by (first | exact below_drewN HB.out _ | exact below_drewN (below_drewN HB.out _) _ | exact below_setR (below_drewN HB.out _) hbR _ | exact below_setR (below_drewN (below_drewN HB.out _) _) hbR _ | exact below_drewN (below_setR HB.out hbR _) _ | exact below_drewN (below_drewN (below_setR HB.out hbR _) _) _)) hB3 hbw); clear hB3)
              | (go_at_call 126; refine (HP.out 1 0 d q 0 _ (by unfold I64; omega) (by unfold I64; omega) hm HS3.out).mono ?_; rintro e w4 ⟨rfl, hA⟩; have HA := Lib.hid hA; clear hA))
            refine bodyPost_ret (results_none (by rfl) _ _ _) rfl ?_
            exact ⟨rfl, tokQ_form HD.out HT.out HB3.out HE.out.2 HA.out⟩
        · have hdq : decide (q < s.size) = false := by simpa using hlt
          have HE := Lib.hid (HX.out q HH.out fun hq => absurd hq hlt)
          go_wp2_with fail
          go_quiet (fail)
          have hp0 : (0 : Int) ≤ (pos : Int) := by omega
          have hp1 : (pos : Int) ≤ (q : Int) := by omega
          have hp2 : (q : Int) ≤ (s.size : Int) := by omega
          go_wp2_with fail
          go_quiet (fail)
          rw [HE.out.1]
          go_wp2_with (first
            | (go_at_call 141; refine (HG.out _).mono ?_; rintro e w2 ⟨rfl, rfl⟩)
            | (go_at_call 154; refine (HW.out _).mono ?_; rintro e w3 ⟨rfl, hB3⟩; have HS3 : Hid (Scan base w3 R s q ov (L ++ [(v, ts)]) (nb, 0)) := Lib.hid (Scan.below (by (first | exact (HS.out.drewN _) | exact ((HS.out.drewN _).drewN _) | exact (HS.out.drewN _).setE 0 | exact ((HS.out.drewN _).drewN _).setE 0 | exact ((HS.out.setE 0).drewN _) | exact ((HS.out.setE 0).drewN _).drewN _)) hB3); have HB3 : Hid (Below base w w3) := Lib.hid (upB (by (first | exact below_drewN HB.out _ | exact below_drewN (below_drewN HB.out _) _ | exact below_setR (below_drewN HB.out _) hbR _ | exact below_setR (below_drewN (below_drewN HB.out _) _) hbR _ | exact below_drewN (below_setR HB.out hbR _) _ | exact below_drewN (below_drewN (below_setR HB.out hbR _) _) _)) hB3 hbw); clear hB3)
            | (go_at_call 126; refine (HP.out 1 0 d q 0 _ (by unfold I64; omega) (by unfold I64; omega) hm HS3.out).mono ?_; rintro e w4 ⟨rfl, hA⟩; have HA := Lib.hid hA; clear hA))
          refine bodyPost_ret (results_none (by rfl) _ _ _) rfl ?_
          exact ⟨rfl, tokQ_form HD.out HT.out HB3.out HE.out.2 HA.out⟩
  | true =>
    have hnm := number_any d hn hsz
    have htn := token_num hn
    have hi := numV_i64 d
    rw [hn] at HG
    rcases hv : numV d with ⟨n, bf, bt⟩
    rw [hv] at hnm htn hi
    simp only [numVal] at hnm htn hi
    cases bf with
    | false =>
      have HT : Hid (tokenR d = .err 4) := Lib.hid (by rw [htn]; simp)
      have HNM := Lib.hid hnm
      clear hnm htn
      clear hn hv
      go_enter Tryz.func129, Tryz.ntmps129
      go_wp2_with fail
      clear c0 c1 c2 c3 c4 f1 f2 f3 f4
      go_loopg [] (s.size - pos) (fun m wr => ∃ q : Nat, m = s.size - q ∧ Held tokB s pos q ∧ Scan base wr R s q ov (L ++ [(v, ts)]) (nb, 0) ∧ Below base w wr)
      case atStart => exact ⟨pos, rfl, ⟨Nat.le_refl _, hpos, fun j _ h1 h2 => absurd h1 (by omega)⟩, H.out, Below.refl _ _⟩
      case round =>
        obtain ⟨q, rfl, hh, hS, hB⟩ := hrel
        obtain ⟨c0, c1, c2, c3, c4, f1, f2, f3, f4⟩ := hS.cells
        have HS := Lib.hid hS
        have HB := Lib.hid hB
        have HH := Lib.hid hh
        have hq1 := hh.1
        have hq2 := hh.2.1
        have hq3 : (0 : Int) ≤ (q : Int) := by omega
        clear hS hB hh c2 c3 f2 f3
        by_cases hlt : q < s.size
        · have hP := visible_ok (s[q].toNat : Int)
          have hq4 : (q : Int) < (s.size : Int) := by omega
          have hdq : decide (q < s.size) = true := by simpa using hlt
          cases hp : tokB (s[q].toNat : Int) with
          | true =>
            rw [hp] at hP
            have HP1 := Lib.hid hP
            have HST := Lib.hid (HH.out.step hlt hp)
            clear hp hP
            go_wp2_with fail
            go_quiet ((go_at_call 128; exact Calls.quiet_of_same ((HP1.out _).mono fun _ _ ⟨he, hw⟩ => ⟨he, hw.symm⟩)))
            go_wp2_with fail
            go_roundg (s.size - (q + 1))
            case measure => omega
            case rel => exact ⟨q + 1, rfl, HST.out, (HS.out.setPos (q + 1)).drewN nq, below_drewN (below_setR HB.out hbR _) _⟩
          | false =>
            rw [hp] at hP
            have HP1 := Lib.hid hP
            have HE := Lib.hid (HX.out q HH.out fun _ => hp)
            clear hp hP
            go_wp2_with fail
            go_quiet ((go_at_call 128; exact Calls.quiet_of_same ((HP1.out _).mono fun _ _ ⟨he, hw⟩ => ⟨he, hw.symm⟩)))
            have hp0 : (0 : Int) ≤ (pos : Int) := by omega
            have hp1 : (pos : Int) ≤ (q : Int) := by omega
            have hp2 : (q : Int) ≤ (s.size : Int) := by omega
            go_wp2_with fail
            go_quiet (fail)
            rw [HE.out.1]
            go_wp2_with (first
              | (go_at_call 141; refine (HG.out _).mono ?_; rintro e w2 ⟨rfl, rfl⟩)
              | (go_at_call 155; refine (HNM.out _).mono ?_; rintro e w2 ⟨rfl, rfl⟩)
              | (go_at_call 156; refine (num_any n _).mono ?_; rintro e w3 ⟨rfl, hB3⟩; have HS3 : Hid (Scan base w3 R s q ov (L ++ [(v, ts)]) (nb, 4)) := Lib.hid (Scan.below (by (first | exact (HS.out.drewN _) | exact ((HS.out.drewN _).drewN _) | exact (HS.out.drewN _).setE 4 | exact ((HS.out.drewN _).drewN _).setE 4 | exact ((HS.out.setE 4).drewN _) | exact ((HS.out.setE 4).drewN _).drewN _)) hB3); have HB3 : Hid (Below base w w3) := Lib.hid (upB (by (first | exact below_drewN HB.out _ | exact below_drewN (below_drewN HB.out _) _ | exact below_setR (below_drewN HB.out _) hbR _ | exact below_setR (below_drewN (below_drewN HB.out _) _) hbR _ | exact below_drewN (below_setR HB.out hbR _) _ | exact below_drewN (below_drewN (below_setR HB.out hbR _) _) _)) hB3 hbw); clear hB3)
              | (go_at_call 126; refine (HP.out 0 n ⟨#[]⟩ q 4 _ (by unfold I64; omega) hi (Nat.zero_le _) HS3.out).mono ?_; rintro e w4 ⟨rfl, hA⟩; have HA := Lib.hid hA; clear hA))
            go_end0
            exact ⟨rfl, tokQ_err HD.out HT.out HB3.out HA.out⟩
        · have hdq : decide (q < s.size) = false := by simpa using hlt
          have HE := Lib.hid (HX.out q HH.out fun hq => absurd hq hlt)
          go_wp2_with fail
          go_quiet (fail)
          have hp0 : (0 : Int) ≤ (pos : Int) := by omega
          have hp1 : (pos : Int) ≤ (q : Int) := by omega
          have hp2 : (q : Int) ≤ (s.size : Int) := by omega
          go_wp2_with fail
          go_quiet (fail)
          rw [HE.out.1]
          go_wp2_with (first
            | (go_at_call 141; refine (HG.out _).mono ?_; rintro e w2 ⟨rfl, rfl⟩)
            | (go_at_call 155; refine (HNM.out _).mono ?_; rintro e w2 ⟨rfl, rfl⟩)
            | (go_at_call 156; refine (num_any n _).mono ?_; rintro e w3 ⟨rfl, hB3⟩; have HS3 : Hid (Scan base w3 R s q ov (L ++ [(v, ts)]) (nb, 4)) := Lib.hid (Scan.below (by (first | exact (HS.out.drewN _) | exact ((HS.out.drewN _).drewN _) | exact (HS.out.drewN _).setE 4 | exact ((HS.out.drewN _).drewN _).setE 4 | exact ((HS.out.setE 4).drewN _) | exact ((HS.out.setE 4).drewN _).drewN _)) hB3); have HB3 : Hid (Below base w w3) := Lib.hid (upB (by (first | exact below_drewN HB.out _ | exact below_drewN (below_drewN HB.out _) _ | exact below_setR (below_drewN HB.out _) hbR _ | exact below_setR (below_drewN (below_drewN HB.out _) _) hbR _ | exact below_drewN (below_setR HB.out hbR _) _ | exact below_drewN (below_drewN (below_setR HB.out hbR _) _) _)) hB3 hbw); clear hB3)
            | (go_at_call 126; refine (HP.out 0 n ⟨#[]⟩ q 4 _ (by unfold I64; omega) hi (Nat.zero_le _) HS3.out).mono ?_; rintro e w4 ⟨rfl, hA⟩; have HA := Lib.hid hA; clear hA))
          go_end0
          exact ⟨rfl, tokQ_err HD.out HT.out HB3.out HA.out⟩
    | true =>
      cases bt with
      | false =>
        have HT : Hid (tokenR d = .err 5) := Lib.hid (by rw [htn]; simp)
        have HNM := Lib.hid hnm
        clear hnm htn
        clear hn hv
        go_enter Tryz.func129, Tryz.ntmps129
        go_wp2_with fail
        clear c0 c1 c2 c3 c4 f1 f2 f3 f4
        go_loopg [] (s.size - pos) (fun m wr => ∃ q : Nat, m = s.size - q ∧ Held tokB s pos q ∧ Scan base wr R s q ov (L ++ [(v, ts)]) (nb, 0) ∧ Below base w wr)
        case atStart => exact ⟨pos, rfl, ⟨Nat.le_refl _, hpos, fun j _ h1 h2 => absurd h1 (by omega)⟩, H.out, Below.refl _ _⟩
        case round =>
          obtain ⟨q, rfl, hh, hS, hB⟩ := hrel
          obtain ⟨c0, c1, c2, c3, c4, f1, f2, f3, f4⟩ := hS.cells
          have HS := Lib.hid hS
          have HB := Lib.hid hB
          have HH := Lib.hid hh
          have hq1 := hh.1
          have hq2 := hh.2.1
          have hq3 : (0 : Int) ≤ (q : Int) := by omega
          clear hS hB hh c2 c3 f2 f3
          by_cases hlt : q < s.size
          · have hP := visible_ok (s[q].toNat : Int)
            have hq4 : (q : Int) < (s.size : Int) := by omega
            have hdq : decide (q < s.size) = true := by simpa using hlt
            cases hp : tokB (s[q].toNat : Int) with
            | true =>
              rw [hp] at hP
              have HP1 := Lib.hid hP
              have HST := Lib.hid (HH.out.step hlt hp)
              clear hp hP
              go_wp2_with fail
              go_quiet ((go_at_call 128; exact Calls.quiet_of_same ((HP1.out _).mono fun _ _ ⟨he, hw⟩ => ⟨he, hw.symm⟩)))
              go_wp2_with fail
              go_roundg (s.size - (q + 1))
              case measure => omega
              case rel => exact ⟨q + 1, rfl, HST.out, (HS.out.setPos (q + 1)).drewN nq, below_drewN (below_setR HB.out hbR _) _⟩
            | false =>
              rw [hp] at hP
              have HP1 := Lib.hid hP
              have HE := Lib.hid (HX.out q HH.out fun _ => hp)
              clear hp hP
              go_wp2_with fail
              go_quiet ((go_at_call 128; exact Calls.quiet_of_same ((HP1.out _).mono fun _ _ ⟨he, hw⟩ => ⟨he, hw.symm⟩)))
              have hp0 : (0 : Int) ≤ (pos : Int) := by omega
              have hp1 : (pos : Int) ≤ (q : Int) := by omega
              have hp2 : (q : Int) ≤ (s.size : Int) := by omega
              go_wp2_with fail
              go_quiet (fail)
              rw [HE.out.1]
              go_wp2_with (first
                | (go_at_call 141; refine (HG.out _).mono ?_; rintro e w2 ⟨rfl, rfl⟩)
                | (go_at_call 155; refine (HNM.out _).mono ?_; rintro e w2 ⟨rfl, rfl⟩)
                | (go_at_call 156; refine (num_any n _).mono ?_; rintro e w3 ⟨rfl, hB3⟩; have HS3 : Hid (Scan base w3 R s q ov (L ++ [(v, ts)]) (nb, 5)) := Lib.hid (Scan.below (by (first | exact (HS.out.drewN _) | exact ((HS.out.drewN _).drewN _) | exact (HS.out.drewN _).setE 5 | exact ((HS.out.drewN _).drewN _).setE 5 | exact ((HS.out.setE 5).drewN _) | exact ((HS.out.setE 5).drewN _).drewN _)) hB3); have HB3 : Hid (Below base w w3) := Lib.hid (upB (by (first | exact below_drewN HB.out _ | exact below_drewN (below_drewN HB.out _) _ | exact below_setR (below_drewN HB.out _) hbR _ | exact below_setR (below_drewN (below_drewN HB.out _) _) hbR _ | exact below_drewN (below_setR HB.out hbR _) _ | exact below_drewN (below_drewN (below_setR HB.out hbR _) _) _)) hB3 hbw); clear hB3)
                | (go_at_call 126; refine (HP.out 0 n ⟨#[]⟩ q 5 _ (by unfold I64; omega) hi (Nat.zero_le _) HS3.out).mono ?_; rintro e w4 ⟨rfl, hA⟩; have HA := Lib.hid hA; clear hA))
              go_end0
              exact ⟨rfl, tokQ_err HD.out HT.out HB3.out HA.out⟩
          · have hdq : decide (q < s.size) = false := by simpa using hlt
            have HE := Lib.hid (HX.out q HH.out fun hq => absurd hq hlt)
            go_wp2_with fail
            go_quiet (fail)
            have hp0 : (0 : Int) ≤ (pos : Int) := by omega
            have hp1 : (pos : Int) ≤ (q : Int) := by omega
            have hp2 : (q : Int) ≤ (s.size : Int) := by omega
            go_wp2_with fail
            go_quiet (fail)
            rw [HE.out.1]
            go_wp2_with (first
              | (go_at_call 141; refine (HG.out _).mono ?_; rintro e w2 ⟨rfl, rfl⟩)
              | (go_at_call 155; refine (HNM.out _).mono ?_; rintro e w2 ⟨rfl, rfl⟩)
              | (go_at_call 156; refine (num_any n _).mono ?_; rintro e w3 ⟨rfl, hB3⟩; have HS3 : Hid (Scan base w3 R s q ov (L ++ [(v, ts)]) (nb, 5)) := Lib.hid (Scan.below (by (first | exact (HS.out.drewN _) | exact ((HS.out.drewN _).drewN _) | exact (HS.out.drewN _).setE 5 | exact ((HS.out.drewN _).drewN _).setE 5 | exact ((HS.out.setE 5).drewN _) | exact ((HS.out.setE 5).drewN _).drewN _)) hB3); have HB3 : Hid (Below base w w3) := Lib.hid (upB (by (first | exact below_drewN HB.out _ | exact below_drewN (below_drewN HB.out _) _ | exact below_setR (below_drewN HB.out _) hbR _ | exact below_setR (below_drewN (below_drewN HB.out _) _) hbR _ | exact below_drewN (below_setR HB.out hbR _) _ | exact below_drewN (below_drewN (below_setR HB.out hbR _) _) _)) hB3 hbw); clear hB3)
              | (go_at_call 126; refine (HP.out 0 n ⟨#[]⟩ q 5 _ (by unfold I64; omega) hi (Nat.zero_le _) HS3.out).mono ?_; rintro e w4 ⟨rfl, hA⟩; have HA := Lib.hid hA; clear hA))
            go_end0
            exact ⟨rfl, tokQ_err HD.out HT.out HB3.out HA.out⟩
      | true =>
        have HT : Hid (tokenR d = .form 0 n ⟨#[]⟩) := Lib.hid (by rw [htn]; simp)
        have HNM := Lib.hid hnm
        clear hnm htn
        clear hn hv
        go_enter Tryz.func129, Tryz.ntmps129
        go_wp2_with fail
        clear c0 c1 c2 c3 c4 f1 f2 f3 f4
        go_loopg [] (s.size - pos) (fun m wr => ∃ q : Nat, m = s.size - q ∧ Held tokB s pos q ∧ Scan base wr R s q ov (L ++ [(v, ts)]) (nb, 0) ∧ Below base w wr)
        case atStart => exact ⟨pos, rfl, ⟨Nat.le_refl _, hpos, fun j _ h1 h2 => absurd h1 (by omega)⟩, H.out, Below.refl _ _⟩
        case round =>
          obtain ⟨q, rfl, hh, hS, hB⟩ := hrel
          obtain ⟨c0, c1, c2, c3, c4, f1, f2, f3, f4⟩ := hS.cells
          have HS := Lib.hid hS
          have HB := Lib.hid hB
          have HH := Lib.hid hh
          have hq1 := hh.1
          have hq2 := hh.2.1
          have hq3 : (0 : Int) ≤ (q : Int) := by omega
          clear hS hB hh c2 c3 f2 f3
          by_cases hlt : q < s.size
          · have hP := visible_ok (s[q].toNat : Int)
            have hq4 : (q : Int) < (s.size : Int) := by omega
            have hdq : decide (q < s.size) = true := by simpa using hlt
            cases hp : tokB (s[q].toNat : Int) with
            | true =>
              rw [hp] at hP
              have HP1 := Lib.hid hP
              have HST := Lib.hid (HH.out.step hlt hp)
              clear hp hP
              go_wp2_with fail
              go_quiet ((go_at_call 128; exact Calls.quiet_of_same ((HP1.out _).mono fun _ _ ⟨he, hw⟩ => ⟨he, hw.symm⟩)))
              go_wp2_with fail
              go_roundg (s.size - (q + 1))
              case measure => omega
              case rel => exact ⟨q + 1, rfl, HST.out, (HS.out.setPos (q + 1)).drewN nq, below_drewN (below_setR HB.out hbR _) _⟩
            | false =>
              rw [hp] at hP
              have HP1 := Lib.hid hP
              have HE := Lib.hid (HX.out q HH.out fun _ => hp)
              clear hp hP
              go_wp2_with fail
              go_quiet ((go_at_call 128; exact Calls.quiet_of_same ((HP1.out _).mono fun _ _ ⟨he, hw⟩ => ⟨he, hw.symm⟩)))
              have hp0 : (0 : Int) ≤ (pos : Int) := by omega
              have hp1 : (pos : Int) ≤ (q : Int) := by omega
              have hp2 : (q : Int) ≤ (s.size : Int) := by omega
              go_wp2_with fail
              go_quiet (fail)
              rw [HE.out.1]
              go_wp2_with (first
                | (go_at_call 141; refine (HG.out _).mono ?_; rintro e w2 ⟨rfl, rfl⟩)
                | (go_at_call 155; refine (HNM.out _).mono ?_; rintro e w2 ⟨rfl, rfl⟩)
                | (go_at_call 156; refine (num_any n _).mono ?_; rintro e w3 ⟨rfl, hB3⟩; have HS3 : Hid (Scan base w3 R s q ov (L ++ [(v, ts)]) (nb, 0)) := Lib.hid (Scan.below (by (first | exact (HS.out.drewN _) | exact ((HS.out.drewN _).drewN _) | exact (HS.out.drewN _).setE 0 | exact ((HS.out.drewN _).drewN _).setE 0 | exact ((HS.out.setE 0).drewN _) | exact ((HS.out.setE 0).drewN _).drewN _)) hB3); have HB3 : Hid (Below base w w3) := Lib.hid (upB (by (first | exact below_drewN HB.out _ | exact below_drewN (below_drewN HB.out _) _ | exact below_setR (below_drewN HB.out _) hbR _ | exact below_setR (below_drewN (below_drewN HB.out _) _) hbR _ | exact below_drewN (below_setR HB.out hbR _) _ | exact below_drewN (below_drewN (below_setR HB.out hbR _) _) _)) hB3 hbw); clear hB3)
                | (go_at_call 126; refine (HP.out 0 n ⟨#[]⟩ q 0 _ (by unfold I64; omega) hi (Nat.zero_le _) HS3.out).mono ?_; rintro e w4 ⟨rfl, hA⟩; have HA := Lib.hid hA; clear hA))
              go_end0
              exact ⟨rfl, tokQ_form HD.out HT.out HB3.out HE.out.2 HA.out⟩
          · have hdq : decide (q < s.size) = false := by simpa using hlt
            have HE := Lib.hid (HX.out q HH.out fun hq => absurd hq hlt)
            go_wp2_with fail
            go_quiet (fail)
            have hp0 : (0 : Int) ≤ (pos : Int) := by omega
            have hp1 : (pos : Int) ≤ (q : Int) := by omega
            have hp2 : (q : Int) ≤ (s.size : Int) := by omega
            go_wp2_with fail
            go_quiet (fail)
            rw [HE.out.1]
            go_wp2_with (first
              | (go_at_call 141; refine (HG.out _).mono ?_; rintro e w2 ⟨rfl, rfl⟩)
              | (go_at_call 155; refine (HNM.out _).mono ?_; rintro e w2 ⟨rfl, rfl⟩)
              | (go_at_call 156; refine (num_any n _).mono ?_; rintro e w3 ⟨rfl, hB3⟩; have HS3 : Hid (Scan base w3 R s q ov (L ++ [(v, ts)]) (nb, 0)) := Lib.hid (Scan.below (by (first | exact (HS.out.drewN _) | exact ((HS.out.drewN _).drewN _) | exact (HS.out.drewN _).setE 0 | exact ((HS.out.drewN _).drewN _).setE 0 | exact ((HS.out.setE 0).drewN _) | exact ((HS.out.setE 0).drewN _).drewN _)) hB3); have HB3 : Hid (Below base w w3) := Lib.hid (upB (by (first | exact below_drewN HB.out _ | exact below_drewN (below_drewN HB.out _) _ | exact below_setR (below_drewN HB.out _) hbR _ | exact below_setR (below_drewN (below_drewN HB.out _) _) hbR _ | exact below_drewN (below_setR HB.out hbR _) _ | exact below_drewN (below_drewN (below_setR HB.out hbR _) _) _)) hB3 hbw); clear hB3)
              | (go_at_call 126; refine (HP.out 0 n ⟨#[]⟩ q 0 _ (by unfold I64; omega) hi (Nat.zero_le _) HS3.out).mono ?_; rintro e w4 ⟨rfl, hA⟩; have HA := Lib.hid hA; clear hA))
            go_end0
            exact ⟨rfl, tokQ_form HD.out HT.out HB3.out HE.out.2 HA.out⟩
end Go.Proofs.YtedabholcldgbaaGreatDoor.Q
