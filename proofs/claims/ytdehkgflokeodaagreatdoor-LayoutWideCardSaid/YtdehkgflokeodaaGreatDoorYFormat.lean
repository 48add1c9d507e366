/- layout.Format, and the document's own. -/
import Derived.Test.YtdehkgflokeodaaGreatDoorYLay
import Derived.Test.YtdehkgflokeodaaGreatDoorValidBig
namespace Go.Proofs.YtdehkgflokeodaaGreatDoor.Y
open Go.RowKit Go.Deep

theorem Sh.start {w0 w : World} (hb : Below w0.heap.size w0 w) (wd S : Nat) (hS : w.heap.size = S) : Sh w0 (w.alloc (.cells #[.slice none 0 0, .int .i64 wd] 88)) S (.slice none 0 0) wd [] := by
  subst hS
  exact ⟨heap_alloc_new w _, World.ownsRow_nil _ _ _ _, up hb (bel1 _ _), hb.size, by simp [Value.ownBlock]⟩
theorem conv_sh {w0 w : World} {S : Nat} {ov : Value} {wd : Nat} {l : List UInt8} (h : Sh w0 w S ov wd l) : (convert 46 9 ov).run Tryz.prog w = .ok (.string ⟨l.toArray⟩) w := conv_row h.own 0
set_option maxHeartbeats 4000000 in
theorem inLines_any (t : T) (w : World) (wd : Nat) (hin : In w t) (hv : validF t.form = true) (htab : Tab w.heap.size w) (hwd : wd ≤ 200) :
    Calls Tryz.prog 45 #[t.val, .int .i64 wd] w fun e w' => e = .returned (.string ⟨(linF t.form 0 wd 0).toArray⟩) ∧ Below w.heap.size w w' := by
  have hvp := valid_parts hv
  have hln := linF_len hv 0 wd 0 (by omega)
  have hs0 := Sh.start (w0 := w) (w := w.alloc (.cells #[.int .i64 t.kd, .int .i64 t.nn, .string t.tx, .slice t.ad t.ks.length t.cp] 29)) (bel1 _ _) wd (w.heap.size + 1) (by simp)
  have hl0 := (lay_any _ t (Nat.lt_succ_self _) 0 0 wd w _ _ _ [] hs0 hin hv htab (by omega) hwd (by omega) (by simp; omega))
  rw [show (((0 : Nat) : Int)) = 0 from rfl] at hl0
  have HL := Lib.hid hl0
  clear hin hv htab hvp hln hs0 hl0
  go_enter Tryz.func45, Tryz.ntmps45
  go_wp2_with (go_at_call 72; (with_reducible refine HL.out.mono ?_); rintro e w2 ⟨rfl, ov2, hs2, hk2⟩; obtain ⟨c0, c1, c2⟩ := hs2.cells; have hcv := conv_sh hs2; have HS2 := Lib.hid hs2; clear hs2 hk2)
  go_ret
  exact ⟨by simp, HS2.out.below⟩
theorem isWidth_any (x : Int) (w : World) : Calls Tryz.prog 44 #[.int .i64 x] w fun e w' => e = .returned (.bool (decide (20 ≤ x) && decide (x ≤ 200))) ∧ w = w' := by
  by_cases h : 20 ≤ x
  · have hd : decide (20 ≤ x) = true := by simpa using h
    rw [hd, Bool.true_and]
    go_enter Tryz.func44, Tryz.ntmps44
    go_wp2_with fail
    go_ret
    exact ⟨rfl, rfl⟩
  · have hd : decide (20 ≤ x) = false := by simpa using h
    rw [hd, Bool.false_and]
    go_enter Tryz.func44, Tryz.ntmps44
    go_wp2_with fail
    go_ret
    exact ⟨rfl, rfl⟩

/-- What Format answers. -/
def fmtF (f : Fm) (x : Int) : List UInt8 × Int := if 20 ≤ x ∧ x ≤ 200 ∧ validF f = true then (linF f 0 x.toNat 0, 0) else ([], 1)
theorem fmtF_no {f : Fm} {x : Int} (h : ¬ (20 ≤ x ∧ x ≤ 200 ∧ validF f = true)) : fmtF f x = ([], 1) := by unfold fmtF; rw [if_neg h]
theorem fmtF_yes {f : Fm} {wd : Nat} (h1 : 20 ≤ wd) (h2 : wd ≤ 200) (hv : validF f = true) : fmtF f (wd : Int) = (linF f 0 wd 0, 0) := by
  unfold fmtF; rw [if_pos ⟨by omega, by omega, hv⟩]; simp
def FmtEnd (w w' : World) (r : List UInt8 × Int) (e : Ending) : Prop := e = .returned (.tuple #[.string ⟨r.1.toArray⟩, .int .i64 r.2]) ∧ Below w.heap.size w w'
set_option maxHeartbeats 4000000 in
theorem format_any (t : T) (w : World) (x : Int) (hx : I64 x) (hin : In w t) (htab : Tab w.heap.size w) :
    Calls Tryz.prog 16 #[t.val, .int .i64 x] w fun e w' => FmtEnd w w' (fmtF t.form x) e := by
  obtain ⟨hx1, hx2⟩ := hx
  have HI := Lib.hid (isWidth_any x)
  by_cases hr : 20 ≤ x ∧ x ≤ 200
  · obtain ⟨wd, rfl⟩ : ∃ wd : Nat, x = wd := ⟨x.toNat, by omega⟩
    have h1 : 20 ≤ wd := by omega
    have h2 : wd ≤ 200 := by omega
    have e1 : (decide ((20 : Int) ≤ (wd : Int)) && decide ((wd : Int) ≤ 200)) = true := by simp; omega
    rw [e1] at HI
    have HV := Lib.hid (valid_big t (w.alloc (.cells #[.int .i64 t.kd, .int .i64 t.nn, .string t.tx, .slice t.ad t.ks.length t.cp] 29)) (hin.alloc _))
    have K0 := Lib.hid (Boxed.start w t)
    cases hv : validF t.form with
    | true =>
      rw [fmtF_yes h1 h2 hv]
      have HL : Hid (∀ W, Below w.heap.size w W → Calls Tryz.prog 45 #[t.val, .int .i64 wd] W fun e w' => e = .returned (.string ⟨(linF t.form 0 wd 0).toArray⟩) ∧ Below W.heap.size W w') := Lib.hid fun W hB =>
        inLines_any t W wd (hin.below hB) hv (Tab.mono (htab.on hB) hB.size) h2
      rw [hv] at HV
      obtain ⟨a, ha⟩ : ∃ a, t.ad = a := ⟨_, rfl⟩
      have HAD := Lib.hid ha
      clear hv hin htab hr e1 h1 h2 ha
      go_enter Tryz.func16, Tryz.ntmps16
      go_wp2_with (first
        | (go_at_call 44; (with_reducible refine (HI.out _).mono ?_); rintro e w1 ⟨rfl, rfl⟩)
        | (go_at_call 30; (with_reducible refine HV.out.mono ?_); rintro e w2 ⟨rfl, hB⟩; obtain ⟨c0, c1, c2, c3⟩ := Box4.cells (K0.out.next hB).1; have HB := Lib.hid (up (bel1 _ _) hB); clear hB)
        | (go_at_call 45; (with_reducible refine (HL.out _ HB.out).mono ?_); rintro e w3 ⟨rfl, hB⟩; have HB3 := Lib.hid (up HB.out hB); clear hB))
      refine bodyPost_ret (v := .tuple #[.string ⟨(linF t.form 0 wd 0).toArray⟩, .int .i64 0]) (by simp [results, Tryz.results16, go_sem]) rfl ?_
      exact ⟨rfl, HB3.out⟩
    | false =>
      rw [fmtF_no (by rw [hv]; simp)]
      rw [hv] at HV
      clear hv hin htab hr e1 h1 h2
      go_enter Tryz.func16, Tryz.ntmps16
      go_wp2_with (first
        | (go_at_call 44; (with_reducible refine (HI.out _).mono ?_); rintro e w1 ⟨rfl, rfl⟩)
        | (go_at_call 30; (with_reducible refine HV.out.mono ?_); rintro e w2 ⟨rfl, hB⟩; have HB := Lib.hid (up (bel1 _ _) hB); clear hB))
      refine bodyPost_ret (v := .tuple #[.string ⟨#[]⟩, .int .i64 1]) (by simp [results, Tryz.results16, go_sem]) rfl ?_
      exact ⟨rfl, HB.out⟩
  · have e1 : (decide (20 ≤ x) && decide (x ≤ 200)) = false := by simp; omega
    rw [e1] at HI
    rw [fmtF_no (by omega)]
    clear hr e1 hin htab
    go_enter Tryz.func16, Tryz.ntmps16
    go_wp2_with (go_at_call 44; (with_reducible refine (HI.out _).mono ?_); rintro e w1 ⟨rfl, rfl⟩)
    refine bodyPost_ret (v := .tuple #[.string ⟨#[]⟩, .int .i64 1]) (by simp [results, Tryz.results16, go_sem]) rfl ?_
    exact ⟨rfl, bel1 _ _⟩

set_option maxHeartbeats 4000000 in
theorem rformat_any (t : T) (w : World) (x : Int) (hx : I64 x) (hin : In w t) (hb : szF t.form ≤ 4611686018427387903) (htab : Tab w.heap.size w) :
    Calls Tryz.prog 17 #[t.val, .int .i64 x] w fun e w' => FmtEnd w w' (fmtF t.form x) e := by
  obtain ⟨hx1, hx2⟩ := hx
  by_cases hlo : x < 20
  · have d1 : decide (x < 20) = true := by simpa using hlo
    rw [fmtF_no (by omega)]
    clear hin hb htab
    go_enter Tryz.func17, Tryz.ntmps17
    go_wp2_with fail
    refine bodyPost_ret (v := .tuple #[.string ⟨#[]⟩, .int .i64 1]) (by simp [results, Tryz.results17, go_sem]) rfl ?_
    exact ⟨rfl, bel1 _ _⟩
  · have d1 : decide (x < 20) = false := by simpa using hlo
    by_cases hhi : 200 < x
    · have d2 : decide (200 < x) = true := by simpa using hhi
      rw [fmtF_no (by omega)]
      clear hin hb htab
      go_enter Tryz.func17, Tryz.ntmps17
      go_wp2_with fail
      refine bodyPost_ret (v := .tuple #[.string ⟨#[]⟩, .int .i64 1]) (by simp [results, Tryz.results17, go_sem]) rfl ?_
      exact ⟨rfl, bel1 _ _⟩
    · have d2 : decide (200 < x) = false := by simpa using hhi
      obtain ⟨wd, rfl⟩ : ∃ wd : Nat, x = wd := ⟨x.toNat, by omega⟩
      have h1 : 20 ≤ wd := by omega
      have h2 : wd ≤ 200 := by omega
      have HV := Lib.hid (rvalid_any t (w.alloc (.cells #[.int .i64 t.kd, .int .i64 t.nn, .string t.tx, .slice t.ad t.ks.length t.cp] 29)) (hin.alloc _) hb)
      have K0 := Lib.hid (Boxed.start w t)
      cases hv : validF t.form with
      | true =>
        have hvp := valid_parts hv
        rw [fmtF_yes h1 h2 hv]
        have HL : Hid (∀ W, Below w.heap.size w W → Calls Tryz.prog 47 #[t.val, .int .i64 0, .int .i64 wd, .int .i64 0] W fun e w' => StrEnd W w' (linF t.form 0 wd 0) e) := Lib.hid fun W hB =>
          rlin_any _ t (Nat.lt_succ_self _) 0 wd 0 W (hin.below hB) hv (by omega) h2 (by omega) (Tab.mono (htab.on hB) hB.size)
        rw [hv] at HV
        clear hv hin hb htab h1 h2 hvp
        go_enter Tryz.func17, Tryz.ntmps17
        go_wp2_with (first
          | (go_at_call 46; (with_reducible refine HV.out.mono ?_); rintro e w2 ⟨rfl, hB⟩; obtain ⟨c0, c1, c2, c3⟩ := Box4.cells (K0.out.next hB).1; have HB := Lib.hid (up (bel1 _ _) hB); clear hB)
          | (go_at_call 47; (with_reducible refine (HL.out _ HB.out).mono ?_); rintro e w3 ⟨d, rfl, hd, hB⟩; have HB3 := Lib.hid (up HB.out hB); have HD := Lib.hid (ba_list hd); clear hB hd))
        refine bodyPost_ret (v := .tuple #[.string d, .int .i64 0]) (by simp [results, Tryz.results17, go_sem]) rfl ?_
        exact ⟨by rw [HD.out], HB3.out⟩
      | false =>
        rw [fmtF_no (by rw [hv]; simp)]
        rw [hv] at HV
        clear hv hin hb htab h1 h2
        go_enter Tryz.func17, Tryz.ntmps17
        go_wp2_with (go_at_call 46; (with_reducible refine HV.out.mono ?_); rintro e w2 ⟨rfl, hB⟩; have HB := Lib.hid (up (bel1 _ _) hB); clear hB)
        refine bodyPost_ret (v := .tuple #[.string ⟨#[]⟩, .int .i64 1]) (by simp [results, Tryz.results17, go_sem]) rfl ?_
        exact ⟨rfl, HB.out⟩
end Go.Proofs.YtdehkgflokeodaaGreatDoor.Y
