/- The scanner's step: the walk. -/
import Derived.Test.YtedabholcldgbaaGreatDoorStepLem
namespace Go.Proofs.YtedabholcldgbaaGreatDoor
open Go.RowKit Go.Deep

theorem State.drewN {base : Nat} {w : World} {R : Nat} {s : ByteArray} {pos : Nat} {O : List (List Fm)} {top : List Fm} {tight : Bool} (h : State base w R s pos O top tight) (n : Nat) : State base (w.drewN n) R s pos O top tight := by
  obtain ⟨ov, L, v, ts, hS, h1, h2⟩ := h
  exact ⟨ov, L, v, ts, hS.drewN n, h1, h2⟩
theorem Added.state {base : Nat} {w w' : World} {R : Nat} {s : ByteArray} {pos : Nat} {ov : Value} {L : List Lv} {ts : List T} {tight : Bool} (h : Added base w w' R s pos ov L ts tight) : State base w' R s pos (L.map fun p => p.2.map T.form) (ts.map T.form) tight := by
  obtain ⟨_, v', hS⟩ := h
  exact ⟨ov, L, v', ts, hS, rfl, rfl⟩
theorem leaf_form (k n : Int) (t : ByteArray) : (T.leaf k n t).form = .mk k n t [] := rfl

section
variable {base : Nat} {w : World} {R : Nat} {s : ByteArray} {pos : Nat} {O : List (List Fm)} {top : List Fm} {tight : Bool}
/-- The callees, met at the scanner as plain data. -/
theorem st_text (hS : State base w R s pos O top tight) (hpos : pos < s.size) (hs : s.size ≤ 60000) (h1 : O.length ≤ 60000) (h2 : top.length ≤ 60000) :
    Calls Tryz.prog 113 #[.pointer (some ⟨R, 0, none⟩)] w fun e w' => StepEnd base w w' R s (textS s pos O top) e := by
  obtain ⟨ov, L, v, ts, hS, rfl, rfl⟩ := hS
  refine (readText_any base w R s pos ov L v ts tight hS hpos hs (by simp at h1 h2; omega)).mono fun e w' h => ?_
  unfold TxtFin at h
  unfold textS
  cases ht : txtL (s.data.toList.drop (pos + 1)) with
  | err c => rw [ht] at h; exact h
  | done bs n =>
    rw [ht] at h
    simp only at h ⊢
    unfold TextEnd at h
    by_cases hd : 2000 < (⟨bs.toArray⟩ : ByteArray).size
    · rw [if_pos hd] at h ⊢; exact h
    · rw [if_neg hd] at h ⊢
      refine ⟨h.1, ?_, h.2.1⟩
      have := h.2.state
      simpa [leaf_form] using this
theorem st_tok (hS : State base w R s pos O top tight) (hpos : pos < s.size) (hs : s.size ≤ 60000) (h1 : O.length ≤ 60000) (h2 : top.length ≤ 60000) (hg : Glob w) (h6 : 8 ≤ base) :
    Calls Tryz.prog 114 #[.pointer (some ⟨R, 0, none⟩)] w fun e w' => StepEnd base w w' R s (tokS s pos O top) e := by
  obtain ⟨ov, L, v, ts, hS, rfl, rfl⟩ := hS
  refine (readToken_any base w R s pos ov L v ts tight hS (by omega) hs (by simp at h1 h2; omega) hg h6).mono fun e w' h => ?_
  unfold TokEnd at h
  unfold tokS
  cases ht : tokenR (spanB tokB s pos) with
  | err c => rw [ht] at h; exact h
  | form k n t =>
    rw [ht] at h
    refine ⟨h.1, ?_, h.2.1⟩
    have := h.2.state
    simpa [leaf_form] using this
theorem st_close (hS : State base w R s pos O top tight) (hpos : pos < s.size) (hs : s.size ≤ 60000) (h1 : O.length ≤ 60000) (h2 : top.length ≤ 60000) (h3 : ∀ l ∈ O, l.length ≤ 60000) :
    Calls Tryz.prog 111 #[.pointer (some ⟨R, 0, none⟩)] w fun e w' => StepEnd base w w' R s (closeS pos O top) e := by
  obtain ⟨ov, L, v, ts, hS, rfl, rfl⟩ := hS
  unfold closeS
  rcases List.eq_nil_or_concat L with rfl | ⟨L0, p, rfl⟩
  · exact (close_none base w R s pos ov v ts tight hS).mono fun e w' h => h
  · obtain ⟨v0, ts0⟩ := p
    have hts0 : ts0.length ≤ 60000 := by
      have := h3 (ts0.map T.form) (by simp)
      simpa using this
    refine (close_some base w R s pos ov L0 v0 v ts0 ts tight (by simpa using hS) hpos hs (by simp at h2; omega) (by omega) (by simp at h1; omega)).mono fun e w' h => ?_
    obtain ⟨he, ov', va, vc, ha⟩ := h
    have hst := ha.state
    have hf : (T.mk 3 0 ⟨#[]⟩ va vc ts).form = .mk 3 0 ⟨#[]⟩ (ts.map T.form) := by simp [T.form, T.forms_map]
    simp only [List.map_append, List.map_cons, List.map_nil, hf] at hst
    simp only [List.concat_eq_append, List.map_append, List.map_cons, List.map_nil, List.getLast?_append, List.getLast?_singleton, Option.some_or, List.dropLast_concat]
    exact ⟨he, hst, ha.1⟩
end

theorem StepEnd.mono {base : Nat} {w w1 w' : World} {R : Nat} {s : ByteArray} {r : SR} {e : Ending} (hb : Below base w w1) (h : StepEnd base w1 w' R s r e) : StepEnd base w w' R s r e := by
  unfold StepEnd at *
  cases r with
  | err c => exact ⟨h.1, hb.trans h.2⟩
  | ok q O top t => exact ⟨h.1, h.2.1, hb.trans h.2.2⟩
/-- The value that a step tells. -/
def SR.code : SR → Int
  | .err c => c
  | .ok _ _ _ _ => 0
theorem StepEnd.ret {base : Nat} {w w' : World} {R : Nat} {s : ByteArray} {r : SR} {e : Ending} (h : StepEnd base w w' R s r e) : e = .returned (.int .i64 r.code) := by
  unfold StepEnd at h
  cases r with
  | err c => exact h.1
  | ok q O top t => exact h.1

set_option maxHeartbeats 4000000 in
set_option maxRecDepth 100000 in
theorem step_any (base : Nat) (w : World) (R : Nat) (s : ByteArray) (pos : Nat) (O : List (List Fm)) (top : List Fm) (tight : Bool) (hpos : pos < s.size)
    (hS : State base w R s pos O top tight) (hs : s.size ≤ 60000) (h1 : O.length ≤ 60000) (h2 : top.length ≤ 60000) (h3 : ∀ l ∈ O, l.length ≤ 60000) (hg : Glob w) (h6 : 8 ≤ base) :
    Calls Tryz.prog 76 #[.pointer (some ⟨R, 0, none⟩)] w fun e w' => StepEnd base w w' R s (stepS s pos s[pos].toNat O top tight) e := by
  have hbase : base ≤ w.heap.size := by obtain ⟨_, _, _, _, h, _⟩ := hS; exact h.hw
  have hD : ∀ n, Below base w (w.drewN n) := fun n => below_drewN (Below.refl _ _) n
  have HT := Lib.hid fun n => (st_text (hS.drewN n) hpos hs h1 h2).mono fun e w' h => StepEnd.mono (hD n) h
  have HK := Lib.hid fun n => (st_tok (hS.drewN n) hpos hs h1 h2 (hg.below (hD n) h6) h6).mono fun e w' h => StepEnd.mono (hD n) h
  have HC := Lib.hid fun n => (st_close (hS.drewN n) hpos hs h1 h2 h3).mono fun e w' h => StepEnd.mono (hD n) h
  have HDD := Lib.hid hD
  obtain ⟨ov, L, v, ts, hSc, hO, htop⟩ := hS
  obtain ⟨c0, c1, c2, c3, f1, f2, f3⟩ := hSc.cells
  have H := Lib.hid hSc
  have hbR := hSc.hR
  have HO := Lib.hid hO
  have HTop := Lib.hid htop
  have hRw := lt_of_block hSc.blk
  have hq2 : (0 : Int) ≤ (pos : Int) := by omega
  have hq3 : (pos : Int) < (s.size : Int) := by omega
  obtain ⟨r, hr⟩ : ∃ r, stepS s pos s[pos].toNat O top tight = r := ⟨_, rfl⟩
  rw [hr]
  have HBL := blank_ok (s[pos].toNat : Int)
  have HPL := plain_ok (s[pos].toNat : Int)
  clear hSc hO htop hg h3 hD
  have HBL0 := Lib.hid HBL
  have HPL0 := Lib.hid HPL
  clear HBL HPL
  by_cases b59 : s[pos].toNat = 59
  · obtain rfl : SR.ok (pos + (spanL nnlB (s.data.toList.drop pos)).length) O top false = r := by rw [← hr, stepS, if_pos b59]
    have HSK : Hid (∀ n, Calls Tryz.prog 110 #[.pointer (some ⟨R, 0, none⟩), .int .u8 (s[pos].toNat : Int)] (w.drewN n) fun e w' => e = .returned (.tuple #[]) ∧ Moved base (w.drewN n) w' R s ov (L ++ [(v, ts)]) (pos + (spanL nnlB (s.data.toList.drop pos)).length)) :=
      Lib.hid fun n => by rw [show (s[pos].toNat : Int) = 59 by omega]; exact skip_comment base (w.drewN n) R s pos ov (L ++ [(v, ts)]) tight (H.out.drewN n) (by omega) hs
    have HBL := HBL0.out
    rw [show blankB (s[pos].toNat : Int) = false by rw [b59]; rfl] at HBL
    have HBL := Lib.hid HBL
    have g59 : ((s[pos].toNat : Int) == 59) = true := by simp; omega
    clear hr b59
    go_enter Tryz.func76, Tryz.ntmps76
    go_wp2_with fail
    go_quiet (fail)
    go_wp2_with (first
      | (go_at_call 109; refine (HBL.out _).mono ?_; rintro e w2 ⟨rfl, rfl⟩)
      | (go_at_call 110; refine (HSK.out _).mono ?_; rintro e w2 ⟨rfl, hM⟩; have HM := Lib.hid hM; clear hM))
    go_ret
    exact ⟨rfl, ⟨ov, L, v, ts, HM.out.1, HO.out, HTop.out⟩, (HDD.out _).trans HM.out.2.1⟩
  · have g59 : ((s[pos].toNat : Int) == 59) = false := by simp; omega
    cases hbl : blankB (s[pos].toNat : Int) with
    | true =>
      obtain rfl : SR.ok (pos + 1) O top false = r := by rw [← hr, stepS, if_neg b59, if_pos hbl]
      have HSK := Lib.hid fun n => skip_blank base (w.drewN n) R s pos ov (L ++ [(v, ts)]) tight (s[pos].toNat : Int) (H.out.drewN n) (by omega) hs (by omega)
      have HBL := HBL0.out
      rw [hbl] at HBL
      have HBL := Lib.hid HBL
      clear hr b59 hbl
      go_enter Tryz.func76, Tryz.ntmps76
      go_wp2_with fail
      go_quiet (fail)
      go_wp2_with (first
        | (go_at_call 109; refine (HBL.out _).mono ?_; rintro e w2 ⟨rfl, rfl⟩)
        | (go_at_call 110; refine (HSK.out _).mono ?_; rintro e w2 ⟨rfl, hM⟩; have HM := Lib.hid hM; clear hM))
      go_ret
      exact ⟨rfl, ⟨ov, L, v, ts, HM.out.1, HO.out, HTop.out⟩, (HDD.out _).trans HM.out.2.1⟩
    | false =>
      have HBL := HBL0.out
      rw [hbl] at HBL
      have HBL := Lib.hid HBL
      have hnb : ¬ blankB (s[pos].toNat : Int) = true := by rw [hbl]; simp
      by_cases b40 : s[pos].toNat = 40
      · obtain rfl : SR.ok (pos + 1) (O ++ [top]) [] false = r := by rw [← hr, stepS, if_neg b59, if_neg hnb, if_pos b40]
        have g40 : ((s[pos].toNat : Int) == 40) = true := by simp; omega
        obtain ⟨i0, hi0, hz0, hz1, hz2⟩ := info_parts info22
        have hlenL : (L ++ [(v, ts)]).length ≤ 60001 := by have := HO.out; rw [← this] at h1; simp at h1 ⊢; omega
        obtain ⟨L', hL'⟩ : ∃ L', L ++ [(v, ts)] = L' := ⟨_, rfl⟩
        have hst : (L'.map fun p => p.2.map T.form) = O ++ [top] := by rw [← hL']; have e1 := HO.out; have e2 := HTop.out; simp [e1, e2]
        have HH := H.out
        rw [hL'] at HH hlenL
        have HSS := Lib.hid fun n o => HH.paren n o
        have HST := Lib.hid hst
        clear hr b59 hbl hnb b40 hst HH hL' H
        go_enter Tryz.func76, Tryz.ntmps76
        go_wp2_with fail
        go_quiet (fail)
        go_wp2_with (first
          | (go_at_call 109; refine (HBL.out _).mono ?_; rintro e w2 ⟨rfl, rfl⟩)
          | (at_builtin; refine wpList_append_lies _ rfl _ _ _ rfl base 22 i0 _ 1 24 Tryz.underlying92 hi0 hz0 hz1 hz2 rfl (by omega) ov L'.length (L'.map (·.1)) (by rfl) (HSS.out _ _).rows ⟨w.heap.size, 0, none⟩ 1 1 [.slice none 0 0] (by rfl) (by rfl) (World.news_of_block (cs := #[.slice none 0 0]) (t := 22) (fr := (0, 0)) (heap_paren w R _ _ _ _)) (by simp [Value.oneCell']) (by omega) (by unfold maxLen; omega) (by omega) (by simp; omega) (w.heap.size + 1) (by simp) ?_; intro gg cap1 w1 hown1 hgrow hat hlt1; have HP := Lib.hid ((HSS.out _ _).push hgrow hown1 (hat.imp id (fun e => by rw [e]; simp))); have HB1 := Lib.hid ((below_paren hbR hbase _ _ _ _).trans ((HSS.out _ _).pushBelow hgrow)); obtain ⟨k1, k2⟩ := (HSS.out _ _).keepCells hgrow; clear hown1 hgrow hat hlt1))
        go_ret
        exact ⟨rfl, ⟨_, L', _, [], HP.out, HST.out, rfl⟩, below_setR HB1.out hbR _⟩
      · have g40 : ((s[pos].toNat : Int) == 40) = false := by simp; omega
        by_cases b41 : s[pos].toNat = 41
        · have g41 : ((s[pos].toNat : Int) == 41) = true := by simp; omega
          obtain rfl : closeS pos O top = r := by rw [← hr, stepS, if_neg b59, if_neg hnb, if_neg b40, if_pos b41]
          have HCC := Lib.hid fun n => (HC.out n).mono fun e w' h => (⟨h.ret, h⟩ : _ ∧ _)
          clear hr b59 hbl hnb b40 b41
          go_enter Tryz.func76, Tryz.ntmps76
          go_wp2_with fail
          go_quiet (fail)
          go_wp2_with (first
            | (go_at_call 109; refine (HBL.out _).mono ?_; rintro e w2 ⟨rfl, rfl⟩)
            | (go_at_call 111; refine (HCC.out _).mono ?_; rintro e w2 ⟨rfl, hM⟩; have HM := Lib.hid hM; clear hM))
          go_ret
          exact HM.out
        · have g41 : ((s[pos].toNat : Int) == 41) = false := by simp; omega
          cases hpl : plainB (s[pos].toNat : Int) with
          | false =>
            obtain rfl : SR.err 4 = r := by rw [← hr, stepS, if_neg b59, if_neg hnb, if_neg b40, if_neg b41, if_pos hpl]
            have HPL := HPL0.out
            rw [hpl] at HPL
            have HPL := Lib.hid HPL
            clear hr b59 hbl hnb b40 b41 hpl
            go_enter Tryz.func76, Tryz.ntmps76
            go_wp2_with fail
            go_quiet (fail)
            go_wp2_with (first
              | (go_at_call 109; refine (HBL.out _).mono ?_; rintro e w2 ⟨rfl, rfl⟩)
              | (go_at_call 112; refine (HPL.out _).mono ?_; rintro e w2 ⟨rfl, rfl⟩))
            go_ret
            exact ⟨rfl, HDD.out _⟩
          | true =>
            have HPL := HPL0.out
            rw [hpl] at HPL
            have HPL := Lib.hid HPL
            have hnp : ¬ plainB (s[pos].toNat : Int) = false := by rw [hpl]; simp
            cases tight with
            | true =>
              obtain rfl : SR.err 4 = r := by rw [← hr, stepS, if_neg b59, if_neg hnb, if_neg b40, if_neg b41, if_neg hnp, if_pos rfl]
              clear hr b59 hbl hnb b40 b41 hpl hnp
              go_enter Tryz.func76, Tryz.ntmps76
              go_wp2_with fail
              go_quiet (fail)
              go_wp2_with (first
                | (go_at_call 109; refine (HBL.out _).mono ?_; rintro e w2 ⟨rfl, rfl⟩)
                | (go_at_call 112; refine (HPL.out _).mono ?_; rintro e w2 ⟨rfl, rfl⟩))
              go_ret
              exact ⟨rfl, HDD.out _⟩
            | false =>
              by_cases b34 : s[pos].toNat = 34
              · have g34 : ((s[pos].toNat : Int) == 34) = true := by simp; omega
                obtain rfl : textS s pos O top = r := by rw [← hr, stepS, if_neg b59, if_neg hnb, if_neg b40, if_neg b41, if_neg hnp, if_neg (by simp), if_pos b34]
                have HTT := Lib.hid fun n => (HT.out n).mono fun e w' h => (⟨h.ret, h⟩ : _ ∧ _)
                clear hr b59 hbl hnb b40 b41 hpl hnp b34
                go_enter Tryz.func76, Tryz.ntmps76
                go_wp2_with fail
                go_quiet (fail)
                go_wp2_with (first
                  | (go_at_call 109; refine (HBL.out _).mono ?_; rintro e w2 ⟨rfl, rfl⟩)
                  | (go_at_call 112; refine (HPL.out _).mono ?_; rintro e w2 ⟨rfl, rfl⟩)
                  | (go_at_call 113; refine (HTT.out _).mono ?_; rintro e w2 ⟨rfl, hM⟩; have HM := Lib.hid hM; clear hM))
                go_ret
                exact HM.out
              · have g34 : ((s[pos].toNat : Int) == 34) = false := by simp; omega
                obtain rfl : tokS s pos O top = r := by rw [← hr, stepS, if_neg b59, if_neg hnb, if_neg b40, if_neg b41, if_neg hnp, if_neg (by simp), if_neg b34]
                have HTT := Lib.hid fun n => (HK.out n).mono fun e w' h => (⟨h.ret, h⟩ : _ ∧ _)
                clear hr b59 hbl hnb b40 b41 hpl hnp b34
                go_enter Tryz.func76, Tryz.ntmps76
                go_wp2_with fail
                go_quiet (fail)
                go_wp2_with (first
                  | (go_at_call 109; refine (HBL.out _).mono ?_; rintro e w2 ⟨rfl, rfl⟩)
                  | (go_at_call 112; refine (HPL.out _).mono ?_; rintro e w2 ⟨rfl, rfl⟩)
                  | (go_at_call 114; refine (HTT.out _).mono ?_; rintro e w2 ⟨rfl, hM⟩; have HM := Lib.hid hM; clear hM))
                go_ret
                exact HM.out
end Go.Proofs.YtedabholcldgbaaGreatDoor
