/- The document's own reader's step: the walk. -/
import Derived.Test.YtkcckhchlhmhhaaDoorQStep
namespace Go.Proofs.YtkcckhchlhmhhaaDoor.Q
open Go.RowKit Go.Deep

set_option linter.unusedSimpArgs false in
set_option maxHeartbeats 8000000 in
set_option maxRecDepth 100000 in
theorem step_any (base : Nat) (w : World) (R : Nat) (s : ByteArray) (pos : Nat) (O : List (List Fm)) (top : List Fm) (near : Bool) (hpos : pos < s.size)
    (hS : State base w R s pos O top near) (hs : s.size ≤ 60000) (h1 : O.length ≤ 60000) (h2 : top.length ≤ 60000) (h3 : ∀ l ∈ O, l.length ≤ 60000) :
    Calls Tryd.prog 38 #[.pointer (some ⟨R, 0, none⟩)] w fun e w' => e = .returned (.tuple #[]) ∧ StepQ base w w' R s (stepS s pos s[pos].toNat O top near) := by
  obtain ⟨ov, L, v, ts, hSc, hO, htop⟩ := hS
  have hLl : L.length ≤ 60000 := by rw [← hO] at h1; simpa using h1
  have htl : ts.length ≤ 60000 := by rw [← htop] at h2; simpa using h2
  obtain ⟨c0, c1, c2, c3, c4, f1, f2, f3, f4⟩ := hSc.cells
  have H := Lib.hid hSc
  have hbR := hSc.hR
  have hbw := hSc.hw
  have hRw := lt_of_block hSc.blk
  have hq2 : (0 : Int) ≤ (pos : Int) := by omega
  have hq3 : (pos : Int) < (s.size : Int) := by omega
  obtain ⟨r, hr⟩ : ∃ r, stepS s pos s[pos].toNat O top near = r := ⟨_, rfl⟩
  rw [hr]
  have HO := Lib.hid hO
  have HTop := Lib.hid htop
  have HVI := Lib.hid (visible_ok (s[pos].toNat : Int))
  clear hSc hO htop
  by_cases b59 : s[pos].toNat = 59
  · have HR1 : Hid (SR.ok (pos + (spanL nnlB (s.data.toList.drop pos)).length) O top false = r) := Lib.hid (by rw [← hr, stepS, if_pos b59])
    have g1 : ((s[pos].toNat : Int) == 32) = false := by simp; omega
    have g2 : ((s[pos].toNat : Int) == 9) = false := by simp; omega
    have g3 : ((s[pos].toNat : Int) == 10) = false := by simp; omega
    have g4 : ((s[pos].toNat : Int) == 59) = true := by simp; omega
    clear hr b59 h3
    go_enter Tryd.func38, Tryd.ntmps38
    go_wp2_with fail
    go_quiet (fail)
    go_wp2_with fail
    go_loopg [] (s.size - pos) (fun m wr => ∃ q : Nat, m = s.size - q ∧ Held nnlB s pos q ∧ Scan base wr R s q ov (L ++ [(v, ts)]) (false, 0) ∧ Below base w wr)
    case atStart => exact ⟨pos, rfl, ⟨Nat.le_refl _, by omega, fun j _ h1 h2 => absurd h1 (by omega)⟩, (H.out.drewN _).setTight false, below_setR (below_drewN (Below.refl _ _) _) hbR _⟩
    case round =>
      obtain ⟨q, rfl, hh, hS, hB⟩ := hrel
      obtain ⟨c0, c1, c2, c3, c4, f1, f2, f3, f4⟩ := hS.cells
      have HS := Lib.hid hS
      have HB := Lib.hid hB
      have HH := Lib.hid hh
      have hq1 := hh.1
      have hq2 := hh.2.1
      have hq4 : (0 : Int) ≤ (q : Int) := by omega
      clear hS hB hh c2 c3 f2 f3
      by_cases hlt : q < s.size
      · have hq5 : (q : Int) < (s.size : Int) := by omega
        have hdq : decide (q < s.size) = true := by simpa using hlt
        cases hp : nnlB (s[q].toNat : Int) with
        | true =>
          have HST := Lib.hid (HH.out.step hlt hp)
          have g10 : ((s[q].toNat : Int) != 10) = true := hp
          clear hp
          go_wp2_with fail
          go_quiet (fail)
          go_wp2_with fail
          go_roundg (s.size - (q + 1))
          case measure => omega
          case rel => exact ⟨q + 1, rfl, HST.out, (HS.out.setPos (q + 1)).drewN nq, below_drewN (below_setR HB.out hbR _) _⟩
        | false =>
          have HE := Lib.hid (HH.out.span fun _ => hp)
          have g10 : ((s[q].toNat : Int) != 10) = false := hp
          clear hp
          go_wp2_with fail
          go_quiet (fail)
          go_wp2_with fail
          go_end0
          refine ⟨rfl, ?_⟩
          rw [← HR1.out, HE.out.2, show pos + (q - pos) = q by omega]
          exact ⟨⟨ov, L, v, ts, HS.out.drewN _, HO.out, HTop.out⟩, below_drewN HB.out _⟩
      · have hdq : decide (q < s.size) = false := by simpa using hlt
        have HE := Lib.hid (HH.out.span fun hq => absurd hq hlt)
        go_wp2_with fail
        go_quiet (fail)
        go_wp2_with fail
        go_end0
        refine ⟨rfl, ?_⟩
        rw [← HR1.out, HE.out.2, show pos + (q - pos) = q by omega]
        exact ⟨⟨ov, L, v, ts, HS.out.drewN _, HO.out, HTop.out⟩, below_drewN HB.out _⟩
  · have g59 : ((s[pos].toNat : Int) == 59) = false := by simp; omega
    cases hbl : blankB (s[pos].toNat : Int) with
    | true =>
      have HR1 : Hid (SR.ok (pos + 1) O top false = r) := Lib.hid (by rw [← hr, stepS, if_neg b59, if_pos hbl])
      have hx : (((s[pos].toNat : Int) == 32) = true) ∨ (((s[pos].toNat : Int) == 32) = false ∧ ((s[pos].toNat : Int) == 9) = true) ∨ (((s[pos].toNat : Int) == 32) = false ∧ ((s[pos].toNat : Int) == 9) = false ∧ ((s[pos].toNat : Int) == 10) = true) := by
        unfold blankB at hbl
        simp only [Bool.or_eq_true, beq_iff_eq] at hbl
        simp only [beq_iff_eq, beq_eq_false_iff_ne, ne_eq]
        omega
      clear hr b59 h3 hbl
      rcases hx with g1 | ⟨g1, g2⟩ | ⟨g1, g2, g3⟩
      all_goals
        go_enter Tryd.func38, Tryd.ntmps38
        go_wp2_with fail
        go_quiet (fail)
        go_wp2_with fail
        go_end0
        refine ⟨rfl, ?_⟩
        rw [← HR1.out]
        exact ⟨⟨ov, L, v, ts, ((H.out.drewN _).setTight false).setPos (pos + 1), HO.out, HTop.out⟩, below_setR (below_setR (below_drewN (Below.refl _ _) _) hbR _) hbR _⟩
    | false =>
      have hnb : ¬ blankB (s[pos].toNat : Int) = true := by rw [hbl]; simp
      have hx : ((s[pos].toNat : Int) == 32) = false ∧ ((s[pos].toNat : Int) == 9) = false ∧ ((s[pos].toNat : Int) == 10) = false := by
        unfold blankB at hbl
        simpa [and_assoc] using hbl
      obtain ⟨g1, g2, g3⟩ := hx
      by_cases b40 : s[pos].toNat = 40
      · have HR1 : Hid (SR.ok (pos + 1) (O ++ [top]) [] false = r) := Lib.hid (by rw [← hr, stepS, if_neg b59, if_neg hnb, if_pos b40])
        have g40 : ((s[pos].toNat : Int) == 40) = true := by simp; omega
        obtain ⟨i0, hi0, hz0, hz1, hz2⟩ := info_parts info22
        obtain ⟨L', hL'⟩ : ∃ L', L ++ [(v, ts)] = L' := ⟨_, rfl⟩
        have hlenL : L'.length ≤ 60001 := by rw [← hL']; simp; omega
        have hst : (L'.map fun p => p.2.map T.form) = O ++ [top] := by rw [← hL']; have e1 := HO.out; have e2 := HTop.out; simp [e1, e2]
        have HH := H.out
        rw [hL'] at HH
        have HSS := Lib.hid fun n o => (((HH.drewN n).setTight false).setPos (pos + 1)).below (bel1 _ o)
        have HST := Lib.hid hst
        clear hr b59 hbl hnb b40 hst HH hL' H h3
        go_enter Tryd.func38, Tryd.ntmps38
        go_wp2_with fail
        go_quiet (fail)
        go_wp2_with (at_builtin; refine wpList_append_lies _ rfl _ _ _ rfl base 22 i0 _ 1 24 Tryd.underlying47 hi0 hz0 hz1 hz2 rfl (by omega) ov L'.length (L'.map (·.1)) (by rfl) (HSS.out _ _).rows ⟨w.heap.size, 0, none⟩ 1 1 [.slice none 0 0] (by rfl) (by rfl) (World.news_of_block (cs := #[.slice none 0 0]) (t := 22) (fr := (0, 0)) ?_) (by simp [Value.oneCell']) (by omega) (by unfold maxLen; omega) (by omega) (by simp; omega) (w.heap.size + 1) (by simp) ?_; (· exact heap_new_at _ (by simp) _); intro gg cap1 w1 hown1 hgrow hat hlt1; have HP := Lib.hid ((HSS.out _ _).push hgrow hown1 (hat.imp id (fun e => by rw [e]; simp))); have HB1 := Lib.hid (((below_setR (below_setR (below_drewN (Below.refl base w) _) hbR _) hbR _).alloc (by simpa using hbw) _).trans ((HSS.out _ _).pushBelow hgrow)); obtain ⟨k1, k2⟩ := (HSS.out _ _).keepCells hgrow; clear hown1 hgrow hat hlt1)
        go_end0
        refine ⟨rfl, ?_⟩
        rw [← HR1.out]
        exact ⟨⟨_, L', _, [], HP.out, HST.out, rfl⟩, below_setR HB1.out hbR _⟩
      · have g40 : ((s[pos].toNat : Int) == 40) = false := by simp; omega
        by_cases b41 : s[pos].toNat = 41
        · have g41 : ((s[pos].toNat : Int) == 41) = true := by simp; omega
          have HR1 : Hid (closeS pos O top = r) := Lib.hid (by rw [← hr, stepS, if_neg b59, if_neg hnb, if_neg b40, if_pos b41])
          have HSC := Lib.hid fun n => ((H.out.drewN n).setTight false).setPos (pos + 1)
          have hgf := H.out.rows.form (by simp)
          obtain ⟨g, cap, hov, hg1, hg2⟩ := hgf
          subst hov
          rcases List.eq_nil_or_concat L with hL | ⟨L0, p0, hL⟩
          · subst hL
            have hOn : O = [] := by rw [← HO.out]; rfl
            have HR2 : Hid (SR.err 4 = r) := Lib.hid (by rw [← HR1.out, hOn]; rfl)
            simp only [List.nil_append, List.length_cons, List.length_nil, Nat.zero_add] at c2 hg1
            clear hr b59 hbl hnb b40 b41 h3 hOn
            go_enter Tryd.func38, Tryd.ntmps38
            go_wp2_with fail
            go_quiet (fail)
            go_wp2_with fail
            refine bodyPost_ret (results_none (by rfl) _ _ _) rfl ?_
            refine ⟨rfl, ?_⟩
            rw [← HR2.out]
            exact ⟨((HSC.out _).setE 4).bad, below_setR (below_setR (below_setR (below_drewN (Below.refl _ _) _) hbR _) hbR _) hbR _⟩
          · rw [List.concat_eq_append] at hL
            subst hL
            obtain ⟨v0, ts0⟩ := p0
            obtain ⟨N, hN⟩ : ∃ N, (L0 ++ [(v0, ts0)]).length = N := ⟨_, rfl⟩
            have hNN : ((L0 ++ [(v0, ts0)]) ++ [(v, ts)]).length = N + 1 := by simp at hN ⊢; omega
            have hN1 : 1 ≤ N := by rw [← hN]; simp
            have hts0 : ts0.length ≤ 60000 := by
              have := h3 (ts0.map T.form) (by rw [← HO.out]; simp)
              simpa using this
            obtain ⟨va, vc, hv⟩ : ∃ va vc, v = .slice va ts.length vc := by
              have hv0 := (H.out.lvl (v, ts) (by simp)).1
              rcases hv0.2 with ⟨e, e'⟩ | ⟨g', c', cur, e, _⟩
              · have e1 : v = .slice none 0 0 := e
                have e2 : ts.length = 0 := e'
                exact ⟨none, 0, by rw [e1, e2]⟩
              · exact ⟨_, _, e⟩
            subst hv
            have hrows := H.out.rows
            rw [hNN] at hrows HSC c2
            have k1 : w.cell? ⟨g, N, none⟩ = some (.slice va ts.length vc) := by
              rw [hrows.cellAt N (by omega), ← hN]; simp
            have hNcap : N + 1 ≤ cap := by
              rcases hrows.2 with ⟨e, _⟩ | ⟨g', c', cur, e, _, _, h1, _⟩
              · cases e
              · injection e with _ _ e3; omega
            have lg : g < w.heap.size := hg2
            have hgR : g ≠ R := by
              intro e; subst e
              have := H.out.nodup
              simp [live, Value.ownBlock] at this
            have i0 : (0 : Int) ≤ (N : Int) := by omega
            have i1 : (N : Int) < (N : Int) + 1 := by omega
            have i2 : (N : Int) ≤ (cap : Int) := by omega
            have i3 : ((N : Int) == 0) = false := by simp; omega
            have i4 : N ≤ 1000000 := by omega
            have HL : Hid (∀ W, Calls Tryd.prog 65 #[.slice va ts.length vc] W fun e w' => e = .returned (.agg #[.int .i64 3, .int .i64 0, .string ⟨#[]⟩, .slice va ts.length vc]) ∧ Below W.heap.size W w') := Lib.hid fun W => (rlist_any va vc ts W).mono fun e w' hh => hh
            have HPOP : Hid (∀ W, Scan base W R s (pos + 1) (.slice (some ⟨g, 0, none⟩) (N + 1) cap) ((L0 ++ [(v0, ts0)]) ++ [(.slice va ts.length vc, ts)]) (false, 0) → Calls Tryd.prog 66 #[.pointer (some ⟨R, 0, none⟩), .agg #[.int .i64 3, .int .i64 0, .string ⟨#[]⟩, .slice va ts.length vc]] ((W.setCell ⟨R, 2, none⟩ (.slice (some ⟨g, 0, none⟩) N cap)).alloc (.cells #[.int .i64 3, .int .i64 0, .string ⟨#[]⟩, .slice va ts.length vc] 27))
                fun e w' => e = .returned (.tuple #[]) ∧ Added base ((W.setCell ⟨R, 2, none⟩ (.slice (some ⟨g, 0, none⟩) N cap)).alloc (.cells #[.int .i64 3, .int .i64 0, .string ⟨#[]⟩, .slice va ts.length vc] 27)) w' R s (pos + 1) (.slice (some ⟨g, 0, none⟩) N cap) L0 (ts0 ++ [T.mk 3 0 ⟨#[]⟩ va vc ts]) (false, 0)) := Lib.hid fun W hW => by
              rw [← hN] at hW ⊢
              obtain ⟨p1, p2, p3, p4⟩ := hW.popIn (by omega)
              have hl0 : ts0.length + L0.length ≤ 1000000 := by simp at hLl; omega
              exact put_any base _ R s (pos + 1) _ L0 v0 ts0 (false, 0) (T.mk 3 0 ⟨#[]⟩ va vc ts) (p1.below (bel1 _ _)) (p2.alloc _) p3 p4 hl0
            clear hr b59 hbl hnb b40 b41 h3 hrows hN hNN hN1 hts0 hLl htl
            go_enter Tryd.func38, Tryd.ntmps38
            go_wp2_with fail
            go_quiet (fail)
            go_wp2_with (first
              | (go_at_call 65; refine (HL.out _).mono ?_; rintro e w5 ⟨rfl, hB5⟩; have hz5 : w.heap.size ≤ w5.heap.size := Nat.le_trans (Nat.le_of_eq (by simp)) hB5.size; have HS5 := Lib.hid ((HSC.out _).below hB5); have HB5 := Lib.hid (upB (below_setR (below_setR (below_drewN (Below.refl base w) _) hbR _) hbR _) hB5 (by simpa using hbw)); have hz6 : R < w5.heap.size := (by omega); have hz7 : ¬ R = w5.heap.size := (by omega); obtain ⟨_, _, e2, _, _, _, e5, _, _⟩ := HS5.out.cells; clear hB5)
              | (go_at_call 66; refine (HPOP.out _ HS5.out).mono ?_; rintro e w6 ⟨rfl, hA⟩; have HA := Lib.hid hA; clear hA))
            go_end0
            refine ⟨rfl, ?_⟩
            rw [← HR1.out, ← HO.out, ← HTop.out]
            exact close_step ((below_setR HB5.out hbR _).alloc (by simp; omega) _) HA.out
        · have g41 : ((s[pos].toNat : Int) == 41) = false := by simp; omega
          cases near with
          | true =>
            have HR1 : Hid (SR.err 4 = r) := Lib.hid (by
              rw [← hr, stepS, if_neg b59, if_neg hnb, if_neg b40, if_neg b41]
              split
              · rfl
              · rw [if_pos rfl])
            clear hr b59 hbl hnb b40 b41 h3
            go_enter Tryd.func38, Tryd.ntmps38
            go_wp2_with fail
            go_quiet (fail)
            go_wp2_with fail
            go_end0
            refine ⟨rfl, ?_⟩
            rw [← HR1.out]
            exact ⟨(((H.out.drewN _).setTight false).setE 4).bad, below_setR (below_setR (below_drewN (Below.refl _ _) _) hbR _) hbR _⟩
          | false =>
            by_cases b34 : s[pos].toNat = 34
            · have HR1 : Hid (textS s pos O top = r) := Lib.hid (by
                rw [← hr, stepS, if_neg b59, if_neg hnb, if_neg b40, if_neg b41, if_neg (by rw [b34]; simp [plainB]), if_neg (by simp), if_pos b34])
              have g34 : ((s[pos].toNat : Int) == 34) = true := by simp; omega
              have HT := Lib.hid fun n => quoted_any base ((w.drewN n).setCell ⟨R, 3, none⟩ (.bool false)) R s pos ov L v ts false ((H.out.drewN n).setTight false) hpos hs (by omega)
              clear hr b59 hbl hnb b40 b41 h3 b34
              go_enter Tryd.func38, Tryd.ntmps38
              go_wp2_with fail
              go_quiet (fail)
              go_wp2_with (go_at_call 67; refine (HT.out _).mono ?_; rintro e w2 ⟨rfl, hM⟩; obtain ⟨n3, k3, k4⟩ := hM.cell; have HM := Lib.hid hM; clear hM)
              go_end0
              refine ⟨rfl, ?_⟩
              rw [← HR1.out, ← HO.out, ← HTop.out]
              exact txt_step hbR (below_setR (below_drewN (Below.refl _ _) _) hbR _) HM.out
            · have g34 : ((s[pos].toNat : Int) == 34) = false := by simp; omega
              have hpt : tokB (s[pos].toNat : Int) = plainB (s[pos].toNat : Int) := by
                unfold tokB
                have a1 : ((s[pos].toNat : Int) != 40) = true := by simp; omega
                have a2 : ((s[pos].toNat : Int) != 41) = true := by simp; omega
                have a3 : ((s[pos].toNat : Int) != 34) = true := by simp; omega
                have a4 : ((s[pos].toNat : Int) != 59) = true := by simp; omega
                rw [a1, a2, a3, a4]; simp
              cases hp : tokB (s[pos].toNat : Int) with
              | true =>
                have hp2 : ¬ plainB (s[pos].toNat : Int) = false := by rw [← hpt, hp]; simp
                have HR1 : Hid (tokS s pos O top = r) := Lib.hid (by
                  rw [← hr, stepS, if_neg b59, if_neg hnb, if_neg b40, if_neg b41, if_neg hp2, if_neg (by simp), if_neg b34])
                have HT := Lib.hid fun n => token_any base ((w.drewN n).setCell ⟨R, 3, none⟩ (.bool false)) R s pos ov L v ts false ((H.out.drewN n).setTight false) (by omega) hs (by omega)
                have HV1 := HVI.out
                rw [hp] at HV1
                have HV1 := Lib.hid HV1
                clear hr b59 hbl hnb b40 b41 h3 b34 hpt hp hp2
                go_enter Tryd.func38, Tryd.ntmps38
                go_wp2_with fail
                go_quiet (fail)
                go_wp2_with (first
                  | (go_at_call 68; refine (HV1.out _).mono ?_; rintro e w2 ⟨rfl, rfl⟩)
                  | (go_at_call 69; refine (HT.out _).mono ?_; rintro e w2 ⟨rfl, hM⟩; obtain ⟨n3, k3, k4⟩ := hM.cell; have HM := Lib.hid hM; clear hM))
                go_end0
                refine ⟨rfl, ?_⟩
                rw [← HR1.out, ← HO.out, ← HTop.out]
                exact tok_step hbR (below_setR (below_drewN (Below.refl _ _) _) hbR _) HM.out
              | false =>
                have hp2 : plainB (s[pos].toNat : Int) = false := by rw [← hpt, hp]
                have HR1 : Hid (SR.err 4 = r) := Lib.hid (by
                  rw [← hr, stepS, if_neg b59, if_neg hnb, if_neg b40, if_neg b41, if_pos hp2])
                have HV1 := HVI.out
                rw [hp] at HV1
                have HV1 := Lib.hid HV1
                clear hr b59 hbl hnb b40 b41 h3 b34 hpt hp hp2
                go_enter Tryd.func38, Tryd.ntmps38
                go_wp2_with fail
                go_quiet (fail)
                go_wp2_with (go_at_call 68; refine (HV1.out _).mono ?_; rintro e w2 ⟨rfl, rfl⟩)
                go_end0
                refine ⟨rfl, ?_⟩
                rw [← HR1.out]
                exact ⟨(((H.out.drewN _).setTight false).setE 4).bad, below_setR (below_setR (below_drewN (Below.refl _ _) _) hbR _) hbR _⟩
end Go.Proofs.YtkcckhchlhmhhaaDoor.Q
