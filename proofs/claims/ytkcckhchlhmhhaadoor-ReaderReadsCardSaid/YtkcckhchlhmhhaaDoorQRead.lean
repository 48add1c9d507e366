/- The document's own Read. -/
import Derived.Test.YtkcckhchlhmhhaaDoorQStepW
import Derived.Test.YtkcckhchlhmhhaaDoorQPure
import Derived.Test.YtkcckhchlhmhhaaDoorRead
import Derived.Test.YtkcckhchlhmhhaaDoorOne
namespace Go.Proofs.YtkcckhchlhmhhaaDoor.Q
open Go.RowKit Go.Deep

theorem Scan.start (w : World) (s : ByteArray) :
    Scan w.heap.size ((w.alloc (.cells #[.slice none 0 0] 22)).alloc (.cells #[.string s, .int .i64 0, .slice (some ⟨w.heap.size, 0, none⟩) 1 1, .bool false, .int .i64 0] 54)) (w.heap.size + 1) s 0 (.slice (some ⟨w.heap.size, 0, none⟩) 1 1) [(.slice none 0 0, [])] (false, 0) := by
  refine ⟨heap_new2 _ _ _, ?_, fun p hp => ?_, by simp [live, Value.ownBlock], by omega, by simp; omega, fun p hp => ?_⟩
  · exact ((World.ownsRow_lit w #[.slice none 0 0] 1 (base := w.heap.size) (e := 22) (size := 1) (Nat.le_refl _) (by unfold maxLen; omega) rfl)).alloc _
  · have e : p = (.slice none 0 0, []) := by simpa using hp
    subst e
    exact ⟨World.ownsRow_nil _ _ _ _, fun t ht => by cases ht⟩
  · have e : p = (.slice none 0 0, []) := by simpa using hp
    subst e
    intro t ht; cases ht
theorem State.start (w : World) (s : ByteArray) :
    State w.heap.size ((w.alloc (.cells #[.slice none 0 0] 22)).alloc (.cells #[.string s, .int .i64 0, .slice (some ⟨w.heap.size, 0, none⟩) 1 1, .bool false, .int .i64 0] 54)) (w.heap.size + 1) s 0 [] [] false :=
  ⟨_, [], _, [], Scan.start w s, rfl, rfl⟩
/-- What is known at the loop's head, as long as no error was met. -/
structure RRel (w wr : World) (s : ByteArray) (m pos : Nat) (O : List (List Fm)) (top : List Fm) (near : Bool) : Prop where
  st : State w.heap.size wr (w.heap.size + 1) s pos O top near
  below : Below w.heap.size w wr
  tot : tot O top ≤ pos
  le : pos ≤ s.size
  loop : loopS s (s.size + 1) 0 [] [] false = loopS s (m + 1) pos O top near
  fuel : s.size - pos ≤ m
  flds : FldO O top
def LRel (w wr : World) (s : ByteArray) (m : Nat) : Prop :=
  (∃ (pos : Nat) (O : List (List Fm)) (top : List Fm) (near : Bool), RRel w wr s m pos O top near) ∨
  ∃ c : Int, Bad wr (w.heap.size + 1) s c ∧ Below w.heap.size w wr ∧ loopS s (s.size + 1) 0 [] [] false = .err c ∧ (c == 0) = false
def SmallTo (ts : List T) (k : Nat) : Prop := ∀ j (h : j < ts.length), j < k → smallF ts[j].form = true
theorem SmallTo.step {ts : List T} {k : Nat} (h : SmallTo ts k) (hk : k < ts.length) (hv : smallF ts[k].form = true) : SmallTo ts (k + 1) := by
  intro j hj hlt
  by_cases e : j = k
  · subst e; exact hv
  · exact h j hj (by omega)
theorem SmallTo.all {ts : List T} {k : Nat} (h : SmallTo ts k) (hk : ts.length ≤ k) : (ts.map T.form).all smallF = true := by
  rw [List.all_eq_true]
  intro f hf
  obtain ⟨t, ht, rfl⟩ := List.mem_map.1 hf
  obtain ⟨j, hj, rfl⟩ := List.getElem_of_mem ht
  exact h j hj (by omega)
theorem SmallTo.not {ts : List T} {k : Nat} (hk : k < ts.length) (hv : smallF ts[k].form = false) : (ts.map T.form).all smallF = false := by
  rw [List.all_eq_false]
  exact ⟨ts[k].form, List.mem_map_of_mem (List.getElem_mem hk), by rw [hv]; simp⟩

set_option linter.unusedSimpArgs false in
set_option maxHeartbeats 8000000 in
set_option maxRecDepth 100000 in
theorem read_any (s : ByteArray) (w : World) (hs0 : s.size ≤ maxLen) :
    Calls Tryd.prog 10 #[.string s] w fun e w' => ReadEnd w w' (readR s) e := by
  unfold maxLen at hs0
  obtain ⟨r, hr⟩ : ∃ r, readR s = r := ⟨_, rfl⟩
  rw [hr]
  by_cases hs : 60000 < s.size
  · obtain rfl : RD.err 2 = r := by rw [← hr, readR, if_pos hs]
    have hs' : (60000 : Int) < (s.size : Int) := by omega
    clear hr hs
    go_enter Tryd.func10, Tryd.ntmps10
    go_wp2_with fail
    go_ret2
    exact ⟨rfl, Below.refl _ _⟩
  · have hs' : ¬ (60000 : Int) < (s.size : Int) := by omega
    have hs2 : s.size ≤ 60000 := by omega
    have hrl : r = readDone (loopS s (s.size + 1) 0 [] [] false) := by rw [← hr, readR, if_neg hs]
    have HRL := Lib.hid hrl
    have HST := Lib.hid (State.start w s)
    clear hr hs hrl
    go_enter Tryd.func10, Tryd.ntmps10
    go_wp2_with fail
    go_loopg [] (s.size) (fun m wr => LRel w wr s m)
    case atStart => exact .inl ⟨0, [], [], false, HST.out, bel2 _ _ _, by simp [tot, szO, szL], Nat.zero_le _, rfl, by omega, ⟨fun l hl => (by cases hl), fun f hf => (by cases hf)⟩⟩
    case round =>
      rcases hrel with ⟨pos, O, top, near, hR⟩ | ⟨c, hbad, hB, hloop, hc⟩
      · have HR := Lib.hid hR
        have hpl := hR.le
        have hfuel := hR.fuel
        obtain ⟨b1, b2, b3⟩ := tot_bounds (Nat.le_trans hR.tot hR.le)
        obtain ⟨ov, L, v, ts, hSc, hO, htop⟩ := hR.st
        obtain ⟨c0, c1, c2, c3, c4, f1, f2, f3, f4⟩ := hSc.cells
        have HSC := Lib.hid hSc
        have HO := Lib.hid hO
        have HTop := Lib.hid htop
        have HB3 := Lib.hid b3
        clear hR hSc hO htop b3
        by_cases hlt : pos < s.size
        · have hS := step_any w.heap.size wr (w.heap.size + 1) s pos O top near hlt HR.out.st hs2 (by omega) (by omega) (fun l hl => by have := HB3.out l hl; omega)
          have hq1 : (pos : Int) < (s.size : Int) := by omega
          obtain ⟨k, hk⟩ : ∃ k, gk = k + 1 := ⟨gk - 1, by omega⟩
          cases hst : stepS s pos s[pos].toNat O top near with
          | err c =>
            rw [hst] at hS
            have HS := Lib.hid hS
            have HC : Hid ((c == 0) = false) := Lib.hid (by rcases stepS_err hst with e | e | e <;> rw [e] <;> rfl)
            have HLP : Hid (loopS s (s.size + 1) 0 [] [] false = .err c) := Lib.hid (by rw [HR.out.loop, loopS_err hlt hst])
            have hkk : k < gk := by omega
            clear hst hS hk
            go_wp2_with (go_at_call 38; refine HS.out.mono ?_; rintro e w2 ⟨rfl, hM⟩; have HM := Lib.hid hM; clear hM)
            go_roundg k
            case measure => omega
            case rel => exact .inr ⟨c, HM.out.1, HR.out.below.trans HM.out.2, HLP.out, HC.out⟩
          | ok q O' top' t' =>
            have hbd := stepS_bound hlt HR.out.tot hst
            have hfl := stepS_fields hlt HR.out.flds hst
            have hnext := loopS_ok (k := k + 1) hlt hst
            rw [hst] at hS
            have HS := Lib.hid hS
            have HN : Hid (∀ wr', State w.heap.size wr' (w.heap.size + 1) s q O' top' t' → Below w.heap.size wr wr' → RRel w wr' s k q O' top' t') :=
              Lib.hid fun wr' h1 h2 => ⟨h1, HR.out.below.trans h2, hbd.2.2, hbd.2.1, by rw [HR.out.loop, hk, hnext], by omega, hfl⟩
            have hkk : k < gk := by omega
            clear hst hS hnext hk hbd hfl
            go_wp2_with (go_at_call 38; refine HS.out.mono ?_; rintro e w2 ⟨rfl, hM⟩; have HM := Lib.hid hM; clear hM)
            go_roundg k
            case measure => omega
            case rel => exact .inl ⟨q, O', top', t', HN.out _ HM.out.1 HM.out.2⟩
        · have hend := loopS_end (s := s) (k := gk) (pos := pos) (O := O) (top := top) (tight := near) hlt
          have hrr : r = readDone (.ok O top) := by rw [HRL.out, HR.out.loop, hend]
          obtain ⟨g, cap, hov, hg1, hg2⟩ := HSC.out.rows.form (by simp)
          subst hov
          simp only [List.length_append, List.length_cons, List.length_nil, Nat.zero_add] at c2 hg1
          have hd : ¬ (pos : Int) < (s.size : Int) := by omega
          by_cases hOe : O = []
          · have hL : L = [] := by have := HO.out; rw [hOe] at this; simpa using this
            subst hL
            obtain ⟨va, vc, hv⟩ : ∃ va vc, v = .slice va ts.length vc := by
              have hv0 := (HSC.out.lvl (v, ts) (by simp)).1
              rcases hv0.2 with ⟨e, e'⟩ | ⟨g', c', cur, e, _⟩
              · have e1 : v = .slice none 0 0 := e
                have e2 : ts.length = 0 := e'
                exact ⟨none, 0, by rw [e1, e2]⟩
              · exact ⟨_, _, e⟩
            subst hv
            have k1 : wr.cell? ⟨g, 0, none⟩ = some (.slice va ts.length vc) := by
              have := HSC.out.rows.cellAt 0 (by simp)
              rw [this]; simp
            have hlen : ts.length ≤ 1000000 := by
              have e := HTop.out
              have : ts.length = top.length := by rw [← e]; simp
              omega
            have HSZ : Hid (∀ j (h : j < ts.length), szF ts[j].form ≤ 4611686018427387903) := Lib.hid fun j h => by
              have h1 := szL_le (l := ts.map T.form) (f := ts[j].form) (List.mem_map_of_mem (List.getElem_mem h))
              rw [HTop.out] at h1
              have e := HR.out.tot
              unfold tot at e; omega
            have hrow := row_inL (HSC.out.lvl (.slice va ts.length vc, ts) (by simp)).1 (fun t ht => ((HSC.out.lvl (.slice va ts.length vc, ts) (by simp)).2 t ht).1) hlen
            have HHI := Lib.hid (HSC.out.hi (.slice va ts.length vc, ts) (by simp))
            have HVB : Hid (∀ b o sp, va = some ⟨b, o, sp⟩ → w.heap.size ≤ b) := Lib.hid fun b o sp e => ((HSC.out.lvl (.slice va ts.length vc, ts) (by simp)).1.lt b (by rw [e]; rfl)).1
            have HRW := Lib.hid hrow
            have HK : Hid (∀ W, Below wr.heap.size wr W → W.cell? ⟨w.heap.size + 1, 2, none⟩ = some (.slice (some ⟨g, 0, none⟩) 1 cap) ∧ W.cell? ⟨g, 0, none⟩ = some (.slice va ts.length vc)) :=
              Lib.hid fun W hB => ⟨(hB.cell (p := ⟨w.heap.size + 1, 2, none⟩) (lt_of_block HSC.out.blk)).trans c2, (hB.cell (p := ⟨g, 0, none⟩) hg2).trans k1⟩
            have HALL : Hid (r = if (ts.map T.form).all smallF = true then .ok top else .err 2) := Lib.hid (by
              rw [hrr, hOe]
              simp only [readDone, ne_eq, not_true_eq_false, if_false]
              rw [all_small HR.out.flds.2, HTop.out])
            clear hend hOe hrow hrr
            go_wp2_with fail
            go_loopg [5] (ts.length) (fun m i W => ∃ k : Nat, k ≤ ts.length ∧ m = ts.length - k ∧ i = .int .i64 k ∧ SmallTo ts k ∧ Below wr.heap.size wr W)
            case atStart => exact ⟨0, by omega, rfl, rfl, fun j _ h => absurd h (by omega), Below.refl _ _⟩
            case round =>
              obtain ⟨k, hk, rfl, rfl, hV, hBW⟩ := hrel
              obtain ⟨m2, m3⟩ := HK.out _ hBW
              have HBW := Lib.hid hBW
              by_cases hltk : k < ts.length
              · obtain ⟨⟨b, o, rfl, hx0, hx1, hx2, hx3⟩, hink⟩ := (HRW.out.1.below hBW).at k hltk
                have HA := Lib.hid (rsmall_any ts[k] _ hink (HSZ.out k hltk))
                cases hv : smallF ts[k].form with
                | true =>
                  rw [hv] at HA
                  have HS := Lib.hid (hV.step hltk hv)
                  clear hv hV hBW hink
                  go_wp2_with (go_at_call 39; refine HA.out.mono ?_; rintro e w2 ⟨rfl, hB2⟩; have HB2 := Lib.hid hB2; clear hB2)
                  go_roundg (ts.length - (k + 1))
                  case measure => omega
                  case rel => exact ⟨k + 1, by omega, rfl, by go_num, HS.out, upB HBW.out HB2.out (Nat.le_refl _)⟩
                | false =>
                  rw [hv] at HA
                  have HS : Hid (r = .err 2) := Lib.hid (by rw [HALL.out, SmallTo.not hltk hv]; simp)
                  clear hv hV hBW hink
                  go_wp2_with (go_at_call 39; refine HA.out.mono ?_; rintro e w2 ⟨rfl, hB2⟩; have HB2 := Lib.hid hB2; clear hB2)
                  go_ret2
                  rw [HS.out]
                  exact ⟨rfl, upB HR.out.below (upB HBW.out HB2.out (Nat.le_refl _)) (Nat.le_refl _)⟩
              · have HS : Hid (r = .ok top) := Lib.hid (by rw [HALL.out, hV.all (by omega)]; simp)
                clear hV hBW
                go_wp2_with fail
                go_ret2
                rw [HS.out]
                exact ⟨_, rfl, ⟨va, vc, ts, rfl, HRW.out.1.below HBW.out, HTop.out, HRW.out.2, HHI.out, HVB.out⟩, upB HR.out.below HBW.out (Nat.le_refl _)⟩
          · have hL : 1 ≤ L.length := by
              rcases L with _ | ⟨p, L'⟩
              · exact absurd HO.out.symm hOe
              · simp
            have hL' : (1 : Int) < (L.length : Int) + 1 := by omega
            have hL1 : L.length ≤ 60000 := by
              have e := HO.out
              have : L.length = O.length := by rw [← e]; simp
              omega
            simp only [readDone, ne_eq, hOe, not_false_eq_true, if_true] at hrr
            subst hrr
            clear hend hOe
            go_wp2_with fail
            go_quiet (fail)
            go_wp2_with fail
            go_ret2
            exact ⟨rfl, below_drewN (below_setR HR.out.below (Nat.le_succ _) _) _⟩
      · obtain ⟨a, o, n, hblk⟩ := hbad
        have c1 : wr.cell? ⟨w.heap.size + 1, 1, none⟩ = some (.int .i64 a) := by simp [World.cell?, hblk]
        have c4 : wr.cell? ⟨w.heap.size + 1, 4, none⟩ = some (.int .i64 c) := by simp [World.cell?, hblk]
        have hc2 : (c != 0) = true := by simpa using hc
        have hrr : r = .err c := by rw [HRL.out, hloop]; rfl
        have HB := Lib.hid hB
        subst hrr
        clear hblk hloop hB
        by_cases hlt : a < (s.size : Int)
        · have hd : decide (a < (s.size : Int)) = true := by simpa using hlt
          clear hlt
          go_wp2_with fail
          go_quiet (fail)
          go_wp2_with fail
          go_ret2
          exact ⟨rfl, below_drewN HB.out _⟩
        · have hd : decide (a < (s.size : Int)) = false := by simpa using hlt
          clear hlt
          go_wp2_with fail
          go_quiet (fail)
          go_wp2_with fail
          go_ret2
          exact ⟨rfl, below_drewN HB.out _⟩
end Go.Proofs.YtkcckhchlhmhhaaDoor.Q
