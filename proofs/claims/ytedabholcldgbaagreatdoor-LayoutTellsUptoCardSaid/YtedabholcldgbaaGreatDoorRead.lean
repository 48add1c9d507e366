/- reader.Read. -/
import Derived.Test.YtedabholcldgbaaGreatDoorStep
import Derived.Test.YtedabholcldgbaaGreatDoorAll
namespace Go.Proofs.YtedabholcldgbaaGreatDoor
open Go.RowKit Go.Deep

theorem heap_new2 (w : World) (o1 o2 : Obj) : ((w.alloc o1).alloc o2).heap[w.heap.size + 1]? = some o2 := by
  have h := heap_alloc_new (w.alloc o1) o2
  rwa [show (w.alloc o1).heap.size = w.heap.size + 1 by simp] at h
theorem Scan.start (w : World) (s : ByteArray) :
    Scan w.heap.size ((w.alloc (.cells #[.slice none 0 0] 22)).alloc (.cells #[.string s, .int .i64 0, .slice (some ⟨w.heap.size, 0, none⟩) 1 1, .bool false] 94)) (w.heap.size + 1) s 0 (.slice (some ⟨w.heap.size, 0, none⟩) 1 1) [(.slice none 0 0, [])] false := by
  refine ⟨heap_new2 _ _ _, ?_, fun p hp => ?_, by simp [live, Value.ownBlock], by omega, by simp; omega, fun p hp => ?_⟩
  · exact ((World.ownsRow_lit w #[.slice none 0 0] 1 (base := w.heap.size) (e := 22) (size := 1) (Nat.le_refl _) (by unfold maxLen; omega) rfl)).alloc _
  · have e : p = (.slice none 0 0, []) := by simpa using hp
    subst e
    exact ⟨World.ownsRow_nil _ _ _ _, fun t ht => by cases ht⟩
  · have e : p = (.slice none 0 0, []) := by simpa using hp
    subst e
    intro t ht; cases ht
theorem State.start (w : World) (s : ByteArray) :
    State w.heap.size ((w.alloc (.cells #[.slice none 0 0] 22)).alloc (.cells #[.string s, .int .i64 0, .slice (some ⟨w.heap.size, 0, none⟩) 1 1, .bool false] 94)) (w.heap.size + 1) s 0 [] [] false :=
  ⟨_, [], _, [], Scan.start w s, rfl, rfl⟩

/-- A list of forms, as a result. -/
def Forms (base : Nat) (w : World) (v : Value) (fs : List Fm) : Prop := ∃ (va : Option Addr) (vc : Nat) (ts : List T), v = .slice va ts.length vc ∧ InL w va 0 ts ∧ ts.map T.form = fs ∧ (ts.length ≤ vc ∧ vc ≤ maxLen) ∧ (∀ t ∈ ts, ∀ b, On t b → base ≤ b) ∧ ∀ b o sp, va = some ⟨b, o, sp⟩ → base ≤ b
def ReadEnd (w w' : World) (r : RD) (e : Ending) : Prop :=
  match r with
  | .err c => e = .returned (.tuple #[.slice none 0 0, .int .i64 c]) ∧ Below w.heap.size w w'
  | .ok fs => ∃ v, e = .returned (.tuple #[v, .int .i64 0]) ∧ Forms w.heap.size w' v fs ∧ Below w.heap.size w w'
theorem row_inL {base : Nat} {w : World} {va : Option Addr} {vc : Nat} {ts : List T} (h : w.ownsRow base 29 4 (.slice va ts.length vc) ts.length (cellsT ts)) (hin : ∀ t ∈ ts, In w t) (hlen : ts.length ≤ 1000000) : InL w va 0 ts ∧ ts.length ≤ vc ∧ vc ≤ maxLen := by
  have h1 := kids_in h hin hlen
  exact ⟨h1.inL, h1.ok.le, h1.ok.cp⟩
/-- What is known at the loop's head. -/
structure RRel (w wr : World) (s : ByteArray) (m pos : Nat) (O : List (List Fm)) (top : List Fm) (tight : Bool) : Prop where
  st : State w.heap.size wr (w.heap.size + 1) s pos O top tight
  below : Below w.heap.size w wr
  tot : tot O top ≤ pos
  le : pos ≤ s.size
  loop : loopS s (s.size + 1) 0 [] [] false = loopS s (m + 1) pos O top tight
  fuel : s.size - pos ≤ m

set_option maxHeartbeats 4000000 in
set_option maxRecDepth 100000 in
theorem read_any (s : ByteArray) (w : World) (hs0 : s.size ≤ maxLen) (hg : Glob w) (h6 : 8 ≤ w.heap.size) :
    Calls Tryz.prog 48 #[.string s] w fun e w' => ReadEnd w w' (readR s) e := by
  unfold maxLen at hs0
  obtain ⟨r, hr⟩ : ∃ r, readR s = r := ⟨_, rfl⟩
  rw [hr]
  by_cases hs : 60000 < s.size
  · obtain rfl : RD.err 2 = r := by rw [← hr, readR, if_pos hs]
    have hs' : (60000 : Int) < (s.size : Int) := by omega
    clear hr hs
    go_enter Tryz.func48, Tryz.ntmps48
    go_wp2_with fail
    go_ret2
    exact ⟨rfl, Below.refl _ _⟩
  · have hs' : ¬ (60000 : Int) < (s.size : Int) := by omega
    have hs2 : s.size ≤ 60000 := by omega
    have hrl : r = readDone (loopS s (s.size + 1) 0 [] [] false) := by rw [← hr, readR, if_neg hs]
    have HRL := Lib.hid hrl
    have HG := Lib.hid hg
    have HST := Lib.hid (State.start w s)
    clear hr hs hrl hg
    go_enter Tryz.func48, Tryz.ntmps48
    go_wp2_with fail
    go_loopg [] (s.size) (fun m wr => ∃ (pos : Nat) (O : List (List Fm)) (top : List Fm) (tight : Bool), RRel w wr s m pos O top tight)
    case atStart => exact ⟨0, [], [], false, HST.out, bel2 _ _ _, by simp [tot, szO, szL], Nat.zero_le _, rfl, by omega⟩
    case round =>
      obtain ⟨pos, O, top, tight, hR⟩ := hrel
      have HR := Lib.hid hR
      have hpl := hR.le
      have hfuel := hR.fuel
      obtain ⟨b1, b2, b3⟩ := tot_bounds (Nat.le_trans hR.tot hR.le)
      obtain ⟨ov, L, v, ts, hSc, hO, htop⟩ := hR.st
      obtain ⟨c0, c1, c2, c3, f1, f2, f3⟩ := hSc.cells
      have HSC := Lib.hid hSc
      have HO := Lib.hid hO
      have HTop := Lib.hid htop
      have HB3 := Lib.hid b3
      clear hR hSc hO htop b3
      by_cases hlt : pos < s.size
      · have hS := step_any w.heap.size wr (w.heap.size + 1) s pos O top tight hlt HR.out.st hs2 (by omega) (by omega) (fun l hl => by have := HB3.out l hl; omega) (HG.out.below HR.out.below h6) h6
        obtain ⟨k, hk⟩ : ∃ k, gk = k + 1 := ⟨gk - 1, by omega⟩
        cases hst : stepS s pos s[pos].toNat O top tight with
        | err c =>
          rw [hst] at hS
          have HS := Lib.hid hS
          have hc : (c != 0) = true := by rcases stepS_err hst with e | e | e <;> rw [e] <;> rfl
          have hrr : r = .err c := by rw [HRL.out, HR.out.loop, loopS_err hlt hst]; rfl
          subst hrr
          clear hst hS hk
          go_wp2_with (go_at_call 76; refine HS.out.mono ?_; rintro e w2 ⟨rfl, hB⟩; have HB := Lib.hid hB; clear hB)
          go_ret2
          exact ⟨rfl, HR.out.below.trans HB.out⟩
        | ok q O' top' t' =>
          have hbd := stepS_bound hlt HR.out.tot hst
          have hnext := loopS_ok (k := k + 1) hlt hst
          rw [hst] at hS
          have HS := Lib.hid hS
          have HN : Hid (∀ wr', State w.heap.size wr' (w.heap.size + 1) s q O' top' t' → Below w.heap.size wr wr' → RRel w wr' s k q O' top' t') :=
            Lib.hid fun wr' h1 h2 => ⟨h1, HR.out.below.trans h2, hbd.2.2, hbd.2.1, by rw [HR.out.loop, hk, hnext], by omega⟩
          have hkk : k < gk := by omega
          clear hst hS hnext hk hbd
          go_wp2_with (go_at_call 76; refine HS.out.mono ?_; rintro e w2 ⟨rfl, hSt, hB⟩; have HB := Lib.hid hB; have HSt := Lib.hid hSt; clear hB hSt)
          go_roundg k
          case measure => omega
          case rel => exact ⟨q, O', top', t', HN.out _ HSt.out HB.out⟩
      · have hend := loopS_end (s := s) (k := gk) (pos := pos) (O := O) (top := top) (tight := tight) hlt
        have hrr : r = readDone (.ok O top) := by rw [HRL.out, HR.out.loop, hend]
        obtain ⟨g, cap, hov, hg1, hg2⟩ := HSC.out.rows.form (by simp)
        subst hov
        simp only [List.length_append, List.length_cons, List.length_nil, Nat.zero_add] at c2 hg1
        have hd : ¬ (pos : Int) < (s.size : Int) := by omega
        by_cases hOe : O = []
        · have hL : L = [] := by have := HO.out; rw [hOe] at this; simpa using this
          subst hL
          obtain ⟨va, vc, hv⟩ : ∃ va vc, v = .slice va ts.length vc := by
            have hv0 := (HSC.out.lvl (v, ts) (by simp)).1
            rcases hv0.2 with ⟨e, e'⟩ | ⟨g', c', cur, e, _⟩
            · have e1 : v = .slice none 0 0 := e
              have e2 : ts.length = 0 := e'
              exact ⟨none, 0, by rw [e1, e2]⟩
            · exact ⟨_, _, e⟩
          subst hv
          have k1 : wr.cell? ⟨g, 0, none⟩ = some (.slice va ts.length vc) := by
            have := HSC.out.rows.cellAt 0 (by simp)
            rw [this]; simp
          have hlen : ts.length ≤ 1000000 := by have e := HTop.out; have : ts.length = top.length := by rw [← e]; simp
                                                omega
          have hsz : szL (ts.map T.form) ≤ 1000000 := by
            rw [HTop.out]
            have e := HR.out.tot
            unfold tot at e; omega
          have hrow := row_inL (HSC.out.lvl (.slice va ts.length vc, ts) (by simp)).1 (fun t ht => ((HSC.out.lvl (.slice va ts.length vc, ts) (by simp)).2 t ht).1) hlen
          have HHI := Lib.hid (HSC.out.hi (.slice va ts.length vc, ts) (by simp))
          have HVB : Hid (∀ b o sp, va = some ⟨b, o, sp⟩ → w.heap.size ≤ b) := Lib.hid fun b o sp e => ((HSC.out.lvl (.slice va ts.length vc, ts) (by simp)).1.lt b (by rw [e]; rfl)).1
          have HA := allValid_any ts va vc wr hlen hrow.1 hsz
          rw [HTop.out] at HA
          have HRW := Lib.hid hrow
          rw [hOe] at hrr
          simp only [readDone, ne_eq, not_true_eq_false, if_false] at hrr
          cases hall : top.all validF with
          | true =>
            rw [hall] at HA hrr
            rw [if_pos rfl] at hrr
            subst hrr
            have HA := Lib.hid HA
            clear hall hrow hend hOe hsz
            go_wp2_with (go_at_call 77; refine HA.out.mono ?_; rintro e w2 ⟨rfl, hB⟩; have HB := Lib.hid hB; clear hB)
            go_ret2
            exact ⟨_, rfl, ⟨va, vc, ts, rfl, HRW.out.1.below HB.out, HTop.out, HRW.out.2, HHI.out, HVB.out⟩, upB HR.out.below HB.out (Nat.le_refl _)⟩
          | false =>
            rw [hall] at HA hrr
            rw [if_neg (by simp)] at hrr
            subst hrr
            have HA := Lib.hid HA
            clear hall hrow hend hOe hsz
            go_wp2_with (go_at_call 77; refine HA.out.mono ?_; rintro e w2 ⟨rfl, hB⟩; have HB := Lib.hid hB; clear hB)
            go_ret2
            exact ⟨rfl, upB HR.out.below HB.out (Nat.le_refl _)⟩
        · have hL : 1 ≤ L.length := by
            rcases L with _ | ⟨p, L'⟩
            · exact absurd HO.out.symm hOe
            · simp
          have hL' : (1 : Int) < (L.length : Int) + 1 := by omega
          have hL1 : L.length ≤ 60000 := by have e := HO.out; have : L.length = O.length := by rw [← e]; simp
                                            omega
          simp only [readDone, ne_eq, hOe, not_false_eq_true, if_true] at hrr
          subst hrr
          clear hend hOe
          go_wp2_with fail
          go_ret2
          exact ⟨rfl, HR.out.below⟩
end Go.Proofs.YtedabholcldgbaaGreatDoor
