/- The document's asking of match. -/
import Derived.Test.YtmlfiopbdlaaaaaGreatJ11
import Derived.Deep.RegionHeld3
namespace Go.Proofs.YtmlfiopbdlaaaaaGreat
open Go.RowKit Go.Deep
def MatchL (E : Fm → Bool) (l : List Fm) : Prop := ∃ e a r, l = e :: a :: r ∧ E e = true ∧ ∀ m ∈ a :: r, Arm E m
theorem match_len {E : Fm → Bool} {l : List Fm} (h : MatchL E l) : 2 ≤ l.length := by
  obtain ⟨e, a, r, rfl, _⟩ := h; simp
def MTo (E : Fm → Bool) (l : List T) (k : Nat) : Prop := ∀ j (h : j < l.length), 1 ≤ j → j < k → Arm E l[j].form
theorem match_to {E : Fm → Bool} {l : List T} (hl : 2 ≤ l.length) (h1 : E (l[0]'(by omega)).form = true) (h2 : MTo E l l.length) : MatchL E (l.map T.form) := by
  match l, hl with
  | x :: y :: r, hl =>
    refine ⟨x.form, y.form, r.map T.form, rfl, h1, fun m hm => ?_⟩
    rw [← List.map_cons] at hm
    obtain ⟨u, hu, rfl⟩ := List.mem_map.1 hm
    obtain ⟨i, hi, rfl⟩ := List.getElem_of_mem hu
    have := h2 (i + 1) (by simpa using hi) (by omega) (by simpa using hi)
    simpa using this
theorem match_of {E : Fm → Bool} {l : List T} (hl : 2 ≤ l.length) (h : MatchL E (l.map T.form)) : E (l[0]'(by omega)).form = true ∧ ∀ j (h : j < l.length), 1 ≤ j → Arm E l[j].form := by
  match l, hl with
  | x :: y :: r, hl =>
    obtain ⟨e, a, s, he, h1, h2⟩ := h
    simp only [List.map_cons] at he
    injection he with e1 he
    injection he with e2 e3
    subst e1 e2 e3
    refine ⟨h1, fun j hj hj1 => ?_⟩
    obtain ⟨i, rfl⟩ : ∃ i, j = i + 1 := ⟨j - 1, by omega⟩
    refine h2 _ ?_
    rw [List.getElem_cons_succ]
    have : (y :: r)[i]'(by simpa using hj) ∈ (y :: r) := List.getElem_mem _
    have := List.mem_map_of_mem (f := T.form) this
    simpa using this
theorem three_of {α : Type} {l : List α} (h : l.length = 3) : ∃ x y z, l = [x, y, z] := by
  match l, h with
  | [x, y, z], _ => exact ⟨x, y, z, rfl⟩
theorem arm_three {E : Fm → Bool} {u : T} {x y z : T} (h3 : u.kd = 3) (h : u.ks = [x, y, z]) : Arm E u.form ↔ nameF x.form = true ∧ (Names y.form ∧ E z.form = true) ∧ (texts (y.ks.map T.form)).Nodup := by
  unfold Arm
  rw [T.form_kd, T.form_ks, h]
  constructor
  · rintro ⟨_, c, n, e, he, h1, h2, h4, h5⟩
    simp only [List.map_cons, List.map_nil] at he
    injection he with e1 he; injection he with e2 he; injection he with e3 _
    subst e1 e2 e3
    exact ⟨h1, ⟨h2, h5⟩, by rw [T.form_ks] at h4; exact h4⟩
  · rintro ⟨h1, ⟨h2, h5⟩, h4⟩
    exact ⟨h3, _, _, _, rfl, h1, h2, by rw [T.form_ks]; exact h4, h5⟩
theorem arm_no {E : Fm → Bool} {u : T} (h : ¬ (u.kd = 3 ∧ u.ks.length = 3)) : ¬ Arm E u.form := fun ha => h (by
  obtain ⟨h3, c, n, e, he, _⟩ := ha
  rw [T.form_kd] at h3
  refine ⟨h3, ?_⟩
  have := congrArg List.length he
  rw [T.form_ks, List.length_map] at this
  simpa using this)
set_option maxHeartbeats 8000000 in
set_option maxRecDepth 100000 in
theorem rmatch_any (n : Nat) (E : Fm → Bool) (hE : HExp n E) (a : Option Addr) (c : Nat) (l : List T) (w : World) (hk : InL w a 0 l) (hlen : l.length ≤ 1000000) (hs : ∀ u ∈ l, Asked n u) :
    Calls Tryz.prog 164 #[.slice a l.length c] w fun e w' => AnsR (MatchL E (l.map T.form)) w e w' := by
  by_cases hl : 2 ≤ l.length
  · obtain ⟨⟨b, o, rfl, z0, z1, z2, z3⟩, hinx⟩ := hk.at 0 (by omega)
    simp only [Nat.zero_mul, Nat.add_zero] at z0 z1 z2 z3
    have HTO := Lib.hid (match_to (E := E) hl)
    have HOF := Lib.hid (match_of (E := E) hl)
    have HE0 := Lib.hid (hE (l[0]'(by omega)) w hinx (hs _ (List.getElem_mem _)))
    obtain ⟨x, hx⟩ : ∃ x, l[0]'(by omega) = x := ⟨_, rfl⟩
    rw [hx] at HTO HOF HE0 z0 z1 z2 z3
    have lb : b < w.heap.size := World.block_lt_of_cell? _ _ z0
    have HK := Lib.hid fun (W : World) (h : Below w.heap.size w W) => hk.below h
    have HE := Lib.hid hE
    have HS := Lib.hid fun j (h : j < l.length) => hs l[j] (List.getElem_mem h)
    obtain ⟨p, hp⟩ : ∃ p, l.length = p := ⟨_, rfl⟩
    have HLP := Lib.hid hp
    have gl2 : decide ((p : Int) < 2) = false := by simp; omega
    have HL2 : Hid (2 ≤ p) := Lib.hid (by omega)
    have g0 : 0 < p := by omega
    have g0' : (0 : Int) < (p : Int) := by omega
    rw [hp]
    rw [hp] at hlen
    clear hk hinx hs hE hl hx hp
    by_cases hP : E x.form = true
    · have HPR := Lib.hid hP
      clear hP
      go_enter Tryz.func164, Tryz.ntmps164
      go_wp2_with (first
        | (go_at_call 61; refine HE0.out.mono ?_; intro e w2 hA; obtain ⟨rfl, hB⟩ := hA.yes HPR.out; have HB1 := Lib.hid hB; clear hB hA))
      go_loopg [4] p (fun m i wr => ∃ k : Nat, 1 ≤ k ∧ k ≤ p ∧ m = p + 1 - k ∧ i = .int .i64 k ∧ MTo E l k ∧ Below w.heap.size w wr)
      case atStart => exact ⟨1, by omega, by have := HL2.out; omega, by omega, rfl, fun j _ h1 h2 => by omega, HB1.out⟩
      case round =>
        obtain ⟨k, hk1, hkp, rfl, rfl, hQ, hB⟩ := hrel
        have HQ := Lib.hid hQ
        have HB := Lib.hid hB
        clear hQ hB z0 z1 z2 z3 gl2 lb
        by_cases hlt : k < p
        · have hkl : k < l.length := by have := HLP.out; omega
          obtain ⟨⟨b', o', hbo, hy0, hy1, hy2, hy3⟩, hinu⟩ := (HK.out _ HB.out).at k hkl
          injection hbo with hbo
          injection hbo with e1 e2 e3
          subst e1 e2
          have lb3 : b < wr.heap.size := World.block_lt_of_cell? _ _ hy0
          have HTN : Hid (¬ Arm E l[k].form → ¬ MatchL E (l.map T.form)) := Lib.hid fun h hq => h ((HOF.out hq).2 k hkl hk1)
          have HTY : Hid (Arm E l[k].form → MTo E l (k + 1)) := Lib.hid fun h j hj h1 h2 => by
            by_cases e : j = k
            · subst e; exact h
            · exact HQ.out j hj h1 (by omega)
          have hus := HS.out k hkl
          obtain ⟨u, hu⟩ : ∃ u, l[k] = u := ⟨_, rfl⟩
          rw [hu] at hy0 hy1 hy2 hy3 hinu HTN HTY hus
          have hul := Nat.le_trans hinu.ok.le hinu.ok.cp
          unfold maxLen at hul
          have gk : (k : Int) < (p : Int) := by omega
          have HKP : Hid (1 ≤ k ∧ k < p) := Lib.hid ⟨hk1, hlt⟩
          clear hu HOF HTO HK HS hk1 hkp hlt hkl
          by_cases u3 : u.kd = 3
          · have g3 : (u.kd != 3) = false := by simpa using u3
            by_cases u2 : u.ks.length = 3
            · obtain ⟨x1, y, z, hxy⟩ := three_of u2
              have harm := arm_three (E := E) u3 hxy
              have h3f : u.form.kd = 3 := by rw [T.form_kd]; exact u3
              have hys := hus.kid h3f (show y ∈ u.ks by rw [hxy]; simp)
              have hzs := hus.kid h3f (show z ∈ u.ks by rw [hxy]; simp)
              obtain ⟨⟨b2, o2, had2, q0, q1, q2, q3⟩, hinx⟩ := hinu.inL.at 0 (by omega)
              obtain ⟨⟨b3', o3, had3, v0, v1, v2, v3⟩, hiny⟩ := hinu.inL.at 1 (by omega)
              obtain ⟨⟨b4', o4, had4, s0, s1, s2, s3⟩, hinz⟩ := hinu.inL.at 2 (by omega)
              rw [had2] at had3 had4
              injection had3 with had3
              injection had3 with e1 e2 e3
              subst e1 e2
              injection had4 with had4
              injection had4 with e1 e2 e3
              subst e1 e2
              have ex : u.ks[0]'(by omega) = x1 := by simp [hxy]
              have ey : u.ks[1]'(by omega) = y := by simp [hxy]
              have ez : u.ks[2]'(by omega) = z := by simp [hxy]
              rw [ex] at q0 q1 q2 q3 hinx
              rw [ey] at v0 v1 v2 v3 hiny
              rw [ez] at s0 s1 s2 s3 hinz
              simp only [Nat.zero_mul, Nat.add_zero] at q0 q1 q2 q3
              have lb2 : b2 < wr.heap.size := World.block_lt_of_cell? _ _ q0
              rw [had2, u2] at hy3
              have HX := Lib.hid fun (W : World) (h : Below wr.heap.size wr W) => rnamed_any x1 W (hinx.below h)
              have HY := Lib.hid fun (W : World) (h : Below wr.heap.size wr W) => rnames_any y W (hiny.below h)
              have HZ := Lib.hid fun (W : World) (h : Below wr.heap.size wr W) => HE.out z W (hinz.below h) hzs
              have HTW := Lib.hid fun (hn : Names y.form) (W : World) (h : Below wr.heap.size wr W) => rtwice_any y.ad y.cp y.ks W (hiny.below h).inL (by have := hys.len hn.1; omega) (decide (texts (y.ks.map T.form)).Nodup) (by simp)
              have HC := Lib.hid fun (W : World) (h : Below (wr.alloc (.cells #[.int .i64 u.kd, .int .i64 u.nn, .string u.tx, .slice (some ⟨b2, o2, none⟩) 3 u.cp] 24)).heap.size (wr.alloc (.cells #[.int .i64 u.kd, .int .i64 u.nn, .string u.tx, .slice (some ⟨b2, o2, none⟩) 3 u.cp] 24)) W) => (⟨cell_block (j := 3) ((h.block wr.heap.size (by simp)).trans (heap_alloc_new _ _)) rfl, ((up (bel1 _ _) h).cell (p := ⟨b2, o2 + 1 * 4, none⟩) lb2).trans v0, ((up (bel1 _ _) h).cell (p := ⟨b2, o2 + 1 * 4 + 1, none⟩) lb2).trans v1, ((up (bel1 _ _) h).cell (p := ⟨b2, o2 + 1 * 4 + 2, none⟩) lb2).trans v2, ((up (bel1 _ _) h).cell (p := ⟨b2, o2 + 1 * 4 + 3, none⟩) lb2).trans v3, ((up (bel1 _ _) h).cell (p := ⟨b2, o2 + 2 * 4, none⟩) lb2).trans s0, ((up (bel1 _ _) h).cell (p := ⟨b2, o2 + 2 * 4 + 1, none⟩) lb2).trans s1, ((up (bel1 _ _) h).cell (p := ⟨b2, o2 + 2 * 4 + 2, none⟩) lb2).trans s2, ((up (bel1 _ _) h).cell (p := ⟨b2, o2 + 2 * 4 + 3, none⟩) lb2).trans s3⟩ : W.cell? ⟨wr.heap.size, 3, none⟩ = some (.slice (some ⟨b2, o2, none⟩) 3 u.cp) ∧ W.cell? ⟨b2, o2 + 1 * 4, none⟩ = some (.int .i64 y.kd) ∧ W.cell? ⟨b2, o2 + 1 * 4 + 1, none⟩ = some (.int .i64 y.nn) ∧ W.cell? ⟨b2, o2 + 1 * 4 + 2, none⟩ = some (.string y.tx) ∧ W.cell? ⟨b2, o2 + 1 * 4 + 3, none⟩ = some (.slice y.ad y.ks.length y.cp) ∧ W.cell? ⟨b2, o2 + 2 * 4, none⟩ = some (.int .i64 z.kd) ∧ W.cell? ⟨b2, o2 + 2 * 4 + 1, none⟩ = some (.int .i64 z.nn) ∧ W.cell? ⟨b2, o2 + 2 * 4 + 2, none⟩ = some (.string z.tx) ∧ W.cell? ⟨b2, o2 + 2 * 4 + 3, none⟩ = some (.slice z.ad z.ks.length z.cp))
              clear hinu ex ey ez had2 u2 hinx hiny hinz hxy hys hzs hus h3f v0 v1 v2 v3 s0 s1 s2 s3 u3 lb3
              cases hn : nameF x1.form with
              | false =>
                have HNN := Lib.hid (HTN.out fun h => by have := (harm.1 h).1; rw [hn] at this; cases this)
                rw [hn] at HX
                clear harm hn
                go_wp2_with (first
                  | (go_at_call 67; refine (HX.out _ (bel1 _ _)).mono ?_; rintro e w3 ⟨rfl, hB⟩; have HB2 := Lib.hid (up (bel1 _ _) hB); clear hB))
                go_ret
                exact AnsR.ofNo (by decide) HNN.out (up HB.out HB2.out)
              | true =>
                rw [hn] at HX
                by_cases hNE : Names y.form ∧ E z.form = true
                · have HNE := Lib.hid hNE
                  have HTW2 := Lib.hid (HTW.out hNE.1)
                  by_cases hnd : (texts (y.ks.map T.form)).Nodup
                  · have HAA := Lib.hid (HTY.out (harm.2 ⟨hn, hNE, hnd⟩))
                    have ed : decide (texts (y.ks.map T.form)).Nodup = true := by simpa using hnd
                    rw [ed] at HTW2
                    clear harm hn hNE hnd ed HTW
                    go_wp2_with (go_at_call 67; refine (HX.out _ (bel1 _ _)).mono ?_; rintro e w3 ⟨rfl, hB⟩; have HBX := Lib.hid hB; have HS3 := Lib.hid (HC.out _ hB.drew); have HS3' := HC.out _ hB; obtain ⟨c3, y0, y1, y2, y3, t0, t1, t2, t3⟩ := HS3'; have HB2 := Lib.hid (up (bel1 _ _) hB); clear hB)
                    go_region_held3 (fun W => W.cell? ⟨wr.heap.size, 3, none⟩ = some (.slice (some ⟨b2, o2, none⟩) 3 u.cp) ∧ W.cell? ⟨b2, o2 + 1 * 4, none⟩ = some (.int .i64 y.kd) ∧ W.cell? ⟨b2, o2 + 1 * 4 + 1, none⟩ = some (.int .i64 y.nn) ∧ W.cell? ⟨b2, o2 + 1 * 4 + 2, none⟩ = some (.string y.tx) ∧ W.cell? ⟨b2, o2 + 1 * 4 + 3, none⟩ = some (.slice y.ad y.ks.length y.cp) ∧ W.cell? ⟨b2, o2 + 2 * 4, none⟩ = some (.int .i64 z.kd) ∧ W.cell? ⟨b2, o2 + 2 * 4 + 1, none⟩ = some (.int .i64 z.nn) ∧ W.cell? ⟨b2, o2 + 2 * 4 + 2, none⟩ = some (.string z.tx) ∧ W.cell? ⟨b2, o2 + 2 * 4 + 3, none⟩ = some (.slice z.ad z.ks.length z.cp)) (first | exact HS3.out | exact HS4.out | exact HS5.out)
                      (first
                        | (go_at_call 177; refine (HY.out _ HB2.out.drew).mono ?_; intro e w4 hA; obtain ⟨rfl, hB⟩ := hA.yes HNE.out.1; have HBX2 := Lib.hid (up HBX.out.drew hB); have HS4 := Lib.hid (HC.out _ HBX2.out); have HB3 := Lib.hid (up HB2.out.drew hB); clear hB hA)
                        | (go_at_call 61; refine (HZ.out _ HB3.out).mono ?_; intro e w5 hA; obtain ⟨rfl, hB⟩ := hA.yes HNE.out.2; have HS5 := Lib.hid (HC.out _ (up HBX2.out hB)); obtain ⟨c3'', y0'', y1'', y2'', y3'', t0'', t1'', t2'', t3''⟩ := HC.out _ (up HBX2.out hB); have HB4 := Lib.hid (up HB3.out hB); clear hB hA)
                        | (go_at_call 126; refine (first_q _ _ _).mono ?_; rintro e w6 ⟨⟨q5, rfl, hq5⟩, rfl⟩; obtain rfl := hq5.2 ⟨rfl, rfl⟩; clear hq5)
                        | fail)
                    go_wp2_with (first
                      | (go_at_call 130; refine (HTW2.out _ HB4.out).mono ?_; rintro e w7 ⟨rfl, hB⟩; have HB5 := Lib.hid (up HB4.out hB); clear hB)
                      | (go_at_call 129; refine (dup_q _ _).mono ?_; rintro e w8 ⟨⟨q6, rfl, hq6⟩, rfl⟩; obtain rfl := hq6.2 rfl; clear hq6))
                    go_roundg (p + 1 - (k + 1))
                    case measure => have := HKP.out; omega
                    case rel => exact ⟨k + 1, by omega, by have := HKP.out; omega, rfl, by go_num, HAA.out, up HB.out HB5.out⟩
                  · have HNN := Lib.hid (HTN.out fun h => hnd (harm.1 h).2.2)
                    have ed : decide (texts (y.ks.map T.form)).Nodup = false := by simpa using hnd
                    rw [ed] at HTW2
                    clear harm hn hNE hnd ed HTW
                    go_wp2_with (go_at_call 67; refine (HX.out _ (bel1 _ _)).mono ?_; rintro e w3 ⟨rfl, hB⟩; have HBX := Lib.hid hB; have HS3 := Lib.hid (HC.out _ hB.drew); have HS3' := HC.out _ hB; obtain ⟨c3, y0, y1, y2, y3, t0, t1, t2, t3⟩ := HS3'; have HB2 := Lib.hid (up (bel1 _ _) hB); clear hB)
                    go_region_held3 (fun W => W.cell? ⟨wr.heap.size, 3, none⟩ = some (.slice (some ⟨b2, o2, none⟩) 3 u.cp) ∧ W.cell? ⟨b2, o2 + 1 * 4, none⟩ = some (.int .i64 y.kd) ∧ W.cell? ⟨b2, o2 + 1 * 4 + 1, none⟩ = some (.int .i64 y.nn) ∧ W.cell? ⟨b2, o2 + 1 * 4 + 2, none⟩ = some (.string y.tx) ∧ W.cell? ⟨b2, o2 + 1 * 4 + 3, none⟩ = some (.slice y.ad y.ks.length y.cp) ∧ W.cell? ⟨b2, o2 + 2 * 4, none⟩ = some (.int .i64 z.kd) ∧ W.cell? ⟨b2, o2 + 2 * 4 + 1, none⟩ = some (.int .i64 z.nn) ∧ W.cell? ⟨b2, o2 + 2 * 4 + 2, none⟩ = some (.string z.tx) ∧ W.cell? ⟨b2, o2 + 2 * 4 + 3, none⟩ = some (.slice z.ad z.ks.length z.cp)) (first | exact HS3.out | exact HS4.out | exact HS5.out)
                      (first
                        | (go_at_call 177; refine (HY.out _ HB2.out.drew).mono ?_; intro e w4 hA; obtain ⟨rfl, hB⟩ := hA.yes HNE.out.1; have HBX2 := Lib.hid (up HBX.out.drew hB); have HS4 := Lib.hid (HC.out _ HBX2.out); have HB3 := Lib.hid (up HB2.out.drew hB); clear hB hA)
                        | (go_at_call 61; refine (HZ.out _ HB3.out).mono ?_; intro e w5 hA; obtain ⟨rfl, hB⟩ := hA.yes HNE.out.2; have HS5 := Lib.hid (HC.out _ (up HBX2.out hB)); obtain ⟨c3'', y0'', y1'', y2'', y3'', t0'', t1'', t2'', t3''⟩ := HC.out _ (up HBX2.out hB); have HB4 := Lib.hid (up HB3.out hB); clear hB hA)
                        | (go_at_call 126; refine (first_q _ _ _).mono ?_; rintro e w6 ⟨⟨q5, rfl, hq5⟩, rfl⟩; obtain rfl := hq5.2 ⟨rfl, rfl⟩; clear hq5)
                        | fail)
                    go_wp2_with (first
                      | (go_at_call 130; refine (HTW2.out _ HB4.out).mono ?_; rintro e w7 ⟨rfl, hB⟩; have HB5 := Lib.hid (up HB4.out hB); clear hB)
                      | (go_at_call 129; refine (dup_any _ _).mono ?_; rintro e w8 ⟨rfl, rfl⟩))
                    go_ret
                    exact AnsR.ofNo (by decide) HNN.out (up HB.out HB5.out)
                · have HNE := Lib.hid hNE
                  have HNN := Lib.hid (HTN.out fun h => hNE (harm.1 h).2.1)
                  clear harm hn hNE HTW
                  go_wp2_with (go_at_call 67; refine (HX.out _ (bel1 _ _)).mono ?_; rintro e w3 ⟨rfl, hB⟩; have HBX := Lib.hid hB; have HS3 := Lib.hid (HC.out _ hB.drew); have HS3' := HC.out _ hB; obtain ⟨c3, y0, y1, y2, y3, t0, t1, t2, t3⟩ := HS3'; have HB2 := Lib.hid (up (bel1 _ _) hB); clear hB)
                  go_region_held3 (fun W => W.cell? ⟨wr.heap.size, 3, none⟩ = some (.slice (some ⟨b2, o2, none⟩) 3 u.cp) ∧ W.cell? ⟨b2, o2 + 1 * 4, none⟩ = some (.int .i64 y.kd) ∧ W.cell? ⟨b2, o2 + 1 * 4 + 1, none⟩ = some (.int .i64 y.nn) ∧ W.cell? ⟨b2, o2 + 1 * 4 + 2, none⟩ = some (.string y.tx) ∧ W.cell? ⟨b2, o2 + 1 * 4 + 3, none⟩ = some (.slice y.ad y.ks.length y.cp) ∧ W.cell? ⟨b2, o2 + 2 * 4, none⟩ = some (.int .i64 z.kd) ∧ W.cell? ⟨b2, o2 + 2 * 4 + 1, none⟩ = some (.int .i64 z.nn) ∧ W.cell? ⟨b2, o2 + 2 * 4 + 2, none⟩ = some (.string z.tx) ∧ W.cell? ⟨b2, o2 + 2 * 4 + 3, none⟩ = some (.slice z.ad z.ks.length z.cp)) (first | exact HS3.out | exact HS4.out | exact HS5.out)
                    (first
                      | (go_at_call 177; refine (HY.out _ HB2.out.drew).mono ?_; intro e w4 hA; obtain ⟨q1', rfl, hq1, hB⟩ := hA; have HQ1 := Lib.hid hq1; have HBX2 := Lib.hid (up HBX.out.drew hB); have HS4 := Lib.hid (HC.out _ HBX2.out); have HB3 := Lib.hid (up HB2.out.drew hB); clear hB hq1)
                      | (go_at_call 61; refine (HZ.out _ HB3.out).mono ?_; intro e w5 hA; obtain ⟨q2', rfl, hq2, hB⟩ := hA; have HQ2 := Lib.hid hq2; have HS5 := Lib.hid (HC.out _ (up HBX2.out hB)); have HB4 := Lib.hid (up HB3.out hB); clear hB hq2)
                      | (go_at_call 126; refine (first_q _ _ _).mono ?_; rintro e w6 ⟨⟨q5, rfl, hq5⟩, rfl⟩; have hn5 : ¬ q5 = 0 := (fun h => HNE.out ⟨HQ1.out.1 (hq5.1 h).1, HQ2.out.1 (hq5.1 h).2⟩); have g5 : (q5 != 0) = true := (by simpa using hn5); have g6 : (q5 == 0) = false := (by simpa using hn5); have HN5 := Lib.hid hn5; clear hq5 hn5)
                      | fail)
                  go_wp2_with fail
                  go_ret
                  exact AnsR.ofNo HN5.out HNN.out (up HB.out HB4.out)
            · have g2 : ((u.ks.length : Int) != 3) = true := by simp; omega
              have HNN := Lib.hid (HTN.out (arm_no fun h => u2 h.2))
              clear hinu hus u2
              go_wp2_with fail
              go_ret
              exact AnsR.ofNo (by decide) HNN.out (up HB.out (bel1 _ _))
          · have g3 : (u.kd != 3) = true := by simpa using u3
            have HNN := Lib.hid (HTN.out (arm_no fun h => u3 h.1))
            clear hinu hus u3
            go_wp2_with fail
            go_ret
            exact AnsR.ofNo (by decide) HNN.out (up HB.out (bel1 _ _))
        · have HYY : Hid (MatchL E (l.map T.form)) := Lib.hid (HTO.out HPR.out fun j hj h1 h2 => HQ.out j hj h1 (by have := HLP.out; omega))
          have gk : decide ((k : Int) < (p : Int)) = false := by simp; omega
          go_wp2_with fail
          go_ret
          exact AnsR.of0 HYY.out HB.out
    · have HNN : Hid (¬ MatchL E (l.map T.form)) := Lib.hid fun h => hP (HOF.out h).1
      have HPN := Lib.hid hP
      clear hP
      go_enter Tryz.func164, Tryz.ntmps164
      go_wp2_with (first
        | (go_at_call 61; refine HE0.out.mono ?_; intro e w2 hA; obtain ⟨q, hq0, hq1, hq2, rfl, hB⟩ := hA.no HPN.out; have HQ0 := Lib.hid hq0; have HB1 := Lib.hid hB; clear hB hA hq0))
      go_ret
      exact AnsR.ofNo HQ0.out HNN.out HB1.out
  · have g : (l.length : Int) < 2 := by omega
    have HN : Hid (¬ MatchL E (l.map T.form)) := Lib.hid fun h => hl (by have := match_len h; rwa [List.length_map] at this)
    clear hl hk hs hE
    go_enter Tryz.func164, Tryz.ntmps164
    go_wp2_with fail
    go_ret
    exact AnsR.ofNo (by decide) HN.out (Below.refl _ _)
end Go.Proofs.YtmlfiopbdlaaaaaGreat
