/- The document's own At. -/
import Derived.Test.YtkcckhchlhmhhaaDoorOwn
import Derived.StillTailTactics
import Derived.Deep.QuietTactic
import Derived.BigQuiet
namespace Go.Proofs.YtkcckhchlhmhhaaDoor
open Go.RowKit Go.Deep

theorem atF_no {f : Fm} (h : f.kd ≠ 3) (i : Int) (p : List Int) : atF f (i :: p) = none := by
  rw [atF, dif_neg]
  rintro ⟨a, b⟩
  unfold Fm.kids at b
  rw [if_neg h] at b
  simp at b
theorem AtRel.drewN {w wr : World} {x : T} (h : AtRel w wr x) (n : Nat) : AtRel w (wr.drewN n) x := ⟨h.box, h.res, below_drewN h.below n⟩
/-- How the document's At ends: the part has memory of its own. -/
def RAtEnd (w w' : World) (r : Option Fm) (e : Ending) : Prop :=
  match r with
  | some f => ∃ u : T, e = .returned (.tuple #[u.val, .int .i64 0]) ∧ u.form = f ∧ In w' u ∧ Below w.heap.size w w'
  | none => e = .returned (.tuple #[.agg #[.int .i64 0, .int .i64 0, .string ⟨#[]⟩, .slice none 0 0], .int .i64 3]) ∧ Below w.heap.size w w'
set_option maxHeartbeats 4000000 in
set_option maxRecDepth 100000 in
theorem rat_any (t : T) (pa : Option Addr) (pc : Nat) (ps : List Int) (w : World) (hin : In w t) (hp : InP w pa ps) (hl : ps.length ≤ maxLen) (hbk : bkF t.form ≤ 2000000) :
    Calls Tryd.prog 32 #[t.val, .slice pa ps.length pc] w fun e w' => RAtEnd w w' (atF t.form ps) e := by
  unfold maxLen at hl
  have HP := Lib.hid hp
  have HIN := Lib.hid hin
  clear hp hin
  go_enter Tryd.func32, Tryd.ntmps32
  go_wp2_with fail
  go_loopg [6] (ps.length) (fun m i wr => ∃ (k : Nat) (x : T), k ≤ ps.length ∧ m = ps.length - k ∧ i = .int .i64 k ∧ atF t.form ps = atF x.form (ps.drop k) ∧ In w x ∧ bkF x.form ≤ 2000000 ∧ AtRel w wr x)
  case atStart => exact ⟨0, t, by omega, rfl, rfl, rfl, HIN.out, hbk, ((bel1 _ _).block _ (by simp)).trans (heap_alloc_new w _), res_new _ _ _, bel2 _ _ _⟩
  case round =>
    obtain ⟨k, x, hk, rfl, rfl, hat, hx, hxb, hR⟩ := hrel
    have HA := Lib.hid hat
    have HR := Lib.hid hR
    have HX := Lib.hid hx
    obtain ⟨a, ha⟩ : ∃ a, x.ad = a := ⟨_, rfl⟩
    obtain ⟨b0, b1, b2, b3, z0, z1, z2, z3⟩ := hR.box.facts
    obtain ⟨c0, c1, c2, c3, y0, y1, y2, y3⟩ := hR.res.facts
    rw [ha] at b3
    have HAD := Lib.hid ha
    have n1 : x.ks.length ≤ maxLen := Nat.le_trans hx.ok.le hx.ok.cp
    unfold maxLen at n1
    have hsz := hR.below.size
    clear hat hR hx
    by_cases hlt : k < ps.length
    · obtain ⟨pb, po, hpa, hpc⟩ := HP.out.below HR.out.below k hlt
      have HD := Lib.hid (List.drop_eq_getElem_cons hlt)
      obtain ⟨i, hi⟩ : ∃ i, ps[k] = i := ⟨_, rfl⟩
      rw [hi] at hpc HD
      have lpb : pb < wr.heap.size := World.block_lt_of_cell? _ _ hpc
      clear hi
      subst hpa
      by_cases k3 : x.kd = 3
      · have g3 : (x.kd != 3) = false := by simpa using k3
        have hks : x.ks.map T.form = x.form.kids := by unfold Fm.kids; rw [T.form_kd, if_pos k3, T.form_ks]
        have HKS := Lib.hid hks
        have HI : Hid (InL w a 0 x.ks) := Lib.hid (by rw [← ha]; exact HX.out.inL)
        by_cases hi0 : i < 0
        · have HE := Lib.hid (show atF t.form ps = none by rw [HA.out, HD.out]; exact atF_out HKS.out i (Or.inl hi0) _)
          have d0 : decide (i < 0) = true := by simpa using hi0
          clear hi0 k3 hks ha
          go_wp2_with fail
          go_quiet (fail)
          go_wp2_with fail
          refine bodyPost_ret (v := .tuple #[.agg #[.int .i64 0, .int .i64 0, .string ⟨#[]⟩, .slice none 0 0], .int .i64 3]) (by simp [results, Tryd.results32, go_sem, c0, c1, c2, c3]) rfl ?_
          rw [HE.out]
          exact ⟨rfl, below_lay4 (HR.out.drewN _).below (by omega) _ _ _ _⟩
        · obtain ⟨j, rfl⟩ := Int.eq_ofNat_of_zero_le (Int.not_lt.1 hi0)
          have d0 : decide ((j : Int) < 0) = false := by simp
          clear hi0
          by_cases hj : j < x.ks.length
          · have hj' : decide ((x.ks.length : Int) ≤ (j : Int)) = false := by simpa using hj
            have HN := Lib.hid (show atF t.form ps = atF x.ks[j].form (ps.drop (k + 1)) by rw [HA.out, HD.out]; exact atF_cons HKS.out j hj _)
            obtain ⟨⟨b, o, rfl, x0, x1, x2, x3⟩, hkin⟩ := (HI.out.below HR.out.below).at j hj
            have lb : b < wr.heap.size := World.block_lt_of_cell? _ _ x0
            have HKB := Lib.hid (bk_kid hj)
            have hj0 : (0 : Int) ≤ (j : Int) := by omega
            have hj9 : (j : Int) < (x.ks.length : Int) := by omega
            clear k3 hks hkin
            go_wp2_with fail
            go_quiet (fail)
            go_wp2_with fail
            go_region
            go_wp2_with fail
            go_roundg (ps.length - (k + 1))
            case measure => omega
            case rel => exact ⟨k + 1, x.ks[j], by omega, rfl, by go_num, HN.out, (HI.out.at j hj).2, by have := HKB.out; omega, (HR.out.drewN _).box.set _ _ _ _, (HR.out.drewN _).res.other (by omega) _ _ _ _, below_lay4 (HR.out.drewN _).below (Nat.le_refl _) _ _ _ _⟩
          · have HE := Lib.hid (show atF t.form ps = none by rw [HA.out, HD.out]; exact atF_out HKS.out _ (Or.inr (by omega)) _)
            have hj' : decide ((x.ks.length : Int) ≤ (j : Int)) = true := by simp; omega
            clear k3 hks ha
            go_wp2_with fail
            go_quiet (fail)
            go_wp2_with fail
            refine bodyPost_ret (v := .tuple #[.agg #[.int .i64 0, .int .i64 0, .string ⟨#[]⟩, .slice none 0 0], .int .i64 3]) (by simp [results, Tryd.results32, go_sem, c0, c1, c2, c3]) rfl ?_
            rw [HE.out]
            exact ⟨rfl, below_lay4 (HR.out.drewN _).below (by omega) _ _ _ _⟩
      · have g3 : (x.kd != 3) = true := by simpa using k3
        have HE := Lib.hid (show atF t.form ps = none by rw [HA.out, HD.out]; exact atF_no (by rw [T.form_kd]; exact k3) _ _)
        clear k3 ha
        go_wp2_with fail
        go_quiet (fail)
        go_wp2_with fail
        refine bodyPost_ret (v := .tuple #[.agg #[.int .i64 0, .int .i64 0, .string ⟨#[]⟩, .slice none 0 0], .int .i64 3]) (by simp [results, Tryd.results32, go_sem, c0, c1, c2, c3]) rfl ?_
        rw [HE.out]
        exact ⟨rfl, below_lay4 (HR.out.drewN _).below (by omega) _ _ _ _⟩
    · have HE := Lib.hid (show atF t.form ps = some x.form by rw [HA.out, List.drop_eq_nil_of_le (by omega)]; exact atF_nil _)
      have HO := Lib.hid (own_T x wr (HX.out.below HR.out.below) hxb)
      rw [← HAD.out] at b3
      clear ha
      go_wp2_with (go_at_call 54; refine HO.out.mono ?_; rintro e w2 ⟨u, rfl, hu, hi, hf, _, _, hB⟩; have HU := Lib.hid hu; have HI := Lib.hid hi; have HF := Lib.hid hf; have HB := Lib.hid (upB HR.out.below hB (Nat.le_refl _)); obtain ⟨c0, c1, c2, c3, y0, y1, y2, y3⟩ := (HR.out.res.below hB).facts; clear hu hi hf hB)
      refine bodyPost_ret (v := .tuple #[u.val, .int .i64 0]) (by simp [results, Tryd.results32, go_sem, c0, c1, c2, c3]) rfl ?_
      rw [HE.out]
      refine ⟨u, rfl, HU.out, HI.out.same _ (Nat.lt_succ_self _) fun b hb => ?_, below_lay4 HB.out (by omega) _ _ _ _⟩
      have hne : b ≠ w.heap.size + 1 := by have h1 := HF.out b hb; have h2 := lt_of_block HR.out.res; omega
      rw [Below.heap_setCell _ _ _ _ hne, Below.heap_setCell _ _ _ _ hne, Below.heap_setCell _ _ _ _ hne, Below.heap_setCell _ _ _ _ hne]
end Go.Proofs.YtkcckhchlhmhhaaDoor
