/- slices.insertionSortCmpFunc at forms and reader.Compare. -/
import Derived.Test.YtedabholcldgbaaGreatDoorSoOrd
namespace Go.Proofs.YtedabholcldgbaaGreatDoor.So
open Go.RowKit Go.Deep Go.Sort Go.Shelf

abbrev CF : Value := .func (.func 36) #[] #[]
/-- Two elements are compared, in any later world. -/
theorem Hd.compare {w0 w : World} {g n : Nat} {d : Array T} {e : Nat → T} (h : Hd w0 w g d) (hi : Is d n e) (hf : AllF w0 g n e) {i j : Nat} (h1 : i < n) (h2 : j < n) (W : World) (hB : Below w.heap.size w W) :
    Calls Tryz.prog 36 #[.agg (encT d[i]!).toArray, .agg (encT d[j]!).toArray] W fun en w' => en = .returned (.int .i64 (cT (e i) (e j))) ∧ Below W.heap.size W w' := by
  have h3 := h.next hB
  rw [hi.2 i h1, hi.2 j h2]
  exact compare_T (e i) (e j) W (h3.far (hf i h1)) (h3.far (hf j h2))
set_option linter.unusedSimpArgs false in
set_option maxHeartbeats 8000000 in
set_option maxRecDepth 1000000 in
theorem insertion_any (w0 W : World) (g n cap a b : Nat) (e : Nat → T) (d : Array T) (hd : Is d n e) (h : Hd w0 W g d) (hf : AllF w0 g n e) (hab : a ≤ b) (hb : b ≤ n) (hn : n ≤ 4611686018427387904) :
    Calls Tryz.prog 96 #[.slice (some ⟨g, 0, none⟩) n cap, .int .i64 a, .int .i64 b, CF] W fun en w' => en = .returned (.tuple #[]) ∧ ∃ d' e', Is d' n e' ∧ SameR e e' a b ∧ Sorted e' a b ∧ Hd w0 w' g d' := by
  have HD := Lib.hid hd
  have H := Lib.hid h
  have HF := Lib.hid hf
  clear hd h hf
  have mixed : Tryz.prog.follows .mixedOrders = true := by kernel_rfl
  have aE := Tryz.isAgg29
  obtain ⟨k4, hk4⟩ : ∃ k4 : Nat, k4 = 4 := ⟨_, rfl⟩
  have zE := Tryz.sizeOf29
  rw [← hk4] at zE
  have HK4 := Lib.hid hk4
  clear hk4
  have aI := Tryz.isAgg3
  have zI := Tryz.sizeOf3
  go_enter Tryz.func96, Tryz.ntmps96
  go_wp2_with fail
  go_loopg [8] (b - a) (fun q vi wr => ∃ (i : Nat) (dk : Array T) (ek : Nat → T), vi = .int .i64 i ∧ a + 1 ≤ i ∧ (i ≤ b ∨ i = a + 1) ∧ q = b + 1 - i ∧ Is dk n ek ∧ SameR e ek a b ∧ Sorted ek a i ∧ Hd w0 wr g dk)
  case atStart => exact ⟨a + 1, d, e, by go_num, by omega, .inr rfl, by omega, HD.out, SameR.refl _ _ _, sorted_few (by omega), H.out⟩
  case round =>
    obtain ⟨i, dk, ek, rfl, hi1, hi2, rfl, hI, hS, hO, hH⟩ := hrel
    have HI := Lib.hid hI
    have HS := Lib.hid hS
    have HO := Lib.hid hO
    have HH := Lib.hid hH
    clear hI hS hO hH
    by_cases hlt : i < b
    · have gi : (i : Int) < (b : Int) := by omega
      go_wp2_with fail
      go_loopg [9] i (fun q vj wj => ∃ (j : Nat) (dj : Array T) (ej : Nat → T), vj = .int .i64 j ∧ a ≤ j ∧ j ≤ i ∧ j = q ∧ Is dj n ej ∧ SameR e ej a b ∧ Ins ej a i j ∧ Hd w0 wj g dj)
      case atStart => exact ⟨i, dk, ek, rfl, by omega, Nat.le_refl _, rfl, HI.out, HS.out, ins_start HO.out, HH.out⟩
      case round =>
        obtain ⟨j, dj, ej, rfl, hj1, hj2, rfl, hI2, hS2, hIns, hH2⟩ := hrel
        have HI2 := Lib.hid hI2
        have HS2 := Lib.hid hS2
        have HIN := Lib.hid hIns
        have HH2 := Lib.hid hH2
        clear hI2 hS2 hIns hH2
        by_cases hja : a < j
        · obtain ⟨p, hs⟩ : ∃ p, p + 1 = j := ⟨j - 1, by omega⟩
          have gs : (a : Int) < (j : Int) := by omega
          have gp : ((j : Int) - 1) = (p : Int) := by omega
          have dg1 : decide ((j : Int) > (a : Int)) = true := by simp; omega
          have dg2 : decide (a < j) = true := by simp; omega
          have gs1 : (j : Int) < (n : Int) := by omega
          have gp1 : (p : Int) < (n : Int) := by omega
          have gs0 : (0 : Int) ≤ (j : Int) := by omega
          have gp0 : (0 : Int) ≤ (p : Int) := by omega
          have hs2 : j < n := by omega
          have hp2 : p < n := by omega
          have hwp : IntKind.i64.wrap (p : Int) = (p : Int) := by rw [IntKind.wrap_i64]; omega
          have hwp2 : IntKind.i64.wrap ((j : Int) - 1) = (p : Int) := by rw [IntKind.wrap_i64]; omega
          have hfar := HF.out.same HS2.out hb
          have hcmp := HH2.out.compare HI2.out hfar hs2 hp2
          have hmv := fun (W' : World) (hB : Below _ _ W') => (HH2.out.next hB).moves (i := j) (j := p) (by rw [HI2.out.1]; omega) (by rw [HI2.out.1]; omega)
          have hsw := fun (W' : World) (hB : Below _ _ W') => (HH2.out.next hB).swap (i := j) (j := p) (by rw [HI2.out.1]; omega) (by rw [HI2.out.1]; omega)
          obtain ⟨cJ, hcJ⟩ : ∃ c, c = encT dj[p]! := ⟨_, rfl⟩
          obtain ⟨cP, hcP⟩ : ∃ c, c = encT dj[j]! := ⟨_, rfl⟩
          have hsJ : cJ.length = 4 := by rw [hcJ]; rfl
          have hsP : cP.length = 4 := by rw [hcP]; rfl
          rw [← hcJ, ← hcP] at hcmp
          simp only [← hcJ, ← hcP] at hmv hsw
          simp only [← HK4.out] at hmv hsw hsJ hsP
          have LD := Lib.hid fun (W' : World) (hB : Below _ _ W') => (⟨(hmv W' hB).2.1, (hmv W' hB).1⟩ : Sem.run Tryz.prog (loadCellsFrom ⟨g, j * k4, none⟩ 0 k4 #[]) W' = .ok cP.toArray W' ∧ Sem.run Tryz.prog (loadCellsFrom ⟨g, p * k4, none⟩ 0 k4 #[]) W' = .ok cJ.toArray W')
          have HMV := Lib.hid hmv
          have HSW := Lib.hid hsw
          have HC := Lib.hid hcmp
          have HIS := Lib.hid (sw_is HI2.out hs2 hp2)
          obtain ⟨cc, hcc⟩ : ∃ cc, cT (ej j) (ej p) = cc := ⟨_, rfl⟩
          rw [hcc] at HC
          have HS' := Lib.hid hs
          have HCC := Lib.hid hcc
          clear hcJ hcP hcc hmv hsw hcmp hs
          by_cases hlv : cc < 0
          · go_wp2_with fail
            go_region_held3 (fun w' => Sem.run Tryz.prog (loadCellsFrom ⟨g, j * k4, none⟩ 0 k4 #[]) w' = .ok cP.toArray w' ∧ Sem.run Tryz.prog (loadCellsFrom ⟨g, p * k4, none⟩ 0 k4 #[]) w' = .ok cJ.toArray w')
              (first
                | exact LD.out _ (Below.refl _ _).drew
                | exact LD.out _ HB2.out)
              (first
                | (go_at_call 36; refine (HC.out _ (Below.refl _ _).drew).mono ?_; rintro en w2 ⟨rfl, hB⟩; have HB2 := Lib.hid (up (Below.refl _ _).drew hB); clear hB))
            obtain ⟨lJ, lP, s1, s2⟩ := HMV.out w2.drew HB2.out.drew
            go_wp2_with fail
            go_big_region_o
            all_goals go_wp2
            go_roundg p
            case measure => omega
            case rel =>
              refine ⟨p, _, _, rfl, by omega, by omega, rfl, HIS.out, HS2.out.trans (sw_same _ (by omega) (by omega) (by omega) (by omega)), ?_, HSW.out w2.drew HB2.out.drew⟩
              have h1 := HIN.out
              have h2 := HCC.out
              rw [← HS'.out] at h1 h2 ⊢
              exact ins_step h1 (by omega) (by omega) (by omega)
          · have hlv' : ¬ cc < 0 := hlv
            go_wp2_with fail
            go_region_held3 (fun w' => Sem.run Tryz.prog (loadCellsFrom ⟨g, j * k4, none⟩ 0 k4 #[]) w' = .ok cP.toArray w' ∧ Sem.run Tryz.prog (loadCellsFrom ⟨g, p * k4, none⟩ 0 k4 #[]) w' = .ok cJ.toArray w')
              (first
                | exact LD.out _ (Below.refl _ _).drew
                | exact LD.out _ HB2.out)
              (first
                | (go_at_call 36; refine (HC.out _ (Below.refl _ _).drew).mono ?_; rintro en w2 ⟨rfl, hB⟩; have HB2 := Lib.hid (up (Below.refl _ _).drew hB); clear hB))
            go_wp2_with fail
            go_roundg (b + 1 - (i + 1))
            case measure => omega
            case rel =>
              refine ⟨i + 1, dj, ej, by go_num, by omega, .inl (by omega), rfl, HI2.out, HS2.out, ?_, HH2.out.next HB2.out⟩
              have h1 := HIN.out
              have h2 := HCC.out
              exact ins_end h1 hj2 (.inr ⟨p, HS'.out.symm, by omega, by rw [HS'.out, h2]; omega⟩)
        · have dg1 : decide ((j : Int) > (a : Int)) = false := by simp; omega
          have dg2 : decide (a < j) = false := by simp; omega
          have dg3 : ¬ (a : Int) < (j : Int) := by omega
          go_wp2_with fail
          go_big_region_o
          all_goals go_wp2
          go_roundg (b + 1 - (i + 1))
          case measure => omega
          case rel => exact ⟨i + 1, dj, ej, by go_num, by omega, .inl (by omega), rfl, HI2.out, HS2.out, ins_end HIN.out hj2 (.inl (by omega)), HH2.out.drew⟩
    · have gi : ¬ (i : Int) < (b : Int) := by omega
      go_wp2_with fail
      go_end0
      exact ⟨rfl, dk, ek, HI.out, HS.out, HO.out.sub (Nat.le_refl _) (by omega), HH.out⟩
end Go.Proofs.YtedabholcldgbaaGreatDoor.So
