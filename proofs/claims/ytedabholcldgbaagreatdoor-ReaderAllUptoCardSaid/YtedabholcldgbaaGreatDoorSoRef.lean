/- The document's Sort. -/
import Derived.Test.YtedabholcldgbaaGreatDoorSoRef0
import Derived.Test.YtedabholcldgbaaGreatDoorRcmp
import Derived.Laws.AppendOwnNone
namespace Go.Proofs.YtedabholcldgbaaGreatDoor.So
open Go.RowKit Go.Deep

theorem cells_load {W : World} {b o : Nat} {t : T} (h : Cells4 W b o t) : Sem.run Tryz.prog (loadCellsFrom ⟨b, o, none⟩ 0 4 #[]) W = .ok (encT t).toArray W :=
  run_loadCellsFrom_list Tryz.prog _ _ _ 4 (encT_len _) fun j v hj => by
    have hl : j < 4 := (List.getElem?_eq_some_iff.1 hj).1
    obtain ⟨h0, h1, h2, h3⟩ := h
    rw [Addr.add_lit]
    have hr : j = 0 ∨ j = 1 ∨ j = 2 ∨ j = 3 := by omega
    rcases hr with rfl | rfl | rfl | rfl
    · rw [show o + 0 = o from rfl, h0, ← hj]; rfl
    · rw [h1, ← hj]; rfl
    · rw [h2, ← hj]; rfl
    · rw [h3, ← hj]; rfl
theorem rcmpE (t u : T) (W : World) (h1 : In W t) (h2 : In W u) : Calls Tryz.prog 39 #[.agg (encT t).toArray, .agg (encT u).toArray] W fun e w' => e = .returned (.int .i64 (cT t u)) ∧ Below W.heap.size W w' := rcompare_T t u W h1 h2
theorem requE (t u : T) (W : World) (h1 : In W t) (h2 : In W u) : Calls Tryz.prog 28 #[.agg (encT t).toArray, .agg (encT u).toArray] W fun e w' => e = .returned (.bool (cT t u == 0)) ∧ Below W.heap.size W w' := requal_T t u W h1 h2
theorem ownE (u : T) (W : World) (h : In W u) (hb : bkF u.form ≤ 2000000) : Calls Tryz.prog 40 #[.agg (encT u).toArray] W fun e w' => OwnEnd W w' u.form e := own_T u W h hb
set_option linter.unusedSimpArgs false in
set_option maxHeartbeats 8000000 in
set_option maxRecDepth 1000000 in
theorem rsort_any (va : Option Addr) (vc : Nat) (ts : List T) (w : World) (hin : InL w va 0 ts) (hl : ts.length ≤ 1000000) (hbk : ∀ t ∈ ts, bkF t.form ≤ 2000000) :
    Calls Tryz.prog 14 #[.slice va ts.length vc] w fun e w' => SortEnd w w' ts e := by
  have HK : Hid (∀ W, Below w.heap.size w W → InL W va 0 ts) := Lib.hid fun W h => hin.below h
  have HBK := Lib.hid fun k (h : k < ts.length) => hbk ts[k] (List.getElem_mem h)
  clear hin hbk
  have mixed : Tryz.prog.follows .mixedOrders = true := by kernel_rfl
  have aE := Tryz.isAgg29
  obtain ⟨k4, hk4⟩ : ∃ k4 : Nat, k4 = 4 := ⟨_, rfl⟩
  have zE := Tryz.sizeOf29
  rw [← hk4] at zE
  have HK4 := Lib.hid hk4
  clear hk4
  go_enter Tryz.func14, Tryz.ntmps14
  go_wp2_with fail
  go_loopg [3, 4] ts.length (fun m v i wr => ∃ (k : Nat) (us : List T), k ≤ ts.length ∧ m = ts.length - k ∧ i = .int .i64 k ∧ Out w wr ts k v us ∧ us.length ≤ ts.length)
  case atStart => exact ⟨0, [], by omega, by omega, rfl, Out.start w ts, by simp⟩
  case round =>
    obtain ⟨k, us, hk, rfl, rfl, ho, hul⟩ := hrel
    have HO := Lib.hid ho
    by_cases hlt : k < ts.length
    · obtain ⟨⟨b, o, rfl, hx⟩, hink⟩ := (HK.out _ ho.own.below).at k hlt
      have gk : (k : Int) < (ts.length : Int) := by omega
      have hx0 := hx.1
      have lb : b < wr.heap.size := World.block_lt_of_cell? _ _ hx0
      have HT := Lib.hid fun (W : World) (hB : Below wr.heap.size wr W) => hink.below hB
      have HX := Lib.hid fun (W : World) (hB : Below wr.heap.size wr W) => cells_load (W := W) (b := b) (o := o + k * 4) (t := ts[k]) ⟨by rw [World.cell?_of_block (hB.block b lb)]; exact hx.1, by rw [World.cell?_of_block (hB.block b lb)]; exact hx.2.1, by rw [World.cell?_of_block (hB.block b lb)]; exact hx.2.2.1, by rw [World.cell?_of_block (hB.block b lb)]; exact hx.2.2.2⟩
      have HXC := Lib.hid fun (W : World) (hB : Below wr.heap.size wr W) => (⟨by rw [World.cell?_of_block (hB.block b lb)]; exact hx.1, by rw [World.cell?_of_block (hB.block b lb)]; exact hx.2.1, by rw [World.cell?_of_block (hB.block b lb)]; exact hx.2.2.1, by rw [World.cell?_of_block (hB.block b lb)]; exact hx.2.2.2⟩ : Cells4 W b (o + k * 4) ts[k])
      have HWV := Lib.hid fun (W : World) (hB : Below wr.heap.size wr W) => own_T ts[k] W (hink.below hB) (HBK.out k hlt)
      have HUI := Lib.hid ho.ins
      clear hink hx0 hx
      by_cases hus : us = []
      · subst hus
        obtain ⟨i0, hi0, _⟩ := info_parts info27
        rcases id ho.own.own.2 with ⟨rfl, _⟩ | ⟨g, uc, cur, rfl, _, _, _, _, _⟩
        · clear ho
          go_wp2_with fail
          go_loopg [5] 0 (fun _ vx wa => vx = .int .i64 0 ∧ Below wr.heap.size wr wa)
          case atStart => exact ⟨rfl, Below.refl _ _⟩
          case round =>
            obtain ⟨rfl, hBa⟩ := hrel
            have HBA := Lib.hid hBa
            clear hBa
            go_wp2_with fail
            go_big_region_o
            all_goals go_wp2
            obtain ⟨w2, hw2⟩ : ∃ w2, wr.drew = w2 := ⟨_, rfl⟩
            have HB2 := HBA.out.drew
            rw [hw2] at HB2 ⊢
            have HB2 := Lib.hid HB2
            clear hw2
            go_big_region_o
            obtain ⟨w3, hw3⟩ : ∃ w3, w2.drew = w3 := ⟨_, rfl⟩
            have HB3 := HB2.out.drew
            rw [hw3] at HB3 ⊢
            have HB3 := Lib.hid HB3
            clear hw3
            have H0 : Hid (Own4 w3.heap.size w3 (w3.alloc (.cells #[] 29)) (.slice (some ⟨w3.heap.size, 0, none⟩) 0 0) []) := Lib.hid ⟨World.ownsRow_made w3 #[] 0 (Nat.le_refl _) (Nat.zero_le _) (by simp), bel1 _ _, by simp⟩
            have e4 := HK4.out
            subst e4
            go_wp2_with (first
              | (at_builtin; refine wpList_append_own_none rfl _ _ 22 rfl w3.heap.size 29 i0 4 Tryz.underlying22 hi0 _ _ _ rfl H0.out.own rfl ?_; obtain ⟨x0, x1, x2, x3⟩ := HXC.out _ (up HB3.out H0.out.below); have H4 := H0)
              | (go_at_call 40; refine (HWV.out _ (up HB3.out H4.out.below)).mono ?_; rintro e w5 ⟨u, rfl, hu, hi, hf, _, _, hB⟩; have HU := Lib.hid hu; have HIU := Lib.hid hi; have HF := Lib.hid hf; have HB5 := Lib.hid hB; clear hu hi hf hB)
              | (at_builtin; refine own4_push rfl _ _ 22 rfl Tryz.underlying22 rfl (H4.out.next HB5.out) u 1 _ rfl rfl (by simp) ?_; intro v6 w6 h6 g6 hv6; have H6 := Lib.hid h6; have HKU := Lib.hid (keep1 H4.out HIU.out HF.out g6 hv6); clear h6 g6 hv6)
              | (at_builtin; refine wpList_append_own_none rfl _ _ 22 rfl w3.heap.size 29 i0 4 Tryz.underlying22 hi0 _ _ _ rfl H6.out.own rfl ?_; have H7 := H6; have HKK := Lib.hid HKU.out.1))
            go_roundg (ts.length - (k + 1))
            case measure => omega
            case rel => exact ⟨k + 1, [u], by omega, rfl, by go_num, HO.out.put (a := 0) hlt (Nat.zero_le _) HU.out (fun x hx => absurd hx (by simp)) (fun hx => absurd hx (by simp)) HB3.out H7.out HKK.out, by simp; omega⟩
        · clear ho
          go_wp2_with fail
          go_loopg [5] 0 (fun _ vx wa => vx = .int .i64 0 ∧ Below wr.heap.size wr wa)
          case atStart => exact ⟨rfl, Below.refl _ _⟩
          case round =>
            obtain ⟨rfl, hBa⟩ := hrel
            have HBA := Lib.hid hBa
            clear hBa
            go_wp2_with fail
            go_big_region_o
            all_goals go_wp2
            obtain ⟨w2, hw2⟩ : ∃ w2, wr.drew = w2 := ⟨_, rfl⟩
            have HB2 := HBA.out.drew
            rw [hw2] at HB2 ⊢
            have HB2 := Lib.hid HB2
            clear hw2
            go_big_region_o
            obtain ⟨w3, hw3⟩ : ∃ w3, w2.drew = w3 := ⟨_, rfl⟩
            have HB3 := HB2.out.drew
            rw [hw3] at HB3 ⊢
            have HB3 := Lib.hid HB3
            clear hw3
            by_cases hcu : uc = 0
            · have hcu0 := hcu
              have H0 : Hid (Own4 w3.heap.size w3 (w3.alloc (.cells #[] 29)) (.slice (some ⟨w3.heap.size, 0, none⟩) 0 0) []) := Lib.hid ⟨World.ownsRow_made w3 #[] 0 (Nat.le_refl _) (Nat.zero_le _) (by simp), bel1 _ _, by simp⟩
              have e4 := HK4.out
              subst e4
              go_wp2_with (first
                | (at_builtin; refine own4_more rfl _ _ 22 rfl Tryz.underlying22 rfl H0.out [] _ _ 0 _ rfl rfl (fun j y hj => by simp [cellsT] at hj) (by simp) ?_; intro v4 w4 h4 g4; obtain ⟨x0, x1, x2, x3⟩ := HXC.out _ (up HB3.out h4.below); have H4 := Lib.hid h4; clear h4 g4)
                | (go_at_call 40; refine (HWV.out _ (up HB3.out H4.out.below)).mono ?_; rintro e w5 ⟨u, rfl, hu, hi, hf, _, _, hB⟩; have HU := Lib.hid hu; have HIU := Lib.hid hi; have HF := Lib.hid hf; have HB5 := Lib.hid hB; clear hu hi hf hB)
                | (at_builtin; refine own4_push rfl _ _ 22 rfl Tryz.underlying22 rfl (H4.out.next HB5.out) u 1 _ rfl rfl (by simp) ?_; intro v6 w6 h6 g6 hv6; have H6 := Lib.hid h6; have HKU := Lib.hid (keep1 H4.out HIU.out HF.out g6 hv6); clear h6 g6 hv6)
                | (at_builtin; refine own4_more rfl _ _ 22 rfl Tryz.underlying22 rfl H6.out [] _ _ 0 _ rfl rfl (fun j y hj => by simp [cellsT] at hj) (by simp) ?_; intro v7 w7 h7 g7; have H7 := Lib.hid h7; have HKK := Lib.hid (keep2 HKU.out g7); clear h7 g7))
              go_roundg (ts.length - (k + 1))
              case measure => omega
              case rel => exact ⟨k + 1, [u], by omega, rfl, by go_num, HO.out.put (a := 0) hlt (Nat.zero_le _) HU.out (fun x hx => absurd hx (by simp)) (fun hx => absurd hx (by simp)) HB3.out H7.out HKK.out, by simp; omega⟩
            · have hcu0 := hcu
              have H0 : Hid (Own4 w3.heap.size w3 (w3.alloc (.cells #[] 29)) (.slice (some ⟨w3.heap.size, 0, none⟩) 0 0) []) := Lib.hid ⟨World.ownsRow_made w3 #[] 0 (Nat.le_refl _) (Nat.zero_le _) (by simp), bel1 _ _, by simp⟩
              have e4 := HK4.out
              subst e4
              go_wp2_with (first
                | (at_builtin; refine own4_more rfl _ _ 22 rfl Tryz.underlying22 rfl H0.out [] _ _ 0 _ rfl rfl (fun j y hj => by simp [cellsT] at hj) (by simp) ?_; intro v4 w4 h4 g4; obtain ⟨x0, x1, x2, x3⟩ := HXC.out _ (up HB3.out h4.below); have H4 := Lib.hid h4; clear h4 g4)
                | (go_at_call 40; refine (HWV.out _ (up HB3.out H4.out.below)).mono ?_; rintro e w5 ⟨u, rfl, hu, hi, hf, _, _, hB⟩; have HU := Lib.hid hu; have HIU := Lib.hid hi; have HF := Lib.hid hf; have HB5 := Lib.hid hB; clear hu hi hf hB)
                | (at_builtin; refine own4_push rfl _ _ 22 rfl Tryz.underlying22 rfl (H4.out.next HB5.out) u 1 _ rfl rfl (by simp) ?_; intro v6 w6 h6 g6 hv6; have H6 := Lib.hid h6; have HKU := Lib.hid (keep1 H4.out HIU.out HF.out g6 hv6); clear h6 g6 hv6)
                | (at_builtin; refine own4_more rfl _ _ 22 rfl Tryz.underlying22 rfl H6.out [] _ _ 0 _ rfl rfl (fun j y hj => by simp [cellsT] at hj) (by simp) ?_; intro v7 w7 h7 g7; have H7 := Lib.hid h7; have HKK := Lib.hid (keep2 HKU.out g7); clear h7 g7))
              go_roundg (ts.length - (k + 1))
              case measure => omega
              case rel => exact ⟨k + 1, [u], by omega, rfl, by go_num, HO.out.put (a := 0) hlt (Nat.zero_le _) HU.out (fun x hx => absurd hx (by simp)) (fun hx => absurd hx (by simp)) HB3.out H7.out HKK.out, by simp; omega⟩
      · obtain ⟨g, uc, rfl⟩ := own_some ho.own.own hus
        have HGC := Lib.hid fun (W : World) (hB : Below wr.heap.size wr W) (a : Nat) (ha : a < us.length) => cells_load (W := W) (b := g) (o := a * 4) (t := us[a]) (by
          have h1 := (own_hd (ho.own.next hB).own).2.2.2.2
          exact (h1.first (lay_is us)).cells a ha |> fun h => by simpa [ha] using h)
        obtain ⟨_, hgB, hcap, hcm, _⟩ := own_hd ho.own.own
        have hus' : 0 < us.length := List.length_pos_iff.2 hus
        clear ho hus
        go_wp2_with fail
        go_loopg [5] us.length (fun q vx wa => ∃ a : Nat, vx = .int .i64 a ∧ a ≤ us.length ∧ q = us.length - a ∧ Hid (∀ x (hx : x < us.length), x < a → cT us[x] ts[k] < 0) ∧ Below wr.heap.size wr wa)
        case atStart => exact ⟨0, rfl, by omega, by omega, Lib.hid fun x _ h => by omega, Below.refl _ _⟩
        case round =>
          obtain ⟨a, rfl, hal, rfl, HLO, hBa⟩ := hrel
          have HBA := Lib.hid hBa
          clear hBa
          by_cases hau : a < us.length
          · have ga : (a : Int) < (us.length : Int) := by omega
            have ga0 : (0 : Int) ≤ (a : Int) := by omega
            have gk0 : (0 : Int) ≤ (k : Int) := by omega
            have dg1 : decide ((a : Int) < (us.length : Int)) = true := by simp; omega
            have dg2 : decide (a < us.length) = true := by simp; omega
            obtain ⟨cc, hcc⟩ : ∃ cc, cT us[a] ts[k] = cc := ⟨_, rfl⟩
            have hcmp := fun (W : World) (hB : Below _ _ W) => rcmpE us[a] ts[k] W ((HUI.out _ (List.getElem_mem hau)).below hB) (HT.out W hB)
            have heq := fun (W : World) (hB : Below _ _ W) => requE us[a] ts[k] W ((HUI.out _ (List.getElem_mem hau)).below hB) (HT.out W hB)
            have hown := fun (W : World) (hB : Below _ _ W) => ownE ts[k] W (HT.out W hB) (HBK.out k hlt)
            have hld := fun (W : World) (hB : Below _ _ W) => (⟨HGC.out W hB a hau, HX.out W hB⟩ : _ ∧ _)
            obtain ⟨cI, hcI⟩ : ∃ y, y = encT us[a] := ⟨_, rfl⟩
            obtain ⟨cX, hcX⟩ : ∃ y, y = encT ts[k] := ⟨_, rfl⟩
            rw [← hcI, ← hcX] at hcmp heq
            rw [← hcX] at hown
            simp only [← hcI, ← hcX] at hld
            simp only [← HK4.out] at hld
            rw [hcc] at hcmp heq
            have HC := Lib.hid hcmp
            have HQ := Lib.hid heq
            have HW := Lib.hid hown
            have LD := Lib.hid hld
            have HCC := Lib.hid hcc
            clear hcI hcX hcmp heq hown hld hcc
            by_cases hneg : cc < 0
            · go_wp2_with fail
              go_region_held3 (fun w' => Sem.run Tryz.prog (loadCellsFrom ⟨g, a * k4, none⟩ 0 k4 #[]) w' = .ok cI.toArray w' ∧ Sem.run Tryz.prog (loadCellsFrom ⟨b, o + k * k4, none⟩ 0 k4 #[]) w' = .ok cX.toArray w')
                (first
                  | exact LD.out _ HBA.out.drew
                  | exact LD.out _ HB2.out)
                (first
                  | (go_at_call 39; refine (HC.out _ HBA.out.drew).mono ?_; rintro en w2 ⟨rfl, hB⟩; have HB2 := Lib.hid (up HBA.out.drew hB); clear hB))
              go_wp2_with fail
              go_roundg (us.length - (a + 1))
              case measure => omega
              case rel =>
                refine ⟨a + 1, by go_num, hau, rfl, Lib.hid fun x hx hxa => ?_, HB2.out⟩
                by_cases c : x = a
                · subst c; rw [HCC.out]; exact hneg
                · exact HLO.out x hx (by omega)
            · go_wp2_with fail
              go_region_held3 (fun w' => Sem.run Tryz.prog (loadCellsFrom ⟨g, a * k4, none⟩ 0 k4 #[]) w' = .ok cI.toArray w' ∧ Sem.run Tryz.prog (loadCellsFrom ⟨b, o + k * k4, none⟩ 0 k4 #[]) w' = .ok cX.toArray w')
                (first
                  | exact LD.out _ HBA.out.drew
                  | exact LD.out _ HB2.out)
                (first
                  | (go_at_call 39; refine (HC.out _ HBA.out.drew).mono ?_; rintro en w2 ⟨rfl, hB⟩; have HB2 := Lib.hid (up HBA.out.drew hB); clear hB))
              go_wp2_with fail
              by_cases hz : cc = 0
              · rw [show (cc == 0) = true by simpa using hz] at HQ
                have HZ := Lib.hid hz
                clear hz
                go_region_held3 (fun w' => Sem.run Tryz.prog (loadCellsFrom ⟨g, a * k4, none⟩ 0 k4 #[]) w' = .ok cI.toArray w' ∧ Sem.run Tryz.prog (loadCellsFrom ⟨b, o + k * k4, none⟩ 0 k4 #[]) w' = .ok cX.toArray w')
                  (first
                    | exact LD.out _ HB2.out.drew
                    | exact LD.out _ HB3.out)
                  (first
                    | (go_at_call 28; refine (HQ.out _ HB2.out.drew).mono ?_; rintro en w3 ⟨rfl, hB⟩; have HB3 := Lib.hid (up HB2.out.drew hB); clear hB))
                go_wp2_with fail
                go_roundg (ts.length - (k + 1))
                case measure => omega
                case rel => exact ⟨k + 1, us, by omega, rfl, by go_num, (HO.out.next HB3.out).skip hlt hau (by rw [HCC.out]; exact HZ.out), hul⟩
              · rw [show (cc == 0) = false by simpa using hz] at HQ
                have HZ := Lib.hid hz
                clear hz
                go_region_held3 (fun w' => Sem.run Tryz.prog (loadCellsFrom ⟨g, a * k4, none⟩ 0 k4 #[]) w' = .ok cI.toArray w' ∧ Sem.run Tryz.prog (loadCellsFrom ⟨b, o + k * k4, none⟩ 0 k4 #[]) w' = .ok cX.toArray w')
                  (first
                    | exact LD.out _ HB2.out.drew
                    | exact LD.out _ HB3.out)
                  (first
                    | (go_at_call 28; refine (HQ.out _ HB2.out.drew).mono ?_; rintro en w3 ⟨rfl, hB⟩; have HB3 := Lib.hid (up HB2.out.drew hB); clear hB))
                have H0 : Hid (Own4 w3.heap.size w3 (w3.alloc (.cells #[] 29)) (.slice (some ⟨w3.heap.size, 0, none⟩) 0 0) []) := Lib.hid ⟨World.ownsRow_made w3 #[] 0 (Nat.le_refl _) (Nat.zero_le _) (by simp), bel1 _ _, by simp⟩
                have HS0 := Lib.hid (own4_cells (HO.out.next (up HB3.out (bel1 w3 (.cells #[] 29)))).own 0 a (by omega))
                have hcap1 : ¬ uc = a := by omega
                have hcap2 : (a : Int) ≤ (uc : Int) := by omega
                have hcap3 : (a : Int) ≤ (us.length : Int) := by omega
                have e4 := HK4.out
                subst e4
                have HT1 : Hid ((us.take a).length = a) := Lib.hid (by rw [List.length_take]; omega)
                have HT2 : Hid ((us.drop a).length = us.length - a) := Lib.hid (by rw [List.length_drop])
                go_wp2_with (first
                  | (at_builtin; refine own4_more rfl _ _ 22 rfl Tryz.underlying22 rfl H0.out (us.take a) g 0 a _ rfl HT1.out HS0.out (by simp; omega) ?_; intro v4 w4 h4 g4; obtain ⟨x0, x1, x2, x3⟩ := HXC.out _ (up HB3.out h4.below); have H4 := Lib.hid h4; clear h4 g4)
                  | (go_at_call 40; refine (HWV.out _ (up HB3.out H4.out.below)).mono ?_; rintro e w5 ⟨u, rfl, hu, hi, hf, _, _, hB⟩; have HU := Lib.hid hu; have HIU := Lib.hid hi; have HF := Lib.hid hf; have HB5 := Lib.hid hB; clear hu hi hf hB)
                  | (at_builtin; refine own4_push rfl _ _ 22 rfl Tryz.underlying22 rfl (H4.out.next HB5.out) u 1 _ rfl rfl (by have := HT1.out; simp; omega) ?_; intro v6 w6 h6 g6 hv6; have H6 := Lib.hid h6; have HKU := Lib.hid (keep1 H4.out HIU.out HF.out g6 hv6); clear h6 g6 hv6)
                  | (at_builtin; refine own4_more rfl _ _ 22 rfl Tryz.underlying22 rfl H6.out (us.drop a) g (a * 4) (us.length - a) _ rfl HT2.out (fun j y hj => by exact own4_cells (HO.out.next (up HB3.out H6.out.below)).own a (us.length - a) (by omega) j y (by rw [List.take_of_length_le (by rw [HT2.out]; omega)]; exact hj)) (by have := HO.out.len; simp; omega) ?_; intro v7 w7 h7 g7; have H7 := Lib.hid h7; have HKK := Lib.hid (keep2 HKU.out g7); clear h7 g7))
                go_roundg (ts.length - (k + 1))
                case measure => omega
                case rel =>
                  have hcp : 0 < cc := by have := HZ.out; omega
                  exact ⟨k + 1, us.take a ++ [u] ++ us.drop a, by omega, rfl, by go_num, HO.out.put hlt hal HU.out HLO.out (fun _ => by rw [HCC.out]; exact hcp) HB3.out H7.out HKK.out, by have := HO.out.len; simp; omega⟩
          · have ga : ¬ (a : Int) < (us.length : Int) := by omega
            have dg1 : decide ((a : Int) < (us.length : Int)) = false := by simp; omega
            have dg2 : decide (a < us.length) = false := by simp; omega
            go_wp2_with fail
            go_big_region_o
            all_goals go_wp2
            obtain ⟨w2, hw2⟩ : ∃ w2, wr.drew = w2 := ⟨_, rfl⟩
            have HB2 := HBA.out.drew
            rw [hw2] at HB2 ⊢
            have HB2 := Lib.hid HB2
            clear hw2
            go_big_region_o
            obtain ⟨w3, hw3⟩ : ∃ w3, w2.drew = w3 := ⟨_, rfl⟩
            have HB3 := HB2.out.drew
            rw [hw3] at HB3 ⊢
            have HB3 := Lib.hid HB3
            clear hw3
            by_cases hcu : uc = a
            · have hcu0 := hcu
              have H0 : Hid (Own4 w3.heap.size w3 (w3.alloc (.cells #[] 29)) (.slice (some ⟨w3.heap.size, 0, none⟩) 0 0) []) := Lib.hid ⟨World.ownsRow_made w3 #[] 0 (Nat.le_refl _) (Nat.zero_le _) (by simp), bel1 _ _, by simp⟩
              have HS0 := Lib.hid (own4_cells (HO.out.next (up HB3.out (bel1 w3 (.cells #[] 29)))).own 0 a (by omega))
              have hcap2 : (a : Int) ≤ (uc : Int) := by omega
              have hcap3 : (a : Int) ≤ (us.length : Int) := by omega
              have e4 := HK4.out
              subst e4
              have HDR : Hid (us.drop a = []) := Lib.hid (List.drop_of_length_le (by omega))
              have HT1 : Hid ((us.take a).length = a) := Lib.hid (by rw [List.length_take]; omega)
              have HT2 : Hid ((us.drop a).length = us.length - a) := Lib.hid (by rw [List.length_drop])
              go_wp2_with (first
                | (at_builtin; refine own4_more rfl _ _ 22 rfl Tryz.underlying22 rfl H0.out (us.take a) g 0 a _ rfl HT1.out HS0.out (by simp; omega) ?_; intro v4 w4 h4 g4; obtain ⟨x0, x1, x2, x3⟩ := HXC.out _ (up HB3.out h4.below); have H4 := Lib.hid h4; clear h4 g4)
                | (go_at_call 40; refine (HWV.out _ (up HB3.out H4.out.below)).mono ?_; rintro e w5 ⟨u, rfl, hu, hi, hf, _, _, hB⟩; have HU := Lib.hid hu; have HIU := Lib.hid hi; have HF := Lib.hid hf; have HB5 := Lib.hid hB; clear hu hi hf hB)
                | (at_builtin; refine own4_push rfl _ _ 22 rfl Tryz.underlying22 rfl (H4.out.next HB5.out) u 1 _ rfl rfl (by have := HT1.out; simp; omega) ?_; intro v6 w6 h6 g6 hv6; have H6 := Lib.hid h6; have HKU := Lib.hid (keep1 H4.out HIU.out HF.out g6 hv6); clear h6 g6 hv6)
                | (at_builtin; refine own4_more rfl _ _ 22 rfl Tryz.underlying22 rfl H6.out (us.drop a) _ _ (us.length - a) _ rfl HT2.out (fun j y hj => by rw [HDR.out] at hj; simp [cellsT] at hj) (by have := HO.out.len; simp; omega) ?_; intro v7 w7 h7 g7; have H7 := Lib.hid h7; have HKK := Lib.hid (keep2 HKU.out g7); clear h7 g7))
              go_roundg (ts.length - (k + 1))
              case measure => omega
              case rel =>
                exact ⟨k + 1, us.take a ++ [u] ++ us.drop a, by omega, rfl, by go_num, HO.out.put hlt hal HU.out HLO.out (fun hx => absurd hx hau) HB3.out H7.out HKK.out, by have := HO.out.len; simp; omega⟩
            · have hcu0 := hcu
              have H0 : Hid (Own4 w3.heap.size w3 (w3.alloc (.cells #[] 29)) (.slice (some ⟨w3.heap.size, 0, none⟩) 0 0) []) := Lib.hid ⟨World.ownsRow_made w3 #[] 0 (Nat.le_refl _) (Nat.zero_le _) (by simp), bel1 _ _, by simp⟩
              have HS0 := Lib.hid (own4_cells (HO.out.next (up HB3.out (bel1 w3 (.cells #[] 29)))).own 0 a (by omega))
              have hcap2 : (a : Int) ≤ (uc : Int) := by omega
              have hcap3 : (a : Int) ≤ (us.length : Int) := by omega
              have e4 := HK4.out
              subst e4
              have HDR : Hid (us.drop a = []) := Lib.hid (List.drop_of_length_le (by omega))
              have HT1 : Hid ((us.take a).length = a) := Lib.hid (by rw [List.length_take]; omega)
              have HT2 : Hid ((us.drop a).length = us.length - a) := Lib.hid (by rw [List.length_drop])
              go_wp2_with (first
                | (at_builtin; refine own4_more rfl _ _ 22 rfl Tryz.underlying22 rfl H0.out (us.take a) g 0 a _ rfl HT1.out HS0.out (by simp; omega) ?_; intro v4 w4 h4 g4; obtain ⟨x0, x1, x2, x3⟩ := HXC.out _ (up HB3.out h4.below); have H4 := Lib.hid h4; clear h4 g4)
                | (go_at_call 40; refine (HWV.out _ (up HB3.out H4.out.below)).mono ?_; rintro e w5 ⟨u, rfl, hu, hi, hf, _, _, hB⟩; have HU := Lib.hid hu; have HIU := Lib.hid hi; have HF := Lib.hid hf; have HB5 := Lib.hid hB; clear hu hi hf hB)
                | (at_builtin; refine own4_push rfl _ _ 22 rfl Tryz.underlying22 rfl (H4.out.next HB5.out) u 1 _ rfl rfl (by have := HT1.out; simp; omega) ?_; intro v6 w6 h6 g6 hv6; have H6 := Lib.hid h6; have HKU := Lib.hid (keep1 H4.out HIU.out HF.out g6 hv6); clear h6 g6 hv6)
                | (at_builtin; refine own4_more rfl _ _ 22 rfl Tryz.underlying22 rfl H6.out (us.drop a) _ _ (us.length - a) _ rfl HT2.out (fun j y hj => by rw [HDR.out] at hj; simp [cellsT] at hj) (by have := HO.out.len; simp; omega) ?_; intro v7 w7 h7 g7; have H7 := Lib.hid h7; have HKK := Lib.hid (keep2 HKU.out g7); clear h7 g7))
              go_roundg (ts.length - (k + 1))
              case measure => omega
              case rel =>
                exact ⟨k + 1, us.take a ++ [u] ++ us.drop a, by omega, rfl, by go_num, HO.out.put hlt hal HU.out HLO.out (fun hx => absurd hx hau) HB3.out H7.out HKK.out, by have := HO.out.len; simp; omega⟩
    · have HE := Lib.hid (HO.out.ends (by omega) hl hul)
      go_wp2_with fail
      go_ret
      exact HE.out
end Go.Proofs.YtedabholcldgbaaGreatDoor.So
