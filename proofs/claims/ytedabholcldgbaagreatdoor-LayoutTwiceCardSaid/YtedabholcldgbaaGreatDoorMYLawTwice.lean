/- LayoutTwice: the walk, over what sane answers. -/
import Derived.Test.YtedabholcldgbaaGreatDoorMg3
import Derived.Test.YtedabholcldgbaaGreatDoorMYLawTells
import Derived.Test.YtedabholcldgbaaGreatDoorMg1

namespace Go.Proofs.YtedabholcldgbaaGreatDoor.Y
open Go.RowKit Go.Deep

theorem sameB_self (l : List Fm) : sameB l l = true := by unfold sameB; simp [cmpL_self]
/-- What the second formatting tells. -/
theorem twice_facts {s : ByteArray} {fs : List Fm} (h : readR s = .ok fs) {wd : Nat} (h1 : 20 ≤ wd) (h2 : wd ≤ 200) {t : ByteArray} (ht : t = ⟨(textR s (wd : Int)).1.toArray⟩) (hs : t.size ≤ 60000) :
    textR t (wd : Int) = (t.data.toList, 0) ∧ sameR s t = (true, 0) ∧ comR t = comR s ∧ (comR s).2 = 0 := by
  have e : t.data.toList = (runI wd (0, []) (itemsL (s.size + 1) (s.size + 1) s.data.toList true) fs).2 := by rw [ht, textR_ok h1 h2 h]
  obtain ⟨r1, r2⟩ := text_again h e hs
  have c1 := items_comments h
  have c2 := items_comments r1
  refine ⟨by rw [textR_ok h1 h2 r1, r2, e], ?_, ?_, ?_⟩
  · unfold sameR
    rw [h, r1]
    simp only [sameB_self]
  · unfold comR
    rw [h, r1]
    simp only
    rw [← c1, ← c2, r2]
  · unfold comR
    rw [h]
set_option linter.unusedSimpArgs false in
set_option maxHeartbeats 4000000 in
set_option maxRecDepth 100000 in
theorem ltwice_any (s : ByteArray) (x : Int) (hx : I64 x) (hs : s.size ≤ maxLen) (w : World) (hg : Glob w) (h6 : 8 ≤ w.heap.size) (htab : Tab w.heap.size w)
    (hsn : ∀ W, Below w.heap.size w W → Calls Tryz.prog 18 #[] W fun e w' => e = .returned (.bool true) ∧ Below W.heap.size W w') :
    Calls Tryz.prog 8 #[.string s, .int .i64 x] w fun e w' => e = .returned (.bool true) ∧ Below w.heap.size w w' := by
  have C1 := text_any s x hx hs w hg h6 htab
  have C7 := Lib.hid hsn
  obtain ⟨T1, hT1⟩ : ∃ T1, (⟨(textR s x).1.toArray⟩ : ByteArray) = T1 := ⟨_, rfl⟩
  obtain ⟨E1, hE1⟩ : ∃ E1, (textR s x).2 = E1 := ⟨_, rfl⟩
  have hend : E1 ≠ 0 ∨ (60000 < T1.size) ∨ (E1 = 0 ∧ T1.size ≤ 60000 ∧ ∃ (fs : List Fm) (wd : Nat), readR s = .ok fs ∧ x = (wd : Int) ∧ 20 ≤ wd ∧ wd ≤ 200) := by
    by_cases he : E1 = 0
    · by_cases hz : 60000 < T1.size
      · exact .inr (.inl hz)
      · refine .inr (.inr ⟨he, by omega, ?_⟩)
        by_cases hw : 20 ≤ x ∧ x ≤ 200
        · cases hr : readR s with
          | ok fs => exact ⟨fs, x.toNat, rfl, by omega, by omega, by omega⟩
          | err c =>
            rw [textR_err hw hr] at hE1
            exact absurd (hE1.trans he) (readR_err hr)
        · rw [textR_no hw] at hE1
          rw [← hE1] at he
          exact absurd he (by decide)
    · exact .inl he
  simp only [FmtEnd, hT1, hE1] at C1
  have C1 := Lib.hid C1
  rcases hend with he | hz | ⟨he, hz, fs, wd, hr, rfl, hw1, hw2⟩
  · have gE : (E1 != 0) = true := by simpa using he
    clear hg h6 htab hsn hT1 hE1 he
    go_enter Tryz.func8, Tryz.ntmps8
    go_wp2_with (first
      | (go_at_call 19; (with_reducible refine C1.out.mono ?_); rintro e w1 ⟨rfl, hB⟩; have H1 := Lib.hid hB; clear hB)
      | (go_at_call 18; (with_reducible refine (C7.out _ H1.out).mono ?_); rintro e w7 ⟨rfl, hB⟩; have H7 := Lib.hid (up H1.out hB); clear hB))
    go_ret
    exact ⟨rfl, H7.out⟩
  · by_cases he : E1 = 0
    · have gz : (60000 : Int) < (T1.size : Int) := by omega
      subst he
      clear hg h6 htab hsn hT1 hE1 hz
      go_enter Tryz.func8, Tryz.ntmps8
      go_wp2_with (first
        | (go_at_call 19; (with_reducible refine C1.out.mono ?_); rintro e w1 ⟨rfl, hB⟩; have H1 := Lib.hid hB; clear hB)
        | (go_at_call 18; (with_reducible refine (C7.out _ H1.out).mono ?_); rintro e w7 ⟨rfl, hB⟩; have H7 := Lib.hid (up H1.out hB); clear hB))
      go_ret
      exact ⟨rfl, H7.out⟩
    · have gE : (E1 != 0) = true := by simpa using he
      clear hg h6 htab hsn hT1 hE1 he hz
      go_enter Tryz.func8, Tryz.ntmps8
      go_wp2_with (first
        | (go_at_call 19; (with_reducible refine C1.out.mono ?_); rintro e w1 ⟨rfl, hB⟩; have H1 := Lib.hid hB; clear hB)
        | (go_at_call 18; (with_reducible refine (C7.out _ H1.out).mono ?_); rintro e w7 ⟨rfl, hB⟩; have H7 := Lib.hid (up H1.out hB); clear hB))
      go_ret
      exact ⟨rfl, H7.out⟩
  · subst he
    have hsz := readR_size hr
    obtain ⟨f1, f2, f3, f4⟩ := twice_facts hr hw1 hw2 hT1.symm hz
    have hTm : T1.size ≤ maxLen := by unfold maxLen; omega
    have C2 := fun W (k : Below w.heap.size w W) => text_any T1 (wd : Int) hx hTm W (hg.below k h6) (Nat.le_trans h6 k.size) (htab.next k)
    have C3 := fun W (k : Below w.heap.size w W) => same_any s T1 W hs hTm (hg.below k h6) (Nat.le_trans h6 k.size)
    have C4 := fun W (k : Below w.heap.size w W) => lcomments_any s hs W (hg.below k h6) (Nat.le_trans h6 k.size)
    have C5 := fun W (k : Below w.heap.size w W) => lcomments_any T1 hTm W (hg.below k h6) (Nat.le_trans h6 k.size)
    obtain ⟨L, hL⟩ : ∃ L, (comR s).1 = L := ⟨_, rfl⟩
    have hba : (⟨T1.data.toList.toArray⟩ : ByteArray) = T1 := by cases T1; simp
    simp only [FmtEnd, ComEnd, f1, f2, f3, f4, hL, hba] at C2 C3 C4 C5
    have C2 := Lib.hid C2
    have C3 := Lib.hid C3
    have C4 := Lib.hid C4
    have C5 := Lib.hid C5
    have gz : ¬ (60000 : Int) < (T1.size : Int) := by omega
    have gT : (T1.toList == T1.toList) = true := by simp
    clear hg h6 htab hsn hT1 hE1 hz f1 f2 f3 f4 hr hL hba hsz hTm
    go_enter Tryz.func8, Tryz.ntmps8
    go_wp2_with (first
      | (go_at_call 19; (with_reducible refine C1.out.mono ?_); rintro e w1 ⟨rfl, hB⟩; have H1 := Lib.hid hB; clear hB)
      | (go_at_call 19; (with_reducible refine (C2.out _ H1.out).mono ?_); rintro e w2 ⟨rfl, hB⟩; have H2 := Lib.hid (up H1.out hB); clear hB)
      | (go_at_call 21; (with_reducible refine (C3.out _ H2.out).mono ?_); rintro e w3 ⟨rfl, hB⟩; have H3 := Lib.hid (up H2.out hB); clear hB)
      | (go_at_call 23; (with_reducible refine (C4.out _ H3.out).mono ?_); rintro e w4 ⟨l, rfl, hl, hB⟩; obtain ⟨la, lc, rfl, hl1, hl2⟩ := str_slice hl; have H4 := Lib.hid (up H3.out hB); have HL := Lib.hid hl; have HLC := Lib.hid hl1; have HLM := Lib.hid hl2; clear hB hl hl1 hl2)
      | (go_at_call 23; (with_reducible refine (C5.out _ H4.out).mono ?_); rintro e w5 ⟨m, rfl, hm, hB⟩; obtain ⟨ma, mc, rfl, hm1, hm2⟩ := str_slice hm; have H5 := Lib.hid (up H4.out hB); have H45 := Lib.hid hB; have HM := Lib.hid hm; have HMC := Lib.hid hm1; clear hB hm hm1 hm2))
    have HLL : L.length ≤ 9223372036854775807 := by have := HLC.out; have := HLM.out; unfold maxLen at this; omega
    go_loopg [12] (L.length) (fun m i wr => ∃ k : Nat, k ≤ L.length ∧ m = L.length - k ∧ i = .int .i64 k ∧ Below w5.heap.size w5 wr)
    case atStart => exact ⟨0, by omega, rfl, rfl, Below.refl _ _⟩
    case round =>
      obtain ⟨k, hk, rfl, rfl, hB⟩ := hrel
      by_cases hlt : k < L.length
      · have gi : (k : Int) < (L.length : Int) := by omega
        have gi0 : (0 : Int) ≤ (k : Int) := by omega
        obtain ⟨g, cap, e, hcap, hg2, hcell⟩ := str_cell HL.out k hlt
        obtain ⟨rfl, rfl⟩ : la = some ⟨g, 0, none⟩ ∧ lc = cap := by cases e; exact ⟨rfl, rfl⟩
        obtain ⟨g', cap', e', hcap', hg2', hcell'⟩ := str_cell HM.out k hlt
        obtain ⟨rfl, rfl⟩ : ma = some ⟨g', 0, none⟩ ∧ mc = cap' := by cases e'; exact ⟨rfl, rfl⟩
        obtain ⟨u, hu⟩ : ∃ u : ByteArray, (⟨L[k].toArray⟩ : ByteArray) = u := ⟨_, rfl⟩
        rw [hu] at hcell hcell'
        have y0 : wr.cell? ⟨g, k, none⟩ = some (.string u) := ((up H45.out hB).cell (p := ⟨g, k, none⟩) hg2).trans hcell
        have y1 : wr.cell? ⟨g', k, none⟩ = some (.string u) := (hB.cell (p := ⟨g', k, none⟩) hg2').trans hcell'
        have HX : Hid (wr.drew.cell? ⟨g, k, none⟩ = some (.string u) ∧ wr.drew.cell? ⟨g', k, none⟩ = some (.string u)) := Lib.hid ⟨by simpa using y0, by simpa using y1⟩
        have gu : (u.toList == u.toList) = true := by simp
        have HBB := Lib.hid hB
        clear hcell hcell' e e' hcap hcap' hu hB
        go_wp2_with fail
        go_region_held3 (fun w' => w'.cell? ⟨g, k, none⟩ = some (.string u) ∧ w'.cell? ⟨g', k, none⟩ = some (.string u)) (first | (exact HX.out)) (fail)
        go_wp2_with fail
        go_roundg (L.length - (k + 1))
        case measure => omega
        case rel => exact ⟨k + 1, by omega, rfl, by go_num, HBB.out.trans ((Below.refl _ _).drew.mono HBB.out.size)⟩
      · have gi : ¬ (k : Int) < (L.length : Int) := by omega
        have HBB := Lib.hid (up H5.out hB)
        clear hB
        go_wp2_with (go_at_call 18; (with_reducible refine (C7.out _ HBB.out).mono ?_); rintro e w7 ⟨rfl, hB⟩; have H7 := Lib.hid (up HBB.out hB); clear hB)
        go_ret
        exact ⟨rfl, H7.out⟩
end Go.Proofs.YtedabholcldgbaaGreatDoor.Y
