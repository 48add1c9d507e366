/- LayoutTells: the walk, over what sane answers. -/
import Derived.Test.YtedabholcldgbaaGreatDoorMg1
import Derived.Test.YtedabholcldgbaaGreatDoorMg2

namespace Go.Proofs.YtedabholcldgbaaGreatDoor.Y
open Go.RowKit Go.Deep

theorem str_cell {w : World} {B : Nat} {v : Value} {l : List (List UInt8)} (h : w.ownsRow B 9 1 v l.length (strV l)) (k : Nat) (hk : k < l.length) :
    ∃ g cap, v = .slice (some ⟨g, 0, none⟩) l.length cap ∧ l.length ≤ cap ∧ g < w.heap.size ∧ w.cell? ⟨g, k, none⟩ = some (.string ⟨l[k].toArray⟩) := by
  rcases h.2 with ⟨rfl, e⟩ | ⟨g, cap, cur, rfl, hb, hg, hr⟩
  · omega
  · refine ⟨g, cap, rfl, hr.1, lt_of_getElem? hg, ?_⟩
    have hc : (strV l)[k]? = some (.string ⟨l[k].toArray⟩) := by simp [strV, hk]
    rw [← hr.2.2.2, List.getElem?_take] at hc
    split at hc
    · simp only [World.cell?, hg]
      simpa using hc
    · cases hc
theorem str_slice {w : World} {B : Nat} {v : Value} {l : List (List UInt8)} (h : w.ownsRow B 9 1 v l.length (strV l)) : ∃ va vc, v = .slice va l.length vc ∧ l.length ≤ vc ∧ vc ≤ maxLen := by
  rcases h.2 with ⟨e1, e2⟩ | ⟨g, cap, cur, e1, e2, e3, e4⟩
  · exact ⟨none, 0, by rw [e1, e2], by omega, by unfold maxLen; omega⟩
  · exact ⟨_, _, e1, e4.1, e4.2.1⟩
set_option linter.unusedSimpArgs false in
set_option maxHeartbeats 4000000 in
set_option maxRecDepth 100000 in
theorem ltells_any (a b : ByteArray) (ha : a.size ≤ 1000000000) (hb : b.size ≤ maxLen) (w : World) (hg : Glob w) (h6 : 8 ≤ w.heap.size)
    (hsn : ∀ W, Below w.heap.size w W → Calls Tryz.prog 18 #[] W fun e w' => e = .returned (.bool true) ∧ Below W.heap.size W w') :
    Calls Tryz.prog 6 #[.string a, .string b] w fun e w' => e = .returned (.bool true) ∧ Below w.heap.size w w' := by
  have ha' : a.size ≤ maxLen := by unfold maxLen; omega
  obtain ⟨R, hR⟩ : ∃ R, (sameR a b).1 = R := ⟨_, rfl⟩
  obtain ⟨E, hE⟩ : ∃ E, (sameR a b).2 = E := ⟨_, rfl⟩
  obtain ⟨L, hL⟩ : ∃ L, (comR a).1 = L := ⟨_, rfl⟩
  obtain ⟨F, hF⟩ : ∃ F, (comR a).2 = F := ⟨_, rfl⟩
  obtain ⟨D, hD⟩ : ∃ D, widW a.data.toList 0 0 = D := ⟨_, rfl⟩
  have C1 := same_any a b w ha' hb hg h6
  have C2 := fun W => rsame_any a b W ha' hb
  have C3 := fun W (k : Below w.heap.size w W) => lcomments_any a ha' W (hg.below k h6) (Nat.le_trans h6 k.size)
  have C4 := fun W => rcomments_all a ha' W
  have C5 := fun W => callsIn_wide.1 (widest_in 4 (Nat.le_refl _) a ha W)
  have C6 := fun W => rwidest_any a ha W
  simp only [ComEnd, hR, hE, hL, hF, hD] at C1 C2 C3 C4 C5 C6
  have C1 := Lib.hid C1
  have C2 := Lib.hid C2
  have C3 := Lib.hid C3
  have C4 := Lib.hid C4
  have C5 := Lib.hid C5
  have C6 := Lib.hid C6
  have C7 := Lib.hid hsn
  clear hg h6 hsn hR hE hL hF hD
  go_enter Tryz.func6, Tryz.ntmps6
  go_wp2_with (first
    | (go_at_call 21; (with_reducible refine C1.out.mono ?_); rintro e w1 ⟨rfl, hB⟩; have H1 := Lib.hid hB; clear hB)
    | (go_at_call 22; (with_reducible refine (C2.out _).mono ?_); rintro e w2 ⟨rfl, hB⟩; have H2 := Lib.hid (up H1.out hB); clear hB)
    | (go_at_call 23; (with_reducible refine (C3.out _ H2.out).mono ?_); rintro e w3 ⟨l, rfl, hl, hB⟩; obtain ⟨la, lc, rfl, hl1, hl2⟩ := str_slice hl; have H3 := Lib.hid (up H2.out hB); have HL := Lib.hid hl; have HLC := Lib.hid hl1; have HLM := Lib.hid hl2; clear hB hl hl1 hl2)
    | (go_at_call 24; (with_reducible refine (C4.out _).mono ?_); rintro e w4 ⟨m, rfl, hm, hB⟩; obtain ⟨ma, mc, rfl, hm1, hm2⟩ := str_slice hm; have H4 := Lib.hid (up H3.out hB); have H34 := Lib.hid hB; have HM := Lib.hid hm; have HMC := Lib.hid hm1; clear hB hm hm1 hm2)
    | (go_at_call 25; (with_reducible refine (C5.out _).mono ?_); rintro e w5 ⟨rfl, hB⟩; have H5 := Lib.hid (up H4.out hB); have H45 := Lib.hid hB; clear hB)
    | (go_at_call 26; (with_reducible refine (C6.out _).mono ?_); rintro e w6 ⟨rfl, rfl⟩))
  have HLL : L.length ≤ 9223372036854775807 := by have := HLC.out; have := HLM.out; unfold maxLen at this; omega
  go_loopg [13] (L.length) (fun m i wr => ∃ k : Nat, k ≤ L.length ∧ m = L.length - k ∧ i = .int .i64 k ∧ Below w5.heap.size w5 wr)
  case atStart => exact ⟨0, by omega, rfl, rfl, Below.refl _ _⟩
  case round =>
    obtain ⟨k, hk, rfl, rfl, hB⟩ := hrel
    by_cases hlt : k < L.length
    · have gi : (k : Int) < (L.length : Int) := by omega
      have gi0 : (0 : Int) ≤ (k : Int) := by omega
      obtain ⟨g, cap, e, hcap, hg2, hcell⟩ := str_cell HL.out k hlt
      obtain ⟨rfl, rfl⟩ : la = some ⟨g, 0, none⟩ ∧ lc = cap := by cases e; exact ⟨rfl, rfl⟩
      obtain ⟨g', cap', e', hcap', hg2', hcell'⟩ := str_cell HM.out k hlt
      obtain ⟨rfl, rfl⟩ : ma = some ⟨g', 0, none⟩ ∧ mc = cap' := by cases e'; exact ⟨rfl, rfl⟩
      obtain ⟨u, hu⟩ : ∃ u : ByteArray, (⟨L[k].toArray⟩ : ByteArray) = u := ⟨_, rfl⟩
      rw [hu] at hcell hcell'
      have b35 := H34.out.trans (H45.out.mono H34.out.size)
      have y0 : wr.cell? ⟨g, k, none⟩ = some (.string u) := ((up b35 hB).cell (p := ⟨g, k, none⟩) hg2).trans hcell
      have y1 : wr.cell? ⟨g', k, none⟩ = some (.string u) := ((up H45.out hB).cell (p := ⟨g', k, none⟩) hg2').trans hcell'
      have HX : Hid (wr.drew.cell? ⟨g, k, none⟩ = some (.string u) ∧ wr.drew.cell? ⟨g', k, none⟩ = some (.string u)) := Lib.hid ⟨by simpa using y0, by simpa using y1⟩
      have gu : (u.toList == u.toList) = true := by simp
      have HBB := Lib.hid hB
      clear hcell hcell' e e' hcap hcap' hu hB b35
      go_wp2_with fail
      go_region_held3 (fun w' => w'.cell? ⟨g, k, none⟩ = some (.string u) ∧ w'.cell? ⟨g', k, none⟩ = some (.string u)) (first | (exact HX.out)) (fail)
      go_wp2_with fail
      go_roundg (L.length - (k + 1))
      case measure => omega
      case rel => exact ⟨k + 1, by omega, rfl, by go_num, HBB.out.trans ((Below.refl _ _).drew.mono HBB.out.size)⟩
    · have gi : ¬ (k : Int) < (L.length : Int) := by omega
      have HBB := Lib.hid (up H5.out hB)
      clear hB
      go_wp2_with (go_at_call 18; (with_reducible refine (C7.out _ HBB.out).mono ?_); rintro e w7 ⟨rfl, hB⟩; have H7 := Lib.hid (up HBB.out hB); clear hB)
      go_ret
      exact ⟨rfl, H7.out⟩
end Go.Proofs.YtedabholcldgbaaGreatDoor.Y
