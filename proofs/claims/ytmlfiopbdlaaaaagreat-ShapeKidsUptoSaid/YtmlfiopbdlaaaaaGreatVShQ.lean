/- The name that a list calls. -/
import Derived.Test.YtmlfiopbdlaaaaaGreatVShP
namespace Go.Proofs.YtmlfiopbdlaaaaaGreat
open Go.RowKit Go.Deep
theorem placeF_nat (f : Fm) : ∃ p : Nat, placeF f = (p : Int) ∧ p ≤ 3 := by
  unfold placeF
  dsimp only
  split
  · split
    · exact ⟨2, rfl, by omega⟩
    · exact ⟨1, rfl, by omega⟩
  split
  · exact ⟨1, rfl, by omega⟩
  split
  · exact ⟨2, rfl, by omega⟩
  split
  · split
    · exact ⟨3, rfl, by omega⟩
    · exact ⟨0, rfl, by omega⟩
  · exact ⟨0, rfl, by omega⟩
def calledF (f : Fm) : Option ByteArray := if 0 < (placeF f).toNat then (match f.ks[(placeF f).toNat]? with | some k => if nameF k then some k.tx else none | none => none) else none
set_option maxHeartbeats 1000000 in
theorem called_any (t : T) (w : World) (hin : In w t) (hm : MaxIs w) : Calls Tryz.prog 35 #[t.val] w fun e w' => e = .returned (.tuple #[.string ((calledF t.form).getD ⟨#[]⟩), .bool (calledF t.form).isSome]) ∧ Below w.heap.size w w' := by
  obtain ⟨p, hp, hp3⟩ := placeF_nat t.form
  have HP := Lib.hid fun (W : World) (h : Below w.heap.size w W) => (hp ▸ place_any t W (hin.below h) : Calls Tryz.prog 63 #[t.val] W fun e w' => e = .returned (.int .i64 (p : Int)) ∧ Below W.heap.size W w')
  have hf := T.form_ks t
  have ec : calledF t.form = if 0 < p then (match t.form.ks[p]? with | some k => if nameF k then some k.tx else none | none => none) else none := by unfold calledF; rw [hp]; rfl
  have hl : t.ks.length ≤ maxLen := Nat.le_trans hin.ok.le hin.ok.cp
  unfold maxLen at hl
  by_cases h0 : p = 0
  · subst h0
    rw [if_neg (by omega)] at ec
    rw [ec]
    clear hp hin hm ec hf hl hp3
    go_enter Tryz.func35, Tryz.ntmps35
    go_wp2_with (go_at_call 63; refine (HP.out _ (bel1 _ _)).mono ?_; rintro e w1 ⟨rfl, hB⟩; have HB := Lib.hid (up (bel1 _ _) hB); clear hB)
    refine bodyPost_ret (v := .tuple #[.string ⟨#[]⟩, .bool false]) (by simp [results, Tryz.results35, go_sem]) rfl ⟨rfl, HB.out⟩
  · rw [if_pos (by omega)] at ec
    have g0 : ((p : Int) == 0) = false := by simp; omega
    have HBX : Hid (∀ W, Below (w.alloc (boxT t)).heap.size (w.alloc (boxT t)) W → (W.cell? ⟨w.heap.size, 0, none⟩ = some (.int .i64 t.kd) ∧ W.cell? ⟨w.heap.size, 1, none⟩ = some (.int .i64 t.nn) ∧ W.cell? ⟨w.heap.size, 2, none⟩ = some (.string t.tx) ∧ W.cell? ⟨w.heap.size, 3, none⟩ = some (.slice t.ad t.ks.length t.cp))) := Lib.hid fun W hW => Box4.cells (w := W) (b := w.heap.size) (t := t) ((hW.block _ (by simp)).trans (Box4.new w t))
    by_cases hlt : p < t.ks.length
    · obtain ⟨⟨b, o, had, hc⟩, hu⟩ := (hin.inL).at p hlt
      obtain ⟨u, hueq⟩ : ∃ u, t.ks[p] = u := ⟨_, rfl⟩
      rw [hueq] at hc hu
      have HN := Lib.hid fun (W : World) (h : Below w.heap.size w W) => nameForm_any u W (hu.below h) (hm.below h)
      have ek : t.form.ks[p]? = some u.form := by rw [hf, List.getElem?_map, List.getElem?_eq_getElem hlt, hueq]; rfl
      rw [ek] at ec
      dsimp only at ec
      obtain ⟨c0, c1, c2, c3⟩ := hc
      have lb : b < w.heap.size := World.block_lt_of_cell? _ _ c0
      have HC := Lib.hid fun (W : World) (h : Below w.heap.size w W) => (⟨(h.cell (p := ⟨b, o + p * 4, none⟩) lb).trans c0, (h.cell (p := ⟨b, o + p * 4 + 1, none⟩) lb).trans c1, (h.cell (p := ⟨b, o + p * 4 + 2, none⟩) lb).trans c2, (h.cell (p := ⟨b, o + p * 4 + 3, none⟩) lb).trans c3⟩ : W.cell? ⟨b, o + p * 4, none⟩ = _ ∧ W.cell? ⟨b, o + p * 4 + 1, none⟩ = _ ∧ W.cell? ⟨b, o + p * 4 + 2, none⟩ = _ ∧ W.cell? ⟨b, o + p * 4 + 3, none⟩ = _)
      have hval : t.val = .agg #[.int .i64 t.kd, .int .i64 t.nn, .string t.tx, .slice (some ⟨b, o, none⟩) t.ks.length t.cp] := by rw [T.val, had]
      rw [had] at HBX
      rw [hval] at HP ⊢
      rw [ec]
      have hlt' : (p : Int) < (t.ks.length : Int) := by omega
      have g3 : decide ((t.ks.length : Int) ≤ (p : Int)) = false := by simp; omega
      have g4 : decide (t.ks.length ≤ p) = false := by simp; omega
      obtain ⟨len, hlen⟩ : ∃ len, t.ks.length = len := ⟨_, rfl⟩
      rw [hlen] at hl hlt hlt' g3 g4 HBX HP ⊢
      obtain ⟨r, hr⟩ : ∃ r, nameF u.form = r := ⟨_, rfl⟩
      rw [hr] at HN ⊢
      have etx : u.form.tx = u.tx := T.form_tx u
      rw [etx]
      have hbb : boxT t = .cells #[.int .i64 t.kd, .int .i64 t.nn, .string t.tx, .slice (some ⟨b, o, none⟩) len t.cp] 24 := by rw [boxT, had, hlen]
      rw [hbb] at HBX
      clear hp hin hm ec hf ek hu hueq c0 c1 c2 c3 hval had hlen hr etx hbb hp3
      cases r with
      | true =>
        go_enter Tryz.func35, Tryz.ntmps35
        go_wp2_with (first
          | (go_at_call 63; refine (HP.out _ (bel1 _ _)).mono ?_; rintro e w1 ⟨rfl, hB⟩; obtain ⟨b0, b1, b2, b3⟩ := HBX.out _ hB; have HB := Lib.hid (up (bel1 _ _) hB); obtain ⟨x0, x1, x2, x3⟩ := HC.out _ HB.out; have HBR := Lib.hid hB; clear hB)
          | (go_at_call 64; refine (HN.out _ HB.out).mono ?_; rintro e w2 ⟨rfl, hB⟩; obtain ⟨d0, d1, d2, d3⟩ := HBX.out _ (up HBR.out hB); obtain ⟨z0, z1, z2, z3⟩ := HC.out _ (up HB.out hB); have HB2 := Lib.hid (up HB.out hB); clear hB))
        refine bodyPost_ret (v := .tuple #[.string u.tx, .bool true]) (by simp [results, Tryz.results35, go_sem]) rfl ⟨rfl, HB2.out⟩
      | false =>
        go_enter Tryz.func35, Tryz.ntmps35
        go_wp2_with (first
          | (go_at_call 63; refine (HP.out _ (bel1 _ _)).mono ?_; rintro e w1 ⟨rfl, hB⟩; obtain ⟨b0, b1, b2, b3⟩ := HBX.out _ hB; have HB := Lib.hid (up (bel1 _ _) hB); obtain ⟨x0, x1, x2, x3⟩ := HC.out _ HB.out; have HBR := Lib.hid hB; clear hB)
          | (go_at_call 64; refine (HN.out _ HB.out).mono ?_; rintro e w2 ⟨rfl, hB⟩; have HB2 := Lib.hid (up HB.out hB); clear hB))
        refine bodyPost_ret (v := .tuple #[.string ⟨#[]⟩, .bool false]) (by simp [results, Tryz.results35, go_sem]) rfl ⟨rfl, HB2.out⟩
    · have ek : t.form.ks[p]? = none := by rw [hf, List.getElem?_map, List.getElem?_eq_none (by omega)]; rfl
      rw [ek] at ec
      rw [ec]
      have g1 : decide ((p : Int) < (t.ks.length : Int)) = false := by simp; omega
      have g2 : (t.ks.length : Int) ≤ (p : Int) := by omega
      have g3 : t.ks.length ≤ p := by omega
      clear hp hin hm ec hf hl hp3 ek hlt
      go_enter Tryz.func35, Tryz.ntmps35
      go_wp2_with (go_at_call 63; refine (HP.out _ (bel1 _ _)).mono ?_; rintro e w1 ⟨rfl, hB⟩; obtain ⟨b0, b1, b2, b3⟩ := HBX.out _ hB; have HB := Lib.hid (up (bel1 _ _) hB); clear hB)
      refine bodyPost_ret (v := .tuple #[.string ⟨#[]⟩, .bool false]) (by simp [results, Tryz.results35, go_sem]) rfl ⟨rfl, HB.out⟩
end Go.Proofs.YtmlfiopbdlaaaaaGreat
