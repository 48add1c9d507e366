/- The document's own Put. -/
import Derived.Test.YtkcckhchlhmhhaaDoorRPut
import Derived.Test.YtkcckhchlhmhhaaDoorRef3
namespace Go.Proofs.YtkcckhchlhmhhaaDoor
open Go.RowKit Go.Deep

set_option maxHeartbeats 4000000 in
set_option maxRecDepth 100000 in
theorem rpub_any (t g : T) (ps : List Int) (pa : Option Addr) (pc : Nat) (w : World) (hin : In w t) (hg : In w g) (hp : InP w pa ps) (hl : ps.length ≤ pc) (hc : pc ≤ maxLen) (ht : bkF t.form ≤ 2000000) (hs : bkF g.form ≤ 2000000) :
    Calls Tryd.prog 34 #[t.val, .slice pa ps.length pc, g.val] w fun e w' => PubEnd w w' (pubR t.form g.form ps) e := by
  have HA := fun W (h : Below w.heap.size w W) => rat_any t pa pc ps W (hin.below h) (hp.below h) (Nat.le_trans hl hc) ht
  have HP := Lib.hid fun W (h : Below w.heap.size w W) (hat : (atF t.form ps).isSome = true) => rput_any g hs ps t pa pc W (hin.below h) (hg.below h) (hp.below h) hl hc ht hat
  have hsz : szF (putF ps t.form g.form) ≤ 4611686018427387903 := by
    have h1 := szF_put ps t.form g.form
    have h2 := szF_bk t.form
    have h3 := szF_bk g.form
    omega
  have K0 := Lib.hid (Pub3.start w t g)
  cases hat : atF t.form ps with
  | none =>
    rw [hat] at HA
    have hr : pubR t.form g.form ps = .none := by unfold pubR; rw [hat]
    rw [hr]
    have HA := Lib.hid HA
    clear hat hsz HP hr
    go_enter Tryd.func34, Tryd.ntmps34
    go_wp2_with (go_at_call 32; refine (HA.out _ K0.out.below).mono ?_; rintro e w2 ⟨rfl, hB⟩; have KK := Lib.hid ((K0.out.next hB).next (bel1 _ zeroO)); have hz := K0.out.size; have hz2 := hB.size; obtain ⟨c0, c1, c2, c3, y0, y1, y2, y3⟩ := KK.out.br.facts; clear hB)
    refine bodyPost_ret (v := .tuple #[zeroV, .int .i64 3]) (by simp [results, Tryd.results34, go_sem, c0, c1, c2, c3]) rfl ?_
    exact ⟨rfl, below_lay4 KK.out.below (by omega) _ _ _ _⟩
  | some x =>
    rw [hat] at HA
    have hp' : (atF t.form ps).isSome = true := by rw [hat]; rfl
    have HP : Hid (∀ W, Below w.heap.size w W → Calls Tryd.prog 56 #[t.val, .slice pa ps.length pc, g.val] W fun e w' => FreshEnd W w' (putF ps t.form g.form) e) := Lib.hid fun W h => HP.out W h hp'
    have HA := Lib.hid HA
    cases hv : validF (putF ps t.form g.form) with
    | false =>
      have hr : pubR t.form g.form ps = .lim := by unfold pubR; rw [hat]; simp [hv]
      have HV := Lib.hid fun (u : T) W (hu : u.form = putF ps t.form g.form) (h : In W u) => (rvalid_any u W h (by rw [hu]; exact hsz)).mono fun e w' hh => (by rw [hu, hv] at hh; exact hh : e = .returned (.bool false) ∧ Below W.heap.size W w')
      rw [hr]
      clear hat hsz hr hp' hv
      go_enter Tryd.func34, Tryd.ntmps34
      go_wp2_with (first
        | (go_at_call 32; refine (HA.out _ K0.out.below).mono ?_; rintro e w2 ⟨x', rfl, hx', hxi, hB⟩; have KK := Lib.hid ((K0.out.next hB).next (bel1 _ (boxO x'))); have hz := K0.out.size; have hz2 := hB.size; obtain ⟨c0, c1, c2, c3, y0, y1, y2, y3⟩ := KK.out.bt.facts; obtain ⟨d0, d1, d2, d3, x0, x1, x2, x3⟩ := KK.out.bg.facts; clear hB hx' hxi)
        | (go_at_call 56; refine (HP.out _ KK.out.below).mono ?_; rintro e w3 ⟨u, rfl, hu, hui, huo, hB⟩; have KM := Lib.hid ((KK.out.next hB).next (bel1 _ (boxO u))); have HU := Lib.hid hu; have HUI := Lib.hid (hui.alloc (boxO u)); have hz3 := hB.size; clear hB hu hui huo)
        | (go_at_call 19; refine (HV.out _ _ HU.out HUI.out).mono ?_; rintro e w4 ⟨rfl, hB⟩; have KN := Lib.hid (KM.out.next hB); obtain ⟨e0, e1, e2, e3, z0, z1, z2, z3⟩ := KN.out.br.facts; clear hB))
      refine bodyPost_ret (v := .tuple #[zeroV, .int .i64 2]) (by simp [results, Tryd.results34, go_sem, e0, e1, e2, e3]) rfl ?_
      exact ⟨rfl, below_lay4 KN.out.below (by omega) _ _ _ _⟩
    | true =>
      have hr : pubR t.form g.form ps = .ok (putF ps t.form g.form) := by unfold pubR; rw [hat]; simp [hv]
      have HV := Lib.hid fun (u : T) W (hu : u.form = putF ps t.form g.form) (h : In W u) => (rvalid_any u W h (by rw [hu]; exact hsz)).mono fun e w' hh => (by rw [hu, hv] at hh; exact hh : e = .returned (.bool true) ∧ Below W.heap.size W w')
      rw [hr]
      clear hat hsz hr hp' hv
      go_enter Tryd.func34, Tryd.ntmps34
      go_wp2_with (first
        | (go_at_call 32; refine (HA.out _ K0.out.below).mono ?_; rintro e w2 ⟨x', rfl, hx', hxi, hB⟩; have KK := Lib.hid ((K0.out.next hB).next (bel1 _ (boxO x'))); have hz := K0.out.size; have hz2 := hB.size; obtain ⟨c0, c1, c2, c3, y0, y1, y2, y3⟩ := KK.out.bt.facts; obtain ⟨d0, d1, d2, d3, x0, x1, x2, x3⟩ := KK.out.bg.facts; clear hB hx' hxi)
        | (go_at_call 56; refine (HP.out _ KK.out.below).mono ?_; rintro e w3 ⟨u, rfl, hu, hui, huo, hB⟩; have KM := Lib.hid ((KK.out.next hB).next (bel1 _ (boxO u))); have HU := Lib.hid hu; have HUI := Lib.hid (hui.alloc (boxO u)); have HUO := Lib.hid huo; have hz3 := hB.size; have hbx := heap_alloc_new w3 (boxO u); have HBX := Lib.hid hbx; clear hB hu hui huo hbx)
        | (go_at_call 19; refine (HV.out _ _ HU.out HUI.out).mono ?_; rintro e w4 ⟨rfl, hB⟩; have KN := Lib.hid (KM.out.next hB); have HUI4 := Lib.hid (HUI.out.below hB); obtain ⟨e0, e1, e2, e3, z0, z1, z2, z3⟩ := KN.out.br.facts; obtain ⟨f0, f1, f2, f3⟩ := Box4.cells (w := w4) (b := w3.heap.size) (t := u) ((hB.block _ (by simp)).trans HBX.out); clear hB))
      refine bodyPost_ret (v := .tuple #[u.val, .int .i64 0]) (by simp [results, Tryd.results34, go_sem, e0, e1, e2, e3]) rfl ?_
      refine ⟨u, rfl, HU.out, HUI4.out.same _ (Nat.lt_succ_self _) fun b hb => ?_, below_lay4 KN.out.below (by omega) _ _ _ _⟩
      have hne : b ≠ w.heap.size + 1 + 1 := by
        have h1 := HUO.out b hb
        have h2 := KK.out.size
        omega
      rw [Below.heap_setCell _ _ _ _ hne, Below.heap_setCell _ _ _ _ hne, Below.heap_setCell _ _ _ _ hne, Below.heap_setCell _ _ _ _ hne]
end Go.Proofs.YtkcckhchlhmhhaaDoor
