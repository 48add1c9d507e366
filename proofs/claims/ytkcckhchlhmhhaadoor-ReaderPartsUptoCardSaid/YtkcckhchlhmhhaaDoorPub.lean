/- reader.Put. -/
import Derived.Test.YtkcckhchlhmhhaaDoorPut
namespace Go.Proofs.YtkcckhchlhmhhaaDoor
open Go.RowKit Go.Deep

abbrev zeroV : Value := .agg #[.int .i64 0, .int .i64 0, .string ⟨#[]⟩, .slice none 0 0]
/-- What Put tells. -/
inductive PR where
  | none | lim
  | ok (f : Fm)
def pubR (f g : Fm) (ps : List Int) : PR := match atF f ps with
  | .none => .none
  | .some _ => if validF (putF ps f g) = true then .ok (putF ps f g) else .lim
/-- How Put ends. -/
def PubEnd (w w' : World) (r : PR) (e : Ending) : Prop := match r with
  | .none => e = .returned (.tuple #[zeroV, .int .i64 3]) ∧ Below w.heap.size w w'
  | .lim => e = .returned (.tuple #[zeroV, .int .i64 2]) ∧ Below w.heap.size w w'
  | .ok f => ∃ u : T, e = .returned (.tuple #[u.val, .int .i64 0]) ∧ u.form = f ∧ In w' u ∧ Below w.heap.size w w'
theorem szF_put : ∀ (p : List Int) (f g : Fm), szF (putF p f g) ≤ szF f + szF g
  | [], f, g => by rw [putF]; omega
  | i :: p, f, g => by
    have hl : ∀ (l : List Fm) (j : Nat), szL (l.modify j fun x => putF p x g) ≤ szL l + szF g := by
      intro l
      induction l with
      | nil => intro j; simp [szL]
      | cons x l ih =>
        intro j
        cases j with
        | zero =>
          have := szF_put p x g
          simp only [List.modify_zero_cons, szL]; omega
        | succ j =>
          have := ih j
          simp only [List.modify_succ_cons, szL]; omega
    cases f with
    | mk k n s ks =>
      have := hl ks i.toNat
      rw [putF]
      show szF (.mk k n s (ks.modify i.toNat fun x => putF p x g)) ≤ szF (.mk k n s ks) + szF g
      have e : ∀ l, szF (.mk k n s l) = 1 + if k = 3 then szL l else 0 := fun l => by rw [szF]
      rw [e, e]
      split <;> omega
/-- What lies in memory while Put runs. -/
structure Pub3 (w W : World) (t g : T) : Prop where
  bt : Blk4 W w.heap.size (.int .i64 t.kd) (.int .i64 t.nn) (.string t.tx) (.slice t.ad t.ks.length t.cp)
  bg : Blk4 W (w.heap.size + 1) (.int .i64 g.kd) (.int .i64 g.nn) (.string g.tx) (.slice g.ad g.ks.length g.cp)
  br : Blk4 W (w.heap.size + 1 + 1) (.int .i64 0) (.int .i64 0) (.string ⟨#[]⟩) (.slice none 0 0)
  below : Below w.heap.size w W
  size : w.heap.size + 3 ≤ W.heap.size
abbrev boxO (t : T) : Obj := .cells #[.int .i64 t.kd, .int .i64 t.nn, .string t.tx, .slice t.ad t.ks.length t.cp] 27
abbrev zeroO : Obj := .cells #[.int .i64 0, .int .i64 0, .string ⟨#[]⟩, .slice none 0 0] 27
theorem Pub3.start (w : World) (t g : T) : Pub3 w (((w.alloc (boxO t)).alloc (boxO g)).alloc zeroO) t g := by
  refine ⟨?_, ?_, ?_, upB (bel2 w _ _) (bel1 _ _) (Nat.le_refl _), by simp⟩
  · exact ((bel1 _ _).block _ (by simp; omega)).trans (((bel1 _ _).block _ (by simp)).trans (heap_alloc_new w _))
  · exact ((bel1 _ _).block _ (by simp)).trans (res_new w _ _)
  · have := heap_alloc_new ((w.alloc (boxO t)).alloc (boxO g)) zeroO
    rwa [show ((w.alloc (boxO t)).alloc (boxO g)).heap.size = w.heap.size + 1 + 1 by simp] at this
theorem Pub3.next {w W W' : World} {t g : T} (h : Pub3 w W t g) (hb : Below W.heap.size W W') : Pub3 w W' t g :=
  ⟨h.bt.below hb, h.bg.below hb, h.br.below hb, upB h.below hb (Nat.le_refl _), Nat.le_trans h.size hb.size⟩

set_option maxHeartbeats 4000000 in
set_option maxRecDepth 100000 in
theorem pub_any (t g : T) (ps : List Int) (pa : Option Addr) (pc : Nat) (w : World) (hin : In w t) (hg : In w g) (hp : InP w pa ps) (hl : ps.length ≤ pc) (hc : pc ≤ maxLen) (ht : szF t.form ≤ 500000) (hs : szF g.form ≤ 500000) :
    Calls Tryd.prog 33 #[t.val, .slice pa ps.length pc, g.val] w fun e w' => PubEnd w w' (pubR t.form g.form ps) e := by
  have HA := fun W (h : Below w.heap.size w W) => at_any t pa pc ps W (hin.below h) (hp.below h) (Nat.le_trans hl hc)
  have HP := Lib.hid fun W (h : Below w.heap.size w W) (hat : (atF t.form ps).isSome = true) => put_any w.heap.size g (fun b hb => hg.lt hb) ps t pa pc W h.size (hin.below h) (hg.below h) (fun b hb => hin.lt hb) (hp.below h) hl hc (by omega) hat
  have hsz := szF_put ps t.form g.form
  have K0 := Lib.hid (Pub3.start w t g)
  cases hat : atF t.form ps with
  | none =>
    rw [hat] at HA
    have hr : pubR t.form g.form ps = .none := by unfold pubR; rw [hat]
    rw [hr]
    have HA := Lib.hid HA
    clear hat hsz HP hr
    go_enter Tryd.func33, Tryd.ntmps33
    go_wp2_with (go_at_call 31; refine (HA.out _ K0.out.below).mono ?_; rintro e w2 ⟨rfl, hB⟩; have KK := Lib.hid ((K0.out.next hB).next (bel1 _ zeroO)); have hz := K0.out.size; have hz2 := hB.size; obtain ⟨c0, c1, c2, c3, y0, y1, y2, y3⟩ := KK.out.br.facts; clear hB)
    refine bodyPost_ret (v := .tuple #[zeroV, .int .i64 3]) (by simp [results, Tryd.results33, go_sem, c0, c1, c2, c3]) rfl ?_
    exact ⟨rfl, below_lay4 KK.out.below (by omega) _ _ _ _⟩
  | some x =>
    rw [hat] at HA
    have hp' : (atF t.form ps).isSome = true := by rw [hat]; rfl
    have HP : Hid (∀ W, Below w.heap.size w W → Calls Tryd.prog 55 #[t.val, .slice pa ps.length pc, g.val] W fun e w' => PutEnd w.heap.size W w' (putF ps t.form g.form) e) := Lib.hid fun W h => HP.out W h hp'
    have HA := Lib.hid HA
    cases hv : validF (putF ps t.form g.form) with
    | false =>
      have hr : pubR t.form g.form ps = .lim := by unfold pubR; rw [hat]; simp [hv]
      have HV := Lib.hid fun (u : T) W (hu : u.form = putF ps t.form g.form) (h : In W u) => (valid_any u W h (by rw [hu]; omega)).mono fun e w' hh => (by rw [hu, hv] at hh; exact hh : e = .returned (.bool false) ∧ Below W.heap.size W w')
      rw [hr]
      clear hat hsz hr hp' hv
      go_enter Tryd.func33, Tryd.ntmps33
      go_wp2_with (first
        | (go_at_call 31; refine (HA.out _ K0.out.below).mono ?_; rintro e w2 ⟨x', rfl, hx', hxi, hB⟩; have KK := Lib.hid ((K0.out.next hB).next (bel1 _ (boxO x'))); have hz := K0.out.size; have hz2 := hB.size; obtain ⟨c0, c1, c2, c3, y0, y1, y2, y3⟩ := KK.out.bt.facts; obtain ⟨d0, d1, d2, d3, x0, x1, x2, x3⟩ := KK.out.bg.facts; clear hB hx' hxi)
        | (go_at_call 55; refine (HP.out _ KK.out.below).mono ?_; rintro e w3 ⟨u, rfl, hu, hui, huo, hB⟩; have KM := Lib.hid ((KK.out.next hB).next (bel1 _ (boxO u))); have HU := Lib.hid hu; have HUI := Lib.hid (hui.alloc (boxO u)); have hz3 := hB.size; clear hB hu hui huo)
        | (go_at_call 18; refine (HV.out _ _ HU.out HUI.out).mono ?_; rintro e w4 ⟨rfl, hB⟩; have KN := Lib.hid (KM.out.next hB); obtain ⟨e0, e1, e2, e3, z0, z1, z2, z3⟩ := KN.out.br.facts; clear hB))
      refine bodyPost_ret (v := .tuple #[zeroV, .int .i64 2]) (by simp [results, Tryd.results33, go_sem, e0, e1, e2, e3]) rfl ?_
      exact ⟨rfl, below_lay4 KN.out.below (by omega) _ _ _ _⟩
    | true =>
      have hr : pubR t.form g.form ps = .ok (putF ps t.form g.form) := by unfold pubR; rw [hat]; simp [hv]
      have HV := Lib.hid fun (u : T) W (hu : u.form = putF ps t.form g.form) (h : In W u) => (valid_any u W h (by rw [hu]; omega)).mono fun e w' hh => (by rw [hu, hv] at hh; exact hh : e = .returned (.bool true) ∧ Below W.heap.size W w')
      rw [hr]
      clear hat hsz hr hp' hv
      go_enter Tryd.func33, Tryd.ntmps33
      go_wp2_with (first
        | (go_at_call 31; refine (HA.out _ K0.out.below).mono ?_; rintro e w2 ⟨x', rfl, hx', hxi, hB⟩; have KK := Lib.hid ((K0.out.next hB).next (bel1 _ (boxO x'))); have hz := K0.out.size; have hz2 := hB.size; obtain ⟨c0, c1, c2, c3, y0, y1, y2, y3⟩ := KK.out.bt.facts; obtain ⟨d0, d1, d2, d3, x0, x1, x2, x3⟩ := KK.out.bg.facts; clear hB hx' hxi)
        | (go_at_call 55; refine (HP.out _ KK.out.below).mono ?_; rintro e w3 ⟨u, rfl, hu, hui, huo, hB⟩; have KM := Lib.hid ((KK.out.next hB).next (bel1 _ (boxO u))); have HU := Lib.hid hu; have HUI := Lib.hid (hui.alloc (boxO u)); have HUO := Lib.hid huo; have hz3 := hB.size; have hbx := heap_alloc_new w3 (boxO u); have HBX := Lib.hid hbx; clear hB hu hui huo hbx)
        | (go_at_call 18; refine (HV.out _ _ HU.out HUI.out).mono ?_; rintro e w4 ⟨rfl, hB⟩; have KN := Lib.hid (KM.out.next hB); have HUI4 := Lib.hid (HUI.out.below hB); obtain ⟨e0, e1, e2, e3, z0, z1, z2, z3⟩ := KN.out.br.facts; obtain ⟨f0, f1, f2, f3⟩ := Box4.cells (w := w4) (b := w3.heap.size) (t := u) ((hB.block _ (by simp)).trans HBX.out); clear hB))
      refine bodyPost_ret (v := .tuple #[u.val, .int .i64 0]) (by simp [results, Tryd.results33, go_sem, e0, e1, e2, e3]) rfl ?_
      refine ⟨u, rfl, HU.out, HUI4.out.same _ (Nat.lt_succ_self _) fun b hb => ?_, below_lay4 KN.out.below (by omega) _ _ _ _⟩
      have hne : b ≠ w.heap.size + 1 + 1 := by
        have h1 := HUO.out b hb
        simp only [World.size_alloc] at h1
        omega
      rw [Below.heap_setCell _ _ _ _ hne, Below.heap_setCell _ _ _ _ hne, Below.heap_setCell _ _ _ _ hne, Below.heap_setCell _ _ _ _ hne]
end Go.Proofs.YtkcckhchlhmhhaaDoor
