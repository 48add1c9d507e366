/- ReaderWhole: the walk. -/
import Derived.Test.YtkcckhchlhmhhaaDoorPub
import Derived.Test.YtkcckhchlhmhhaaDoorWholePure
import Derived.Test.YtkcckhchlhmhhaaDoorSane2
import Derived.Test.YtkcckhchlhmhhaaDoorOrder
namespace Go.Proofs.YtkcckhchlhmhhaaDoor
open Go.RowKit Go.Deep

/-- Two boxed forms, and that both lie in memory. -/
structure Wh (w W : World) (P : Nat) (t g : T) : Prop where
  bt : Box4 W w.heap.size t
  bg : Box4 W P g
  it : In W t
  ig : In W g
  below : Below w.heap.size w W
theorem Wh.next {w W W' : World} {P : Nat} {t g : T} (h : Wh w W P t g) (hb : Below W.heap.size W W') : Wh w W' P t g :=
  ⟨(hb.block _ (lt_of_block h.bt)).trans h.bt, (hb.block _ (lt_of_block h.bg)).trans h.bg, h.it.below hb, h.ig.below hb, upB h.below hb (Nat.le_refl _)⟩
theorem Wh.drew {w W : World} {P : Nat} {t g : T} (h : Wh w W P t g) : Wh w W.drew P t g := h.next (Below.refl _ _).drew
theorem Wh.start {w w2 : World} {t g : T} (hin : In w t) (hg : In w2 g) (hb : Below (w.alloc (boxO t)).heap.size (w.alloc (boxO t)) w2) : Wh w (w2.alloc (boxO g)) w2.heap.size t g :=
  ⟨((bel1 w2 (boxO g)).block _ (by have := hb.size; simp at this; omega)).trans ((hb.block _ (by simp)).trans (heap_alloc_new w _)), heap_alloc_new w2 _, (hin.alloc (boxO t)).below (up hb (bel1 _ _)), hg.alloc _, up (bel1 _ _) (up hb (bel1 _ _))⟩

set_option maxHeartbeats 4000000 in
set_option maxRecDepth 100000 in
theorem whole_any (t : T) (ps : List Int) (pa : Option Addr) (pc : Nat) (w : World) (hin : In w t) (hp : InP w pa ps) (hl : ps.length ≤ pc) (hc : pc ≤ maxLen) (ht : szF t.form ≤ 500000) (hg : Glob w) (h6 : 6 ≤ w.heap.size) :
    Calls Tryd.prog 8 #[t.val, .slice pa ps.length pc] w fun e w' => e = .returned (.bool true) ∧ Below w.heap.size w w' := by
  have HA := fun W (h : Below w.heap.size w W) => at_any t pa pc ps W (hin.below h) (hp.below h) (Nat.le_trans hl hc)
  have HS := Lib.hid fun W (h : Below w.heap.size w W) => sane_any W (hg.below h h6) (Nat.le_trans h6 h.size)
  have HIN := Lib.hid hin
  cases hat : atF t.form ps with
  | none =>
    rw [hat] at HA
    have HA := Lib.hid HA
    clear hat hp hg
    go_enter Tryd.func8, Tryd.ntmps8
    go_wp2_with (first
      | (go_at_call 31; refine (HA.out _ (bel1 _ _)).mono ?_; rintro e w2 ⟨rfl, hB⟩; have KK := Lib.hid (up (bel1 _ (boxO t)) (up hB (bel1 _ zeroO))); clear hB)
      | (go_at_call 15; refine (HS.out _ KK.out).mono ?_; rintro e w3 ⟨rfl, hB⟩; have KM := Lib.hid (upB KK.out hB (Nat.le_refl _)); clear hB))
    go_ret
    exact ⟨rfl, KM.out⟩
  | some x =>
    rw [hat] at HA
    have HA := Lib.hid HA
    obtain ⟨s1, s2⟩ := atF_le ps t.form x hat
    have hput := putF_at ps t.form x hat
    have HP := fun (g : T) W (h : Below w.heap.size w W) (hgx : g.form = x) (hgi : In W g) => (pub_any t g ps pa pc W (hin.below h) hgi (hp.below h) hl hc ht (by rw [hgx]; omega))
    have C1 := Lib.hid fun (g : T) W (hgx : g.form = x) (hgi : In W g) => (size_any g W hgi (by rw [hgx]; omega)).mono fun e w' hh => (by rw [hgx] at hh; exact hh : e = .returned (.int .i64 (szF x)) ∧ Below W.heap.size W w')
    have C2 := Lib.hid fun W (hgi : In W t) => size_any t W hgi (by omega)
    have C3 := Lib.hid fun (g : T) W (hgx : g.form = x) (hgi : In W g) => (depth_any g W hgi (by rw [hgx]; omega)).mono fun e w' hh => (by rw [hgx] at hh; exact hh : e = .returned (.int .i64 (dpF x)) ∧ Below W.heap.size W w')
    have C4 := Lib.hid fun W (hgi : In W t) => depth_any t W hgi (by omega)
    have C5 := Lib.hid fun W (hgi : In W t) => valid_any t W hgi (by omega)
    have C6 := Lib.hid fun (u : T) W (hu : u.form = t.form) (h1 : In W t) (h2 : In W u) => (equal_T t u W h1 h2).mono fun e w' hh => (by rw [hu, cmpF_self] at hh; exact hh : e = .returned (.bool true) ∧ Below W.heap.size W w')
    generalize hm1 : szF x = m1 at *
    generalize hm2 : szF t.form = m2 at *
    generalize hm3 : dpF x = m3 at *
    generalize hm4 : dpF t.form = m4 at *
    have d1 : ¬ m2 < m1 := by omega
    have d2 : ¬ m4 < m3 := by omega
    have HX : Hid (m1 ≤ 9000000 ∧ m2 ≤ 9000000) := Lib.hid (by omega)
    clear hm1 hm2 hm3 hm4 s1 s2
    cases hv : validF t.form with
    | false =>
      have hr : ∀ g : T, g.form = x → pubR t.form g.form ps = .lim := fun g hgx => by unfold pubR; rw [hgx, hat, hput]; simp [hv]
      rw [hv] at C5
      have HP := Lib.hid fun (g : T) W (h : Below w.heap.size w W) (hgx : g.form = x) (hgi : In W g) => (HP g W h hgx hgi).mono fun e w' hh => (by rw [hr g hgx] at hh; exact hh : PubEnd W w' .lim e)
      clear hat hput hp hg hr hv hin
      go_enter Tryd.func8, Tryd.ntmps8
      go_wp2_with (go_at_call 31; refine (HA.out _ (bel1 _ _)).mono ?_; rintro e w2 ⟨g, rfl, hgx, hgi, hB⟩; have KK := Lib.hid (Wh.start HIN.out hgi hB); have HGX := Lib.hid hgx; have hz := hB.size; clear hB hgi hgx)
      go_region_held3 (fun w' => (w'.cell? ⟨w.heap.size, 0, none⟩ = some (.int .i64 t.kd) ∧ w'.cell? ⟨w.heap.size, 1, none⟩ = some (.int .i64 t.nn) ∧ w'.cell? ⟨w.heap.size, 2, none⟩ = some (.string t.tx) ∧ w'.cell? ⟨w.heap.size, 3, none⟩ = some (.slice t.ad t.ks.length t.cp)) ∧
          (w'.cell? ⟨w2.heap.size, 0, none⟩ = some (.int .i64 g.kd) ∧ w'.cell? ⟨w2.heap.size, 1, none⟩ = some (.int .i64 g.nn) ∧ w'.cell? ⟨w2.heap.size, 2, none⟩ = some (.string g.tx) ∧ w'.cell? ⟨w2.heap.size, 3, none⟩ = some (.slice g.ad g.ks.length g.cp)))
        (first
          | exact ⟨KK.out.drew.bt.cells, KK.out.drew.bg.cells⟩
          | exact ⟨KK.out.bt.cells, KK.out.bg.cells⟩)
        (first
          | (go_at_call 20; with_reducible refine (C1.out g _ HGX.out KK.out.drew.ig).mono ?_; rintro e w1 ⟨rfl, hB⟩; have KK := Lib.hid (KK.out.drew.next hB); clear hB)
          | (go_at_call 20; with_reducible refine (C2.out _ KK.out.it).mono ?_; rintro e w1 ⟨rfl, hB⟩; have KK := Lib.hid (KK.out.next hB); clear hB)
          | (go_at_call 22; with_reducible refine (C3.out g _ HGX.out KK.out.ig).mono ?_; rintro e w1 ⟨rfl, hB⟩; have KK := Lib.hid (KK.out.next hB); clear hB)
          | (go_at_call 22; with_reducible refine (C4.out _ KK.out.it).mono ?_; rintro e w1 ⟨rfl, hB⟩; have KK := Lib.hid (KK.out.next hB); clear hB))
      go_wp2_with (first
        | (go_at_call 33; refine (HP.out g _ KK.out.below HGX.out KK.out.ig).mono ?_; rintro e w3 ⟨rfl, hB⟩; have KK := Lib.hid ((KK.out.next hB).next (bel1 _ zeroO)); obtain ⟨c0, c1, c2, c3⟩ := KK.out.bt.cells; clear hB)
        | (go_at_call 18; refine (C5.out _ KK.out.it).mono ?_; rintro e w4 ⟨rfl, hB⟩; have KK := Lib.hid (KK.out.next hB); clear hB)
        | (go_at_call 15; refine (HS.out _ KK.out.below).mono ?_; rintro e w5 ⟨rfl, hB⟩; have KM := Lib.hid (upB KK.out.below hB (Nat.le_refl _)); clear hB))
      go_ret
      exact ⟨rfl, KM.out⟩
    | true =>
      have hr : ∀ g : T, g.form = x → pubR t.form g.form ps = .ok t.form := fun g hgx => by unfold pubR; rw [hgx, hat, hput]; simp [hv]
      rw [hv] at C5
      have HP := Lib.hid fun (g : T) W (h : Below w.heap.size w W) (hgx : g.form = x) (hgi : In W g) => (HP g W h hgx hgi).mono fun e w' hh => (by rw [hr g hgx] at hh; exact hh : PubEnd W w' (.ok t.form) e)
      clear hat hput hp hg hr hv hin
      go_enter Tryd.func8, Tryd.ntmps8
      go_wp2_with (go_at_call 31; refine (HA.out _ (bel1 _ _)).mono ?_; rintro e w2 ⟨g, rfl, hgx, hgi, hB⟩; have KK := Lib.hid (Wh.start HIN.out hgi hB); have HGX := Lib.hid hgx; have hz := hB.size; clear hB hgi hgx)
      go_region_held3 (fun w' => (w'.cell? ⟨w.heap.size, 0, none⟩ = some (.int .i64 t.kd) ∧ w'.cell? ⟨w.heap.size, 1, none⟩ = some (.int .i64 t.nn) ∧ w'.cell? ⟨w.heap.size, 2, none⟩ = some (.string t.tx) ∧ w'.cell? ⟨w.heap.size, 3, none⟩ = some (.slice t.ad t.ks.length t.cp)) ∧
          (w'.cell? ⟨w2.heap.size, 0, none⟩ = some (.int .i64 g.kd) ∧ w'.cell? ⟨w2.heap.size, 1, none⟩ = some (.int .i64 g.nn) ∧ w'.cell? ⟨w2.heap.size, 2, none⟩ = some (.string g.tx) ∧ w'.cell? ⟨w2.heap.size, 3, none⟩ = some (.slice g.ad g.ks.length g.cp)))
        (first
          | exact ⟨KK.out.drew.bt.cells, KK.out.drew.bg.cells⟩
          | exact ⟨KK.out.bt.cells, KK.out.bg.cells⟩)
        (first
          | (go_at_call 20; with_reducible refine (C1.out g _ HGX.out KK.out.drew.ig).mono ?_; rintro e w1 ⟨rfl, hB⟩; have KK := Lib.hid (KK.out.drew.next hB); clear hB)
          | (go_at_call 20; with_reducible refine (C2.out _ KK.out.it).mono ?_; rintro e w1 ⟨rfl, hB⟩; have KK := Lib.hid (KK.out.next hB); clear hB)
          | (go_at_call 22; with_reducible refine (C3.out g _ HGX.out KK.out.ig).mono ?_; rintro e w1 ⟨rfl, hB⟩; have KK := Lib.hid (KK.out.next hB); clear hB)
          | (go_at_call 22; with_reducible refine (C4.out _ KK.out.it).mono ?_; rintro e w1 ⟨rfl, hB⟩; have KK := Lib.hid (KK.out.next hB); clear hB))
      go_wp2_with (first
        | (go_at_call 33; refine (HP.out g _ KK.out.below HGX.out KK.out.ig).mono ?_; rintro e w3 ⟨u, rfl, huf, hui, hB⟩; have KK := Lib.hid ((KK.out.next hB).next (bel1 _ (boxO u))); obtain ⟨c0, c1, c2, c3⟩ := KK.out.bt.cells; have HUF := Lib.hid huf; have HUI := Lib.hid (hui.alloc (boxO u)); have HBX := Lib.hid (show Box4 (w3.alloc (boxO u)) w3.heap.size u from heap_alloc_new w3 _); clear hB huf hui)
        | (go_at_call 18; refine (C5.out _ KK.out.it).mono ?_; rintro e w4 ⟨rfl, hB⟩; have KK := Lib.hid (KK.out.next hB); obtain ⟨c0, c1, c2, c3⟩ := KK.out.bt.cells; obtain ⟨e0, e1, e2, e3⟩ := Box4.cells (w := w4) (b := w3.heap.size) (t := u) ((hB.block _ (by simp)).trans HBX.out); have HUI := Lib.hid (HUI.out.below hB); clear hB)
        | (go_at_call 30; refine (C6.out u _ HUF.out KK.out.it HUI.out).mono ?_; rintro e w5 ⟨rfl, hB⟩; have KK := Lib.hid (KK.out.next hB); clear hB)
        | (go_at_call 15; refine (HS.out _ KK.out.below).mono ?_; rintro e w6 ⟨rfl, hB⟩; have KM := Lib.hid (upB KK.out.below hB (Nat.le_refl _)); clear hB))
      go_ret
      exact ⟨rfl, KM.out⟩
end Go.Proofs.YtkcckhchlhmhhaaDoor
