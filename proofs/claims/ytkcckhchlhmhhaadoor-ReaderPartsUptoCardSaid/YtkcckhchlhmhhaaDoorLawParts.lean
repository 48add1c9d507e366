/- ReaderParts: the walk. -/
import Derived.Test.YtkcckhchlhmhhaaDoorRPub
import Derived.Test.YtkcckhchlhmhhaaDoorPartsPure
import Derived.Test.YtkcckhchlhmhhaaDoorSane2
namespace Go.Proofs.YtkcckhchlhmhhaaDoor
open Go.RowKit Go.Deep

/-- A boxed form that lies in memory. -/
structure Bx (W : World) (n : Nat) (t : T) : Prop where
  box : Box4 W n t
  ins : In W t
theorem Bx.next {W W' : World} {n : Nat} {t : T} (h : Bx W n t) (hb : Below W.heap.size W W') : Bx W' n t := ⟨(hb.block _ (lt_of_block h.box)).trans h.box, h.ins.below hb⟩
theorem Bx.new {W : World} {t : T} (h : In W t) : Bx (W.alloc (boxO t)) W.heap.size t := ⟨heap_alloc_new W _, h.alloc _⟩
structure Pt (w W : World) (t g : T) : Prop where
  t : Bx W w.heap.size t
  g : Bx W (w.heap.size + 1) g
  below : Below w.heap.size w W
theorem Pt.start {w : World} {t g : T} (ht : In w t) (hg : In w g) : Pt w ((w.alloc (boxO t)).alloc (boxO g)) t g :=
  ⟨(Bx.new ht).next (bel1 _ _), ⟨res_new w _ _, (hg.alloc _).alloc _⟩, bel2 _ _ _⟩
theorem Pt.next {w W W' : World} {t g : T} (h : Pt w W t g) (hb : Below W.heap.size W W') : Pt w W' t g := ⟨h.t.next hb, h.g.next hb, upB h.below hb (Nat.le_refl _)⟩

set_option maxHeartbeats 8000000 in
set_option maxRecDepth 100000 in
theorem parts_any (t g : T) (ps : List Int) (pa : Option Addr) (pc : Nat) (w : World) (hin : In w t) (hgi : In w g) (hp : InP w pa ps) (hl : ps.length ≤ pc) (hc : pc ≤ maxLen) (ht : bkF t.form ≤ 1100000) (hs : bkF g.form ≤ 1100000) (hg : Glob w) (h6 : 6 ≤ w.heap.size) :
    Calls Tryd.prog 6 #[t.val, .slice pa ps.length pc, g.val] w fun e w' => e = .returned (.bool true) ∧ Below w.heap.size w w' := by
  have z1 := szF_bk t.form
  have z2 := szF_bk g.form
  have H1 := Lib.hid fun W (h : Below w.heap.size w W) => (at_any t pa pc ps W (hin.below h) (hp.below h) (Nat.le_trans hl hc)).mono fun e w' hh => got_at hh
  have H2 := Lib.hid fun W (h : Below w.heap.size w W) => (rat_any t pa pc ps W (hin.below h) (hp.below h) (Nat.le_trans hl hc) (by omega)).mono fun e w' hh => got_rat hh
  have H3 := Lib.hid fun W (h : Below w.heap.size w W) => (pub_any t g ps pa pc W (hin.below h) (hgi.below h) (hp.below h) hl hc (by omega) (by omega)).mono fun e w' hh => got_pub hh
  have H4 := Lib.hid fun W (h : Below w.heap.size w W) => (rpub_any t g ps pa pc W (hin.below h) (hgi.below h) (hp.below h) hl hc (by omega) (by omega)).mono fun e w' hh => got_pub hh
  have HEQ := Lib.hid fun (x y : T) W (he : x.form = y.form) (h1 : In W x) (h2 : In W y) => (requal_T x y W h1 h2).mono fun e w' hh => (by rw [he, cmpF_self] at hh; exact hh : e = .returned (.bool true) ∧ Below W.heap.size W w')
  have HS := Lib.hid fun W (h : Below w.heap.size w W) => sane_any W (hg.below h h6) (Nat.le_trans h6 h.size)
  have KK := Lib.hid (Pt.start hin hgi)
  have hap := atF_put ps t.form g.form
  have H5 := fun (x : T) W (hx : x.form = putF ps t.form g.form) (h : Below w.heap.size w W) (hi : In W x) => (at_any x pa pc ps W hi (hp.below h) (Nat.le_trans hl hc)).mono fun e w' hh => got_at hh
  by_cases hok : ∃ f, pubR t.form g.form ps = .ok f
  · obtain ⟨f, hf⟩ := hok
    obtain ⟨rfl, hsome⟩ := pubR_ok hf
    have H5 := Lib.hid fun (x : T) W (hx : x.form = putF ps t.form g.form) (h : Below w.heap.size w W) (hi : In W x) => (H5 x W hx h hi).mono fun e w' hh => (by rw [hx, hap hsome] at hh; exact hh : Got W w' g.form 0 e)
    rw [hf] at H3 H4
    generalize atVal (atF t.form ps) = fa at *
    generalize atCode (atF t.form ps) = ca at *
    simp only [pubVal, pubCode] at H3 H4
    generalize putF ps t.form g.form = fc at *
    clear hf hsome hap z1 z2 hin hgi hp ht hs hg hl hc
    go_enter Tryd.func6, Tryd.ntmps6
    go_wp2_with (first
      | (go_at_call 31; (with_reducible refine (H1.out _ KK.out.below).mono ?_); rintro e w2 ⟨a, rfl, haf, hai, hB⟩; have KK := Lib.hid ((KK.out.next hB).next (bel1 _ (boxO a))); have KA := Lib.hid (Bx.new hai); have HAF := Lib.hid haf; obtain ⟨c0, c1, c2, c3⟩ := KK.out.t.box.cells; clear haf hai hB)
      | (go_at_call 32; (with_reducible refine (H2.out _ KK.out.below).mono ?_); rintro e w3 ⟨b, rfl, hbf, hbi, hB⟩; have KK := Lib.hid ((KK.out.next hB).next (bel1 _ (boxO b))); have KA := Lib.hid ((KA.out.next hB).next (bel1 _ (boxO b))); have KB := Lib.hid (Bx.new hbi); have HBF := Lib.hid hbf; obtain ⟨c0, c1, c2, c3⟩ := KK.out.t.box.cells; obtain ⟨d0, d1, d2, d3⟩ := KK.out.g.box.cells; clear hbf hbi hB)
      | (go_at_call 33; (with_reducible refine (H3.out _ KK.out.below).mono ?_); rintro e w4 ⟨c, rfl, hcf, hci, hB⟩; have KK := Lib.hid ((KK.out.next hB).next (bel1 _ (boxO c))); have KA := Lib.hid ((KA.out.next hB).next (bel1 _ (boxO c))); have KB := Lib.hid ((KB.out.next hB).next (bel1 _ (boxO c))); have KC := Lib.hid (Bx.new hci); have HCF := Lib.hid hcf; obtain ⟨c0, c1, c2, c3⟩ := KK.out.t.box.cells; obtain ⟨d0, d1, d2, d3⟩ := KK.out.g.box.cells; clear hcf hci hB)
      | (go_at_call 34; (with_reducible refine (H4.out _ KK.out.below).mono ?_); rintro e w5 ⟨d, rfl, hdf, hdi, hB⟩; have KK := Lib.hid ((KK.out.next hB).next (bel1 _ (boxO d))); have KA := Lib.hid ((KA.out.next hB).next (bel1 _ (boxO d))); have KB := Lib.hid ((KB.out.next hB).next (bel1 _ (boxO d))); have KC := Lib.hid ((KC.out.next hB).next (bel1 _ (boxO d))); have KD := Lib.hid (Bx.new hdi); have HDF := Lib.hid hdf; obtain ⟨a0, a1, a2, a3⟩ := KA.out.box.cells; obtain ⟨b0, b1, b2, b3⟩ := KB.out.box.cells; clear hdf hdi hB)
      | (go_at_call 14; (with_reducible refine (HEQ.out a b _ (HAF.out.trans HBF.out.symm) KA.out.ins KB.out.ins).mono ?_); rintro e w6 ⟨rfl, hB⟩; have KK := Lib.hid (KK.out.next hB); have KC := Lib.hid (KC.out.next hB); have KD := Lib.hid (KD.out.next hB); obtain ⟨a0, a1, a2, a3⟩ := KC.out.box.cells; obtain ⟨b0, b1, b2, b3⟩ := KD.out.box.cells; clear hB)
      | (go_at_call 14; (with_reducible refine (HEQ.out c d _ (HCF.out.trans HDF.out.symm) KC.out.ins KD.out.ins).mono ?_); rintro e w7 ⟨rfl, hB⟩; have KK := Lib.hid (KK.out.next hB); have KC := Lib.hid (KC.out.next hB); obtain ⟨a0, a1, a2, a3⟩ := KC.out.box.cells; clear hB)
      | (go_at_call 31; (with_reducible refine (H5.out c _ HCF.out KK.out.below KC.out.ins).mono ?_); rintro e w8 ⟨x, rfl, hxf, hxi, hB⟩; have KK := Lib.hid ((KK.out.next hB).next (bel1 _ (boxO x))); have KX := Lib.hid (Bx.new hxi); have HXF := Lib.hid hxf; obtain ⟨c0, c1, c2, c3⟩ := KX.out.box.cells; obtain ⟨d0, d1, d2, d3⟩ := KK.out.g.box.cells; clear hxf hxi hB)
      | (go_at_call 14; (with_reducible refine (HEQ.out x g _ HXF.out KX.out.ins KK.out.g.ins).mono ?_); rintro e w9 ⟨rfl, hB⟩; have KK := Lib.hid (KK.out.next hB); clear hB)
      | (go_at_call 15; (with_reducible refine (HS.out _ KK.out.below).mono ?_); rintro e w10 ⟨rfl, hB⟩; have KK := Lib.hid (KK.out.next hB); clear hB))
    go_ret
    exact ⟨rfl, KK.out.below⟩
  · have hne := pubCode_ne (fun f e => hok ⟨f, e⟩)
    generalize atVal (atF t.form ps) = fa at *
    generalize atCode (atF t.form ps) = ca at *
    generalize pubVal (pubR t.form g.form ps) = fc at *
    generalize pubCode (pubR t.form g.form ps) = cc at *
    clear H5 hap hok z1 z2 hin hgi hp ht hs hg hl hc
    go_enter Tryd.func6, Tryd.ntmps6
    go_wp2_with (first
      | (go_at_call 31; (with_reducible refine (H1.out _ KK.out.below).mono ?_); rintro e w2 ⟨a, rfl, haf, hai, hB⟩; have KK := Lib.hid ((KK.out.next hB).next (bel1 _ (boxO a))); have KA := Lib.hid (Bx.new hai); have HAF := Lib.hid haf; obtain ⟨c0, c1, c2, c3⟩ := KK.out.t.box.cells; clear haf hai hB)
      | (go_at_call 32; (with_reducible refine (H2.out _ KK.out.below).mono ?_); rintro e w3 ⟨b, rfl, hbf, hbi, hB⟩; have KK := Lib.hid ((KK.out.next hB).next (bel1 _ (boxO b))); have KA := Lib.hid ((KA.out.next hB).next (bel1 _ (boxO b))); have KB := Lib.hid (Bx.new hbi); have HBF := Lib.hid hbf; obtain ⟨c0, c1, c2, c3⟩ := KK.out.t.box.cells; obtain ⟨d0, d1, d2, d3⟩ := KK.out.g.box.cells; clear hbf hbi hB)
      | (go_at_call 33; (with_reducible refine (H3.out _ KK.out.below).mono ?_); rintro e w4 ⟨c, rfl, hcf, hci, hB⟩; have KK := Lib.hid ((KK.out.next hB).next (bel1 _ (boxO c))); have KA := Lib.hid ((KA.out.next hB).next (bel1 _ (boxO c))); have KB := Lib.hid ((KB.out.next hB).next (bel1 _ (boxO c))); have KC := Lib.hid (Bx.new hci); have HCF := Lib.hid hcf; obtain ⟨c0, c1, c2, c3⟩ := KK.out.t.box.cells; obtain ⟨d0, d1, d2, d3⟩ := KK.out.g.box.cells; clear hcf hci hB)
      | (go_at_call 34; (with_reducible refine (H4.out _ KK.out.below).mono ?_); rintro e w5 ⟨d, rfl, hdf, hdi, hB⟩; have KK := Lib.hid ((KK.out.next hB).next (bel1 _ (boxO d))); have KA := Lib.hid ((KA.out.next hB).next (bel1 _ (boxO d))); have KB := Lib.hid ((KB.out.next hB).next (bel1 _ (boxO d))); have KC := Lib.hid ((KC.out.next hB).next (bel1 _ (boxO d))); have KD := Lib.hid (Bx.new hdi); have HDF := Lib.hid hdf; obtain ⟨a0, a1, a2, a3⟩ := KA.out.box.cells; obtain ⟨b0, b1, b2, b3⟩ := KB.out.box.cells; clear hdf hdi hB)
      | (go_at_call 14; (with_reducible refine (HEQ.out a b _ (HAF.out.trans HBF.out.symm) KA.out.ins KB.out.ins).mono ?_); rintro e w6 ⟨rfl, hB⟩; have KK := Lib.hid (KK.out.next hB); have KC := Lib.hid (KC.out.next hB); have KD := Lib.hid (KD.out.next hB); obtain ⟨a0, a1, a2, a3⟩ := KC.out.box.cells; obtain ⟨b0, b1, b2, b3⟩ := KD.out.box.cells; clear hB)
      | (go_at_call 14; (with_reducible refine (HEQ.out c d _ (HCF.out.trans HDF.out.symm) KC.out.ins KD.out.ins).mono ?_); rintro e w7 ⟨rfl, hB⟩; have KK := Lib.hid (KK.out.next hB); have KC := Lib.hid (KC.out.next hB); obtain ⟨a0, a1, a2, a3⟩ := KC.out.box.cells; clear hB)
      | (go_at_call 15; (with_reducible refine (HS.out _ KK.out.below).mono ?_); rintro e w10 ⟨rfl, hB⟩; have KK := Lib.hid (KK.out.next hB); clear hB))
    go_ret
    exact ⟨rfl, KK.out.below⟩
end Go.Proofs.YtkcckhchlhmhhaaDoor
