/- reader.At: the part of a form at a path. -/
import Derived.Test.YtkcckhchlhmhhaaDoorWalk
namespace Go.Proofs.YtkcckhchlhmhhaaDoor
open Go.RowKit Go.Deep

/-- The part at a path. -/
def atF : Fm → List Int → Option Fm
  | f, [] => some f
  | f, i :: p => if h : 0 ≤ i ∧ i.toNat < f.kids.length then atF f.kids[i.toNat] p else none
theorem atF_nil (f : Fm) : atF f [] = some f := by unfold atF; rfl
theorem atF_cons {f : Fm} {xs : List T} (h : xs.map T.form = f.kids) (j : Nat) (hj : j < xs.length) (p : List Int) : atF f ((j : Int) :: p) = atF xs[j].form p := by
  have hl : f.kids.length = xs.length := by rw [← h]; simp
  have hk : 0 ≤ (j : Int) ∧ (j : Int).toNat < f.kids.length := ⟨by omega, by rw [hl]; simpa using hj⟩
  rw [atF, dif_pos hk]
  congr 1
  simp only [← h, Int.toNat_natCast, List.getElem_map]
theorem atF_out {f : Fm} {xs : List T} (h : xs.map T.form = f.kids) (i : Int) (hi : i < 0 ∨ (xs.length : Int) ≤ i) (p : List Int) : atF f (i :: p) = none := by
  have hl : f.kids.length = xs.length := by rw [← h]; simp
  rw [atF, dif_neg]
  rintro ⟨a, b⟩
  omega

/-- A path in memory. -/
def InP (w : World) (pa : Option Addr) (ps : List Int) : Prop := ∀ k (h : k < ps.length), ∃ b o, pa = some ⟨b, o, none⟩ ∧ w.cell? ⟨b, o + k, none⟩ = some (.int .i64 ps[k])
theorem InP.below {w w' : World} {pa : Option Addr} {ps : List Int} (h : InP w pa ps) (hb : Below w.heap.size w w') : InP w' pa ps := fun k hk => by
  obtain ⟨b, o, e, hc⟩ := h k hk
  exact ⟨b, o, e, (hb.cell (p := ⟨b, o + k, none⟩) (World.block_lt_of_cell? _ _ hc)).trans hc⟩

/-- A block of four cells. -/
abbrev Blk4 (w : World) (b : Nat) (v0 v1 v2 v3 : Value) : Prop := w.heap[b]? = some (.cells #[v0, v1, v2, v3] 27 (0, 0))
theorem Blk4.facts {w : World} {b : Nat} {v0 v1 v2 v3 : Value} (h : Blk4 w b v0 v1 v2 v3) :
    w.cell? ⟨b, 0, none⟩ = some v0 ∧ w.cell? ⟨b, 1, none⟩ = some v1 ∧ w.cell? ⟨b, 2, none⟩ = some v2 ∧ w.cell? ⟨b, 3, none⟩ = some v3 ∧
    w.frozen? ⟨b, 0, none⟩ = false ∧ w.frozen? ⟨b, 1, none⟩ = false ∧ w.frozen? ⟨b, 2, none⟩ = false ∧ w.frozen? ⟨b, 3, none⟩ = false := by
  refine ⟨?_, ?_, ?_, ?_, ?_, ?_, ?_, ?_⟩ <;> simp [World.cell?, World.frozen?, show w.heap[b]? = _ from h]
abbrev lay4 (w : World) (b : Nat) (u0 u1 u2 u3 : Value) : World := (((w.setCell ⟨b, 0, none⟩ u0).setCell ⟨b, 1, none⟩ u1).setCell ⟨b, 2, none⟩ u2).setCell ⟨b, 3, none⟩ u3
theorem Blk4.set {w : World} {b : Nat} {v0 v1 v2 v3 : Value} (h : Blk4 w b v0 v1 v2 v3) (u0 u1 u2 u3 : Value) : Blk4 (lay4 w b u0 u1 u2 u3) b u0 u1 u2 u3 := by
  have h0 := heap_setCell_same w b 0 _ _ u0 h
  have h1 := heap_setCell_same _ b 1 _ _ u1 h0
  have h2 := heap_setCell_same _ b 2 _ _ u2 h1
  have h3 := heap_setCell_same _ b 3 _ _ u3 h2
  simpa using h3
theorem Blk4.other {w : World} {b c : Nat} {v0 v1 v2 v3 : Value} (h : Blk4 w b v0 v1 v2 v3) (hne : b ≠ c) (u0 u1 u2 u3 : Value) : Blk4 (lay4 w c u0 u1 u2 u3) b v0 v1 v2 v3 := by
  have h0 := heap_setCell_other w ⟨c, 0, none⟩ b u0 hne
  have h1 := heap_setCell_other (w.setCell ⟨c, 0, none⟩ u0) ⟨c, 1, none⟩ b u1 hne
  have h2 := heap_setCell_other ((w.setCell ⟨c, 0, none⟩ u0).setCell ⟨c, 1, none⟩ u1) ⟨c, 2, none⟩ b u2 hne
  have h3 := heap_setCell_other (((w.setCell ⟨c, 0, none⟩ u0).setCell ⟨c, 1, none⟩ u1).setCell ⟨c, 2, none⟩ u2) ⟨c, 3, none⟩ b u3 hne
  exact ((h3.trans h2).trans (h1.trans h0)).trans h
theorem Blk4.below {w w' : World} {b : Nat} {v0 v1 v2 v3 : Value} (h : Blk4 w b v0 v1 v2 v3) (hb : Below w.heap.size w w') : Blk4 w' b v0 v1 v2 v3 := (hb.block b (lt_of_block h)).trans h
theorem below_lay4 {B : Nat} {a w : World} (h : Below B a w) {b : Nat} (hb : B ≤ b) (u0 u1 u2 u3 : Value) : Below B a (lay4 w b u0 u1 u2 u3) :=
  (((h.setCell (p := ⟨b, 0, none⟩) hb u0).setCell (p := ⟨b, 1, none⟩) hb u1).setCell (p := ⟨b, 2, none⟩) hb u2).setCell (p := ⟨b, 3, none⟩) hb u3

theorem res_new (w : World) (o o' : Obj) : ((w.alloc o).alloc o').heap[w.heap.size + 1]? = some o' := by
  have := heap_alloc_new (w.alloc o) o'
  rwa [show (w.alloc o).heap.size = w.heap.size + 1 by simp] at this
/-- Where At stands. -/
structure AtRel (w wr : World) (x : T) : Prop where
  box : Blk4 wr w.heap.size (.int .i64 x.kd) (.int .i64 x.nn) (.string x.tx) (.slice x.ad x.ks.length x.cp)
  res : Blk4 wr (w.heap.size + 1) (.int .i64 0) (.int .i64 0) (.string ⟨#[]⟩) (.slice none 0 0)
  below : Below w.heap.size w wr

/-- How At ends. -/
def AtEnd (w w' : World) (r : Option Fm) (e : Ending) : Prop :=
  match r with
  | some f => ∃ u : T, e = .returned (.tuple #[u.val, .int .i64 0]) ∧ u.form = f ∧ In w' u ∧ Below w.heap.size w w'
  | none => e = .returned (.tuple #[.agg #[.int .i64 0, .int .i64 0, .string ⟨#[]⟩, .slice none 0 0], .int .i64 3]) ∧ Below w.heap.size w w'

set_option maxHeartbeats 1000000 in
theorem at_any (t : T) (pa : Option Addr) (pc : Nat) (ps : List Int) (w : World) (hin : In w t) (hp : InP w pa ps) (hl : ps.length ≤ maxLen) :
    Calls Tryd.prog 31 #[t.val, .slice pa ps.length pc] w fun e w' => AtEnd w w' (atF t.form ps) e := by
  unfold maxLen at hl
  have HP := Lib.hid hp
  have HIN := Lib.hid hin
  clear hp hin
  go_enter Tryd.func31, Tryd.ntmps31
  go_wp2_with fail
  go_loopg [11] (ps.length) (fun m i wr => ∃ (k : Nat) (x : T), k ≤ ps.length ∧ m = ps.length - k ∧ i = .int .i64 k ∧ atF t.form ps = atF x.form (ps.drop k) ∧ In w x ∧ AtRel w wr x)
  case atStart => exact ⟨0, t, by omega, rfl, rfl, rfl, HIN.out, ((bel1 _ _).block _ (by simp)).trans (heap_alloc_new w _), res_new _ _ _, bel2 _ _ _⟩
  case round =>
    obtain ⟨k, x, hk, rfl, rfl, hat, hx, hR⟩ := hrel
    have HA := Lib.hid hat
    have HR := Lib.hid hR
    have HX := Lib.hid hx
    obtain ⟨b0, b1, b2, b3, z0, z1, z2, z3⟩ := hR.box.facts
    obtain ⟨c0, c1, c2, c3, y0, y1, y2, y3⟩ := hR.res.facts
    obtain ⟨a, c, xs, hxs, hlen, _, hInL, hkids⟩ := kids_any x
    have hlen := hlen hx.ok
    unfold maxLen at hlen
    have HK := Lib.hid (hkids wr)
    have HXS := Lib.hid hxs
    have HI := Lib.hid (hInL w hx)
    clear hkids hInL hxs hat hR hx
    by_cases hlt : k < ps.length
    · obtain ⟨pb, po, hpa, hpc⟩ := HP.out.below HR.out.below k hlt
      have HD := Lib.hid (List.drop_eq_getElem_cons hlt)
      obtain ⟨i, hi⟩ : ∃ i, ps[k] = i := ⟨_, rfl⟩
      rw [hi] at hpc HD
      clear hi
      subst hpa
      by_cases hi0 : i < 0
      · have HE := Lib.hid (show atF t.form ps = none by rw [HA.out, HD.out]; exact atF_out HXS.out i (Or.inl hi0) _)
        have d0 : decide (i < 0) = true := by simpa using hi0
        clear hi0
        go_wp2_with (go_at_call 49; refine HK.out.mono ?_; rintro e w2 ⟨rfl, hB⟩; have HB := Lib.hid hB; obtain ⟨c0, c1, c2, c3, y0, y1, y2, y3⟩ := (HR.out.res.below hB).facts; clear hB)
        refine bodyPost_ret (v := .tuple #[.agg #[.int .i64 0, .int .i64 0, .string ⟨#[]⟩, .slice none 0 0], .int .i64 3]) (by simp [results, Tryd.results31, go_sem, c0, c1, c2, c3]) rfl ?_
        rw [HE.out]
        exact ⟨rfl, below_lay4 (upB HR.out.below HB.out (Nat.le_refl _)) (by omega) _ _ _ _⟩
      · obtain ⟨j, rfl⟩ := Int.eq_ofNat_of_zero_le (Int.not_lt.1 hi0)
        have d0 : decide ((j : Int) < 0) = false := by simp
        clear hi0
        by_cases hj : j < xs.length
        · have hj' : decide ((xs.length : Int) ≤ (j : Int)) = false := by simpa using hj
          have HN := Lib.hid (show atF t.form ps = atF xs[j].form (ps.drop (k + 1)) by rw [HA.out, HD.out]; exact atF_cons HXS.out j hj _)
          go_wp2_with (go_at_call 49; refine HK.out.mono ?_; rintro e w2 ⟨rfl, hB⟩; have HB := Lib.hid hB; obtain ⟨b0, b1, b2, b3, z0, z1, z2, z3⟩ := (HR.out.box.below hB).facts; obtain ⟨⟨kb, ko, rfl, k0, k1, k2, k3⟩, hkin⟩ := (HI.out.below (upB HR.out.below hB (Nat.le_refl _))).at j hj; clear hB hkin)
          go_roundg (ps.length - (k + 1))
          case measure => omega
          case rel => exact ⟨k + 1, xs[j], by omega, rfl, by go_num, HN.out, (HI.out.at j hj).2, (HR.out.box.below HB.out).set _ _ _ _, (HR.out.res.below HB.out).other (by omega) _ _ _ _, below_lay4 (upB HR.out.below HB.out (Nat.le_refl _)) (Nat.le_refl _) _ _ _ _⟩
        · have HE := Lib.hid (show atF t.form ps = none by rw [HA.out, HD.out]; exact atF_out HXS.out _ (Or.inr (by omega)) _)
          have hj' : decide ((xs.length : Int) ≤ (j : Int)) = true := by simp; omega
          go_wp2_with (go_at_call 49; refine HK.out.mono ?_; rintro e w2 ⟨rfl, hB⟩; have HB := Lib.hid hB; obtain ⟨c0, c1, c2, c3, y0, y1, y2, y3⟩ := (HR.out.res.below hB).facts; clear hB)
          refine bodyPost_ret (v := .tuple #[.agg #[.int .i64 0, .int .i64 0, .string ⟨#[]⟩, .slice none 0 0], .int .i64 3]) (by simp [results, Tryd.results31, go_sem, c0, c1, c2, c3]) rfl ?_
          rw [HE.out]
          exact ⟨rfl, below_lay4 (upB HR.out.below HB.out (Nat.le_refl _)) (by omega) _ _ _ _⟩
    · have HE := Lib.hid (show atF t.form ps = some x.form by rw [HA.out, List.drop_eq_nil_of_le (by omega)]; exact atF_nil _)
      go_wp2_with fail
      refine bodyPost_ret (v := .tuple #[x.val, .int .i64 0]) (by simp [results, Tryd.results31, go_sem, c0, c1, c2, c3]) rfl ?_
      rw [HE.out]
      exact ⟨x, rfl, rfl, HX.out.below (below_lay4 HR.out.below (by omega) _ _ _ _), below_lay4 HR.out.below (by omega) _ _ _ _⟩
end Go.Proofs.YtkcckhchlhmhhaaDoor
