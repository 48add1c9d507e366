/- The document's own copy of a form. -/
import Derived.Test.YtedabholcldgbaaGreatDoorOwn4
import Derived.Test.YtedabholcldgbaaGreatDoorBulk
import Derived.Test.YtedabholcldgbaaGreatDoorRef1
namespace Go.Proofs.YtedabholcldgbaaGreatDoor
open Go.RowKit Go.Deep

/-- How Own ends: a form with memory of its own. -/
def OwnEnd (w w' : World) (f : Fm) (e : Ending) : Prop :=
  ∃ u : T, e = .returned u.val ∧ u.form = f ∧ In w' u ∧ (∀ b, On u b → w.heap.size ≤ b) ∧ (∀ x ∈ u.ks, ∀ b, On x b → (Value.slice u.ad u.ks.length u.cp).ownBlock ≠ some b) ∧ w'.ownsRow w.heap.size 29 4 (.slice u.ad u.ks.length u.cp) u.ks.length (cellsT u.ks) ∧ Below w.heap.size w w'
/-- What the loop has copied so far. -/
structure OwnRel (w wr : World) (t : T) (v : Value) (us : List T) (k : Nat) : Prop where
  own : Own4 (w.heap.size + 2) ((w.alloc (boxO t)).alloc zeroO) wr v us
  len : us.length = k
  forms : us.map T.form = (t.ks.take k).map T.form
  ins : ∀ u ∈ us, In wr u
  fresh : ∀ u ∈ us, ∀ b, On u b → w.heap.size + 2 ≤ b
  clean : ∀ u ∈ us, ∀ b, On u b → v.ownBlock ≠ some b
theorem OwnRel.below {w wr : World} {t : T} {v : Value} {us : List T} {k : Nat} (h : OwnRel w wr t v us k) : Below w.heap.size w wr :=
  (bel2 w _ _).trans (h.own.below.mono (by omega))
theorem OwnRel.box {w wr : World} {t : T} {v : Value} {us : List T} {k : Nat} (h : OwnRel w wr t v us k) : Box4 wr w.heap.size t :=
  (h.own.below.block _ (by omega)).trans (((bel1 _ _).block _ (by simp)).trans (heap_alloc_new w _))
theorem OwnRel.zero {w wr : World} {t : T} {v : Value} {us : List T} {k : Nat} (h : OwnRel w wr t v us k) : Blk4 wr (w.heap.size + 1) (.int .i64 0) (.int .i64 0) (.string ⟨#[]⟩) (.slice none 0 0) :=
  (h.own.below.block _ (by omega)).trans (res_new w _ _)
/-- One more. -/
theorem OwnRel.push {w wr w2 w3 : World} {t : T} {v v' : Value} {us : List T} {k : Nat} (h : OwnRel w wr t v us k) (hk : k < t.ks.length) (hB : Below wr.heap.size wr w2) {u : T} (hu : u.form = t.ks[k].form) (hi : In w2 u) (hf : ∀ b, On u b → wr.heap.size ≤ b)
    (ho : Own4 (w.heap.size + 2) ((w.alloc (boxO t)).alloc zeroO) w3 v' (us ++ [u])) (hg : (w2.alloc (boxO u)).grownBy w3 v.ownBlock) (hv : v'.ownBlock = v.ownBlock ∨ ∀ g, v'.ownBlock = some g → w2.heap.size < g) : OwnRel w w3 t v' (us ++ [u]) (k + 1) := by
  have hlt : ∀ g, v.ownBlock = some g → g < wr.heap.size := fun g hg => (h.own.own.lt g hg).2
  have hsz := hB.size
  have all : ∀ x ∈ us ++ [u], In w2 x ∧ (∀ b, On x b → w.heap.size + 2 ≤ b) ∧ ∀ b, On x b → v.ownBlock ≠ some b := fun x hx => by
    rcases List.mem_append.1 hx with hx | hx
    · exact ⟨(h.ins x hx).below hB, h.fresh x hx, h.clean x hx⟩
    · simp only [List.mem_singleton] at hx
      subst hx
      refine ⟨hi, fun b hb => Nat.le_trans h.own.le (hf b hb), fun b hb e => ?_⟩
      have h1 := hlt b e
      have h2 := hf b hb
      omega
  refine ⟨ho, by simp [h.len], ?_, fun x hx => ?_, fun x hx => (all x hx).2.1, fun x hx b hb => ?_⟩
  · rw [List.take_succ_eq_append_getElem hk]; simp only [List.map_append, h.forms, List.map_cons, List.map_nil, hu]
  · refine ((all x hx).1.alloc (boxO u)).same _ (Nat.lt_succ_self _) fun b hb => hg.block b ?_ fun e => (all x hx).2.2 b hb e.symm
    have := (all x hx).1.lt hb
    simp; omega
  · rcases hv with hv | hv
    · rw [hv]; exact (all x hx).2.2 b hb
    · intro e
      have h1 := hv b e
      have h2 := (all x hx).1.lt hb
      omega
theorem bk_kid {t : T} {k : Nat} (h : k < t.ks.length) : bkF t.ks[k].form + 5 ≤ bkF t.form := by
  have h1 := bkF_eq t.form
  have h2 := bkL_mem (l := t.form.ks) (f := t.ks[k].form) (by rw [T.form_ks]; exact List.mem_map_of_mem (List.getElem_mem h))
  omega
theorem bk_len {t : T} : 5 * t.ks.length ≤ bkF t.form := by
  have h1 := bkF_eq t.form
  have h2 := bkL_len t.form.ks
  rw [T.form_ks, List.length_map] at h2
  rw [T.form_ks] at h1
  omega
theorem T.form_of (t : T) : t.form = .mk t.kd t.nn t.tx (t.ks.map T.form) := by cases t; simp [T.form, T.forms_map, T.kd, T.nn, T.tx, T.ks]
theorem own_done {w wr : World} {t : T} {va : Option Addr} {vc k : Nat} {us : List T} (h : OwnRel w wr t (.slice va us.length vc) us k) (hin : In w t) (hl : In wr (T.list va vc us)) (hk : t.ks.length ≤ k) (v v0 v1 v2 v3 : Value) :
    OwnEnd w (lay4 (wr.setCell ⟨w.heap.size, 3, none⟩ v) (w.heap.size + 1) v0 v1 v2 v3) t.form (.returned (.agg #[.int .i64 t.kd, .int .i64 t.nn, .string t.tx, .slice va us.length vc])) := by
  have hs : ∀ b, w.heap.size + 2 ≤ b → (lay4 (wr.setCell ⟨w.heap.size, 3, none⟩ v) (w.heap.size + 1) v0 v1 v2 v3).heap[b]? = wr.heap[b]? := fun b hb => by
    have h1 : b ≠ w.heap.size + 1 := by omega
    have h2 : b ≠ w.heap.size := by omega
    rw [Below.heap_setCell _ _ _ _ h1, Below.heap_setCell _ _ _ _ h1, Below.heap_setCell _ _ _ _ h1, Below.heap_setCell _ _ _ _ h1, Below.heap_setCell _ _ _ _ h2]
  have hon : ∀ b, On (T.mk t.kd t.nn t.tx va vc us) b → w.heap.size + 2 ≤ b := fun b hb => by
    cases hb with
    | here h' _ =>
      have h' : va = _ := h'
      exact (h.own.own.lt b (by rw [h']; rfl)).1
    | kid hx hb => exact h.fresh _ hx b hb
  refine ⟨T.mk t.kd t.nn t.tx va vc us, by simp [T.val, T.kd, T.nn, T.tx, T.ad, T.cp, T.ks], ?_, ?_, fun b hb => by have := hon b hb; omega, fun x hx b hb => h.clean x hx b hb, ?_, ?_⟩
  · rw [T.form_of t]
    simp only [T.form, T.forms_map]
    rw [h.forms, List.take_of_length_le hk]
  · have hi : In wr (T.mk t.kd t.nn t.tx va vc us) := In.mk ⟨hin.ok.kd, hin.ok.nn, hin.ok.tx, hl.ok.le, hl.ok.cp⟩ hl.inL
    exact hi.same _ (Nat.lt_succ_self _) fun b hb => hs b (hon b hb)
  · exact Joins.ownsRow_le (own_same h.own.own fun g hg => hs g (h.own.own.lt g hg).1) (by omega)
  · exact below_lay4 (h.below.setCell (p := ⟨w.heap.size, 3, none⟩) (Nat.le_refl _) _) (by omega) _ _ _ _
set_option maxHeartbeats 4000000 in
set_option maxRecDepth 100000 in
theorem own_any (n : Nat) : ∀ t : T, SizeOf.sizeOf t < n → ∀ w, In w t → bkF t.form ≤ 2000000 →
    Calls Tryz.prog 40 #[t.val] w fun e w' => OwnEnd w w' t.form e := by
  induction n with
  | zero => intro t h; omega
  | succ n ih =>
    intro t hn w hin hbk
    have hlen := bk_len (t := t)
    have hl9 : t.ks.length ≤ 400000 := by omega
    obtain ⟨a, ha⟩ : ∃ a, t.ad = a := ⟨_, rfl⟩
    have HK : Hid (∀ W, Below w.heap.size w W → InL W a 0 t.ks) := Lib.hid fun W h => by rw [← ha]; exact (hin.below h).inL
    have HAD := Lib.hid ha
    have HIN := Lib.hid hin
    have HR : Hid (∀ k (h : k < t.ks.length) W, In W t.ks[k] → Calls Tryz.prog 40 #[t.ks[k].val] W fun e w' => OwnEnd W w' t.ks[k].form e) := Lib.hid fun k h W hi => ih t.ks[k] (by have := T.kid_lt (List.getElem_mem h); omega) W hi (by have := bk_kid h; omega)
    have K0 : Hid (OwnRel w ((w.alloc (boxO t)).alloc zeroO) t (.slice none 0 0) [] 0) := Lib.hid ⟨Own4.start (by simp), rfl, rfl, (fun u h => by cases h), (fun u h => by cases h), (fun u h => by cases h)⟩
    clear ha ih hin hbk hlen
    go_enter Tryz.func40, Tryz.ntmps40
    go_wp2_with fail
    go_loopg [3, 4] (t.ks.length) (fun m v i wr => ∃ (k : Nat) (us : List T), k ≤ t.ks.length ∧ m = t.ks.length - k ∧ i = .int .i64 k ∧ OwnRel w wr t v us k)
    case atStart => exact ⟨0, [], by omega, by omega, rfl, K0.out⟩
    case round =>
      obtain ⟨k, us, hk, rfl, rfl, ho⟩ := hrel
      obtain ⟨c0, c1, c2, c3⟩ := box_cells ho.box HAD.out
      have HO := Lib.hid ho
      have hul := ho.len
      by_cases hlt : k < t.ks.length
      · obtain ⟨⟨b, o, rfl, x0, x1, x2, x3⟩, hink⟩ := (HK.out _ ho.below).at k hlt
        have lb : b < wr.heap.size := World.block_lt_of_cell? _ _ x0
        have HC := Lib.hid (HR.out k hlt wr hink)
        have hu9 : us.length ≤ 1000000 := by omega
        clear ho hink hul
        go_wp2_with (first
          | (go_at_call 40; refine HC.out.mono ?_; rintro e w2 ⟨u, rfl, hu, hi, hf, _, _, hB⟩; have HU := Lib.hid hu; have HI := Lib.hid hi; have HF := Lib.hid hf; have HB := Lib.hid hB; clear hu hi hf hB)
          | (at_builtin; refine own4_push rfl _ _ 22 rfl Tryz.underlying22 rfl (HO.out.own.next HB.out) u 1 _ rfl rfl (by omega) ?_; intro v3 w3 ho3 hg3 hv3; have HN := Lib.hid (HO.out.push hlt HB.out HU.out HI.out HF.out ho3 hg3 hv3); clear ho3 hg3 hv3))
        go_roundg (t.ks.length - (k + 1))
        case measure => omega
        case rel => exact ⟨k + 1, us ++ [u], by omega, rfl, by go_num, HN.out⟩
      · have hkl : k = t.ks.length := by omega
        obtain ⟨va, vc, rfl, hl⟩ := own4_slice ho.own ho.ins (by omega)
        obtain ⟨d0, d1, d2, d3, f0, f1, f2, f3⟩ := Blk4.facts ho.box
        rw [HAD.out] at d3
        obtain ⟨z0, z1, z2, z3, y0, y1, y2, y3⟩ := ho.zero.facts
        have HL := Lib.hid hl
        have HUL := Lib.hid hul
        have hsz := ho.own.le
        clear ho hl hkl hul
        go_wp2_with fail
        refine bodyPost_ret (v := .agg #[.int .i64 t.kd, .int .i64 t.nn, .string t.tx, .slice va us.length vc]) (by simp [results, Tryz.results40, go_sem, z0, z1, z2, z3]) rfl ?_
        exact own_done HO.out HIN.out HL.out (by have := HUL.out; omega) _ _ _ _ _
theorem own_T (t : T) (w : World) (hin : In w t) (hb : bkF t.form ≤ 2000000) : Calls Tryz.prog 40 #[t.val] w fun e w' => OwnEnd w w' t.form e := own_any _ t (Nat.lt_succ_self _) w hin hb
end Go.Proofs.YtedabholcldgbaaGreatDoor
