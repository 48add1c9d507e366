/- ReaderOrder: the walk. -/
import Derived.Test.YtcohhenlkkdmeaaDoorSane2
import Derived.Test.YtcohhenlkkdmeaaDoorRcmp
import Derived.Test.YtcohhenlkkdmeaaDoorOrder
namespace Go.Proofs.YtcohhenlkkdmeaaDoor
open Go.RowKit Go.Deep

/-- Three boxed forms. -/
def Box12 (w : World) (N : Nat) (a b c : T) : Prop := Box4 w N a ∧ Box4 w (N + 1) b ∧ Box4 w (N + 2) c
theorem Box12.cells {w : World} {N : Nat} {a b c : T} (h : Box12 w N a b c) :
    (w.cell? ⟨N, 0, none⟩ = some (.int .i64 a.kd) ∧ w.cell? ⟨N, 1, none⟩ = some (.int .i64 a.nn) ∧ w.cell? ⟨N, 2, none⟩ = some (.string a.tx) ∧ w.cell? ⟨N, 3, none⟩ = some (.slice a.ad a.ks.length a.cp)) ∧
    (w.cell? ⟨N + 1, 0, none⟩ = some (.int .i64 b.kd) ∧ w.cell? ⟨N + 1, 1, none⟩ = some (.int .i64 b.nn) ∧ w.cell? ⟨N + 1, 2, none⟩ = some (.string b.tx) ∧ w.cell? ⟨N + 1, 3, none⟩ = some (.slice b.ad b.ks.length b.cp)) ∧
    (w.cell? ⟨N + 2, 0, none⟩ = some (.int .i64 c.kd) ∧ w.cell? ⟨N + 2, 1, none⟩ = some (.int .i64 c.nn) ∧ w.cell? ⟨N + 2, 2, none⟩ = some (.string c.tx) ∧ w.cell? ⟨N + 2, 3, none⟩ = some (.slice c.ad c.ks.length c.cp)) :=
  ⟨h.1.cells, h.2.1.cells, h.2.2.cells⟩
theorem Box12.below {w w' : World} {N : Nat} {a b c : T} (h : Box12 w N a b c) (hb : Below w.heap.size w w') : Box12 w' N a b c :=
  ⟨(hb.block _ (lt_of_block h.1)).trans h.1, (hb.block _ (lt_of_block h.2.1)).trans h.2.1, (hb.block _ (lt_of_block h.2.2)).trans h.2.2⟩
theorem Box12.start (w : World) (a b c : T) : Box12 (((w.alloc (.cells a.val.cells 27)).alloc (.cells b.val.cells 27)).alloc (.cells c.val.cells 27)) w.heap.size a b c := by
  have h0 := heap_alloc_new w (.cells a.val.cells 27)
  have h1 := heap_new2 w (.cells a.val.cells 27) (.cells b.val.cells 27)
  have h2 := heap_new3 w (.cells a.val.cells 27) (.cells b.val.cells 27) (.cells c.val.cells 27)
  refine ⟨?_, ?_, h2⟩
  · exact (Below.heap_alloc _ _ _ (by simp; omega)).trans ((Below.heap_alloc _ _ _ (by simp)).trans h0)
  · exact (Below.heap_alloc _ _ _ (by simp)).trans h1
/-- Where the walk stands: the boxes are there, nothing old has turned. -/
structure At3 (w w' : World) (a b c : T) : Prop where
  box : Box12 w' w.heap.size a b c
  below : Below w.heap.size w w'
theorem At3.next {w w' w'' : World} {a b c : T} (h : At3 w w' a b c) (hb : Below w'.heap.size w' w'') : At3 w w'' a b c := ⟨h.box.below hb, upB h.below hb (Nat.le_refl _)⟩
theorem At3.drew {w w' : World} {a b c : T} (h : At3 w w' a b c) : At3 w w'.drew a b c := h.next (Below.refl _ _).drew
theorem At3.start (w : World) (a b c : T) : At3 w (((w.alloc (.cells #[.int .i64 a.kd, .int .i64 a.nn, .string a.tx, .slice a.ad a.ks.length a.cp] 27)).alloc (.cells #[.int .i64 b.kd, .int .i64 b.nn, .string b.tx, .slice b.ad b.ks.length b.cp] 27)).alloc (.cells #[.int .i64 c.kd, .int .i64 c.nn, .string c.tx, .slice c.ad c.ks.length c.cp] 27)) a b c :=
  ⟨Box12.start w a b c, up (bel2 _ _ _) (bel1 _ _)⟩

set_option maxHeartbeats 4000000 in
set_option maxRecDepth 100000 in
theorem order_any (a b c : T) (w : World) (ha : In w a) (hb : In w b) (hc : In w c) (hg : Glob w) (h6 : 6 ≤ w.heap.size) :
    Calls Tryd.prog 5 #[a.val, b.val, c.val] w fun e w' => e = .returned (.bool true) ∧ Below w.heap.size w w' := by
  have C1 := Lib.hid fun W (k : At3 w W a b c) => compare_T a b W (ha.below k.below) (hb.below k.below)
  have C2 := Lib.hid fun W (k : At3 w W a b c) => compare_T b c W (hb.below k.below) (hc.below k.below)
  have C3 := Lib.hid fun W (k : At3 w W a b c) => compare_T b a W (hb.below k.below) (ha.below k.below)
  have C4 := Lib.hid fun W (k : At3 w W a b c) => compare_T a c W (ha.below k.below) (hc.below k.below)
  have C5 := Lib.hid fun W (k : At3 w W a b c) => rcompare_T a b W (ha.below k.below) (hb.below k.below)
  have C6 := Lib.hid fun W (k : At3 w W a b c) => equal_T a b W (ha.below k.below) (hb.below k.below)
  have C7 := Lib.hid fun W (k : At3 w W a b c) => sane_any W (hg.below k.below h6) (Nat.le_trans h6 k.below.size)
  have r1 := cmpF_rng a.form b.form
  have r3 := cmpF_rng b.form a.form
  have an := cmpF_anti a.form b.form
  have tr : cmpF a.form b.form ≤ 0 → cmpF b.form c.form ≤ 0 → ¬ 0 < cmpF a.form c.form := fun h1 h2 => cmpF_le h1 h2
  generalize cmpF a.form b.form = n at *
  generalize cmpF b.form c.form = m at *
  generalize cmpF b.form a.form = k at *
  generalize cmpF a.form c.form = l at *
  unfold Rng at r1 r3
  have k1 : -1 ≤ k := by omega
  have k2 : k ≤ 1 := by omega
  have g1 : (n != -k) = false := by rw [an]; simp
  have K0 := Lib.hid (At3.start w a b c)
  have TR := Lib.hid tr
  clear ha hb hc hg r1 r3 an tr
  go_enter Tryd.func5, Tryd.ntmps5
  go_wp2_with fail
  go_region_held3 (fun w' => w'.cell? ⟨w.heap.size, 0, none⟩ = some (.int .i64 a.kd) ∧ w'.cell? ⟨w.heap.size, 1, none⟩ = some (.int .i64 a.nn) ∧ w'.cell? ⟨w.heap.size, 2, none⟩ = some (.string a.tx) ∧ w'.cell? ⟨w.heap.size, 3, none⟩ = some (.slice a.ad a.ks.length a.cp) ∧
      w'.cell? ⟨w.heap.size + 1, 0, none⟩ = some (.int .i64 b.kd) ∧ w'.cell? ⟨w.heap.size + 1, 1, none⟩ = some (.int .i64 b.nn) ∧ w'.cell? ⟨w.heap.size + 1, 2, none⟩ = some (.string b.tx) ∧ w'.cell? ⟨w.heap.size + 1, 3, none⟩ = some (.slice b.ad b.ks.length b.cp) ∧
      w'.cell? ⟨w.heap.size + 1 + 1, 0, none⟩ = some (.int .i64 c.kd) ∧ w'.cell? ⟨w.heap.size + 1 + 1, 1, none⟩ = some (.int .i64 c.nn) ∧ w'.cell? ⟨w.heap.size + 1 + 1, 2, none⟩ = some (.string c.tx) ∧ w'.cell? ⟨w.heap.size + 1 + 1, 3, none⟩ = some (.slice c.ad c.ks.length c.cp))
    (first
      | (obtain ⟨⟨x0, x1, x2, x3⟩, ⟨y0, y1, y2, y3⟩, ⟨z0, z1, z2, z3⟩⟩ := K0.out.drew.box.cells; exact ⟨x0, x1, x2, x3, y0, y1, y2, y3, z0, z1, z2, z3⟩)
      | (obtain ⟨⟨x0, x1, x2, x3⟩, ⟨y0, y1, y2, y3⟩, ⟨z0, z1, z2, z3⟩⟩ := KK.out.box.cells; exact ⟨x0, x1, x2, x3, y0, y1, y2, y3, z0, z1, z2, z3⟩))
    (first
      | (go_at_call 27; with_reducible refine (C1.out _ K0.out.drew).mono ?_; rintro e w1 ⟨rfl, hB⟩; have KK := Lib.hid (K0.out.drew.next hB); clear hB)
      | (go_at_call 27; with_reducible refine (C2.out _ KK.out).mono ?_; rintro e w2 ⟨rfl, hB⟩; have KK := Lib.hid (KK.out.next hB); clear hB))
  by_cases hn : n ≤ 0
  · by_cases hm : m ≤ 0
    · have hl : ¬ 0 < l := by have := TR.out hn hm; omega
      go_wp2_with (first
        | (go_at_call 27; with_reducible refine (C3.out _ KK.out).mono ?_; rintro e w' ⟨rfl, hB⟩; have KK := Lib.hid (KK.out.next hB); obtain ⟨⟨x0, x1, x2, x3⟩, ⟨y0, y1, y2, y3⟩, ⟨z0, z1, z2, z3⟩⟩ := KK.out.box.cells; clear hB)
        | (go_at_call 27; with_reducible refine (C4.out _ KK.out).mono ?_; rintro e w' ⟨rfl, hB⟩; have KK := Lib.hid (KK.out.next hB); obtain ⟨⟨x0, x1, x2, x3⟩, ⟨y0, y1, y2, y3⟩, ⟨z0, z1, z2, z3⟩⟩ := KK.out.box.cells; clear hB)
        | (go_at_call 28; with_reducible refine (C5.out _ KK.out).mono ?_; rintro e w' ⟨rfl, hB⟩; have KK := Lib.hid (KK.out.next hB); obtain ⟨⟨x0, x1, x2, x3⟩, ⟨y0, y1, y2, y3⟩, ⟨z0, z1, z2, z3⟩⟩ := KK.out.box.cells; clear hB)
        | (go_at_call 29; with_reducible refine (C6.out _ KK.out).mono ?_; rintro e w' ⟨rfl, hB⟩; have KK := Lib.hid (KK.out.next hB); obtain ⟨⟨x0, x1, x2, x3⟩, ⟨y0, y1, y2, y3⟩, ⟨z0, z1, z2, z3⟩⟩ := KK.out.box.cells; clear hB)
        | (go_at_call 14; with_reducible refine (C7.out _ KK.out).mono ?_; rintro e w' ⟨rfl, hB⟩; have KS := Lib.hid (upB KK.out.below hB (Nat.le_refl _)); clear hB))
      go_ret
      exact ⟨rfl, KS.out⟩
    · go_wp2_with (first
        | (go_at_call 27; with_reducible refine (C3.out _ KK.out).mono ?_; rintro e w' ⟨rfl, hB⟩; have KK := Lib.hid (KK.out.next hB); obtain ⟨⟨x0, x1, x2, x3⟩, ⟨y0, y1, y2, y3⟩, ⟨z0, z1, z2, z3⟩⟩ := KK.out.box.cells; clear hB)
        | (go_at_call 27; with_reducible refine (C4.out _ KK.out).mono ?_; rintro e w' ⟨rfl, hB⟩; have KK := Lib.hid (KK.out.next hB); obtain ⟨⟨x0, x1, x2, x3⟩, ⟨y0, y1, y2, y3⟩, ⟨z0, z1, z2, z3⟩⟩ := KK.out.box.cells; clear hB)
        | (go_at_call 28; with_reducible refine (C5.out _ KK.out).mono ?_; rintro e w' ⟨rfl, hB⟩; have KK := Lib.hid (KK.out.next hB); obtain ⟨⟨x0, x1, x2, x3⟩, ⟨y0, y1, y2, y3⟩, ⟨z0, z1, z2, z3⟩⟩ := KK.out.box.cells; clear hB)
        | (go_at_call 29; with_reducible refine (C6.out _ KK.out).mono ?_; rintro e w' ⟨rfl, hB⟩; have KK := Lib.hid (KK.out.next hB); obtain ⟨⟨x0, x1, x2, x3⟩, ⟨y0, y1, y2, y3⟩, ⟨z0, z1, z2, z3⟩⟩ := KK.out.box.cells; clear hB)
        | (go_at_call 14; with_reducible refine (C7.out _ KK.out).mono ?_; rintro e w' ⟨rfl, hB⟩; have KS := Lib.hid (upB KK.out.below hB (Nat.le_refl _)); clear hB))
      go_ret
      exact ⟨rfl, KS.out⟩
  · go_wp2_with (first
      | (go_at_call 27; with_reducible refine (C3.out _ KK.out).mono ?_; rintro e w' ⟨rfl, hB⟩; have KK := Lib.hid (KK.out.next hB); obtain ⟨⟨x0, x1, x2, x3⟩, ⟨y0, y1, y2, y3⟩, ⟨z0, z1, z2, z3⟩⟩ := KK.out.box.cells; clear hB)
        | (go_at_call 27; with_reducible refine (C4.out _ KK.out).mono ?_; rintro e w' ⟨rfl, hB⟩; have KK := Lib.hid (KK.out.next hB); obtain ⟨⟨x0, x1, x2, x3⟩, ⟨y0, y1, y2, y3⟩, ⟨z0, z1, z2, z3⟩⟩ := KK.out.box.cells; clear hB)
        | (go_at_call 28; with_reducible refine (C5.out _ KK.out).mono ?_; rintro e w' ⟨rfl, hB⟩; have KK := Lib.hid (KK.out.next hB); obtain ⟨⟨x0, x1, x2, x3⟩, ⟨y0, y1, y2, y3⟩, ⟨z0, z1, z2, z3⟩⟩ := KK.out.box.cells; clear hB)
        | (go_at_call 29; with_reducible refine (C6.out _ KK.out).mono ?_; rintro e w' ⟨rfl, hB⟩; have KK := Lib.hid (KK.out.next hB); obtain ⟨⟨x0, x1, x2, x3⟩, ⟨y0, y1, y2, y3⟩, ⟨z0, z1, z2, z3⟩⟩ := KK.out.box.cells; clear hB)
        | (go_at_call 14; with_reducible refine (C7.out _ KK.out).mono ?_; rintro e w' ⟨rfl, hB⟩; have KS := Lib.hid (upB KK.out.below hB (Nat.le_refl _)); clear hB))
    go_ret
    exact ⟨rfl, KS.out⟩
end Go.Proofs.YtcohhenlkkdmeaaDoor
