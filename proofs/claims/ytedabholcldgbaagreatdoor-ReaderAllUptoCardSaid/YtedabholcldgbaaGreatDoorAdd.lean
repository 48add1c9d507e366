/- The scanner's add: the walk. -/
import Derived.Test.YtedabholcldgbaaGreatDoorAddLem
namespace Go.Proofs.YtedabholcldgbaaGreatDoor
open Go.RowKit Go.Deep

attribute [local go_sem ↓] Go.wp_at_zero Go.wp_at_succ
set_option maxHeartbeats 8000000 in
set_option maxRecDepth 100000 in
theorem add_any (base : Nat) (w : World) (R : Nat) (s : ByteArray) (pos : Nat) (ov : Value) (L : List Lv) (v : Value) (ts : List T) (tight : Bool) (t : T)
    (h : Scan base w R s pos ov (L ++ [(v, ts)]) tight) (ht : In w t) (hoff : ∀ b, On t b → b ∉ live R ov (L ++ [(v, ts)])) (hbt : ∀ b, On t b → base ≤ b) (hlen : ts.length + L.length ≤ 1000000) :
    Calls Tryz.prog 144 #[.pointer (some ⟨R, 0, none⟩), t.val] w fun e w' => e = .returned (.tuple #[]) ∧ Added base w w' R s pos ov L (ts ++ [t]) tight := by
  obtain ⟨i0, hi0, hz0, hz1, hz2⟩ := info_parts info27
  obtain ⟨g, cap, rfl, hg1, hg2⟩ := h.rows.form (by simp)
  have hlenL : (L ++ [(v, ts)]).length = L.length + 1 := by simp
  rw [hlenL] at h hoff ⊢
  have hmem : (v, ts) ∈ L ++ [(v, ts)] := by simp
  have hv0 := (h.lvl _ hmem).1
  obtain ⟨va, vc, rfl⟩ : ∃ va vc, v = .slice va ts.length vc := by
    rcases hv0.2 with ⟨e, e'⟩ | ⟨g', c', cur, e, _⟩
    · have e1 : v = .slice none 0 0 := e
      have e2 : ts.length = 0 := e'
      exact ⟨none, 0, by rw [e1, e2]⟩
    · exact ⟨_, _, e⟩
  have hRlt := lt_of_block h.blk
  have hw := h.hw
  have b2 : w.cell? ⟨R, 2, none⟩ = some (.slice (some ⟨g, 0, none⟩) (L.length + 1) cap) := by simp [World.cell?, h.blk]
  have hrows := h.rows
  rw [hlenL] at hrows
  have c1 : w.cell? ⟨g, L.length, none⟩ = some (.slice va ts.length vc) := by
    have := hrows.cellAt L.length (by omega)
    rw [this]; simp
  have hf1 : w.frozen? ⟨g, L.length, none⟩ = false := hrows.frozenAt L.length
  have hnd := h.nodup
  have hgR : g ≠ R := by
    intro e; subst e
    simp [live, Value.ownBlock] at hnd
  have hgv : (Value.slice va ts.length vc).ownBlock ≠ some g := by
    intro e
    simp only [live, List.nodup_cons, List.flatMap_append, List.flatMap_cons, List.flatMap_nil] at hnd
    have h2 := hnd.2
    rw [e] at h2
    simp [Value.ownBlock] at h2
  have hRv : (Value.slice va ts.length vc).ownBlock ≠ some R := by
    intro e
    simp only [live, List.nodup_cons, List.flatMap_append, List.flatMap_cons, List.flatMap_nil] at hnd
    have h2 := hnd.1
    rw [e] at h2
    simp at h2
  have hNv : (Value.slice va ts.length vc).ownBlock ≠ some w.heap.size := fun e => absurd (hv0.lt _ e).2 (by omega)
  have H := Lib.hid h
  have HV := Lib.hid hv0
  have HT := Lib.hid ht
  have HO := Lib.hid hoff
  have HBT := Lib.hid hbt
  clear hbt
  have KS : Hid (∀ W, Below w.heap.size w W → W.cell? ⟨R, 2, none⟩ = some (.slice (some ⟨g, 0, none⟩) (L.length + 1) cap) ∧ W.cell? ⟨g, L.length, none⟩ = some (.slice va ts.length vc) ∧ W.frozen? ⟨g, L.length, none⟩ = false) :=
    Lib.hid fun W hB => ⟨(hB.cell (p := ⟨R, 2, none⟩) hRlt).trans b2, (hB.cell (p := ⟨g, L.length, none⟩) hg2).trans c1, (hB.frozen (p := ⟨g, L.length, none⟩) hg2).trans hf1⟩
  have KG : Hid (∀ (W w1 : World), W.grownBy w1 (Value.slice va ts.length vc).ownBlock → Below w.heap.size w W → w1.cell? ⟨R, 2, none⟩ = some (.slice (some ⟨g, 0, none⟩) (L.length + 1) cap) ∧ w1.cell? ⟨g, L.length, none⟩ = some (.slice va ts.length vc) ∧ w1.frozen? ⟨g, L.length, none⟩ = false) :=
    Lib.hid fun W w1 hg hB => ⟨(hg.cell_far ⟨R, 2, none⟩ (Nat.lt_of_lt_of_le hRlt hB.size) (Ne.symm hRv)).trans (KS.out W hB).1, (hg.cell_far ⟨g, L.length, none⟩ (Nat.lt_of_lt_of_le hg2 hB.size) (Ne.symm hgv)).trans (KS.out W hB).2.1, (hg.frozen_far ⟨g, L.length, none⟩ (Nat.lt_of_lt_of_le hg2 hB.size) (Ne.symm hgv)).trans (KS.out W hB).2.2⟩
  have KH : Hid (∀ (W w1 : World) (i : Nat), W.grownBy w1 (Value.slice va ts.length vc).ownBlock → w.heap.size < W.heap.size → w1.cell? ⟨w.heap.size, i, none⟩ = W.cell? ⟨w.heap.size, i, none⟩) :=
    Lib.hid fun W w1 i hg hB => hg.cell_far ⟨w.heap.size, i, none⟩ hB (Ne.symm hNv)
  have w3g : ∀ o1 o2 o3, (((w.alloc o1).alloc o2).alloc o3).cell? ⟨g, L.length, none⟩ = some (.slice va ts.length vc) := fun o1 o2 o3 => (KS.out _ (by go_grown)).2.1
  have w3R : ∀ o1 o2 o3, (((w.alloc o1).alloc o2).alloc o3).cell? ⟨R, 2, none⟩ = some (.slice (some ⟨g, 0, none⟩) (L.length + 1) cap) := fun o1 o2 o3 => (KS.out _ (by go_grown)).1
  have r0 : ¬ R = w.heap.size := by omega
  have r1 : ¬ R = w.heap.size + 1 := by omega
  have r2 : ¬ R = w.heap.size + 2 := by omega
  have q0 : ¬ g = w.heap.size := by omega
  have q1 : ¬ g = w.heap.size + 1 := by omega
  have q2 : ¬ g = w.heap.size + 2 := by omega
  have hL0 : (0 : Int) ≤ (L.length : Int) := by omega
  have hL1 : (L.length : Int) < (L.length : Int) + 1 := by omega
  have HL := Lib.hid hlen
  have hn1 : ts.length ≤ 1000000 := by omega
  have hn2 : L.length ≤ 1000000 := by omega
  clear hlen
  clear h hrows hv0 hnd ht hoff hlenL hmem hgv hRv hNv
  go_enter Tryz.func144, Tryz.ntmps144
  go_wp2_with fail
  go_region
  all_goals go_wp2_with fail
  · go_region_law
      ((refine step_append_lies _ (by rfl) _ _ _ (by rfl) base 29 i0 _ 4 56 Tryz.underlying22 hi0 hz0 hz1 hz2 rfl (by omega) (.slice va ts.length vc) ts.length (cellsT ts) (by rfl) ((((HV.out.alloc _).alloc _).alloc _))
            ⟨w.heap.size + 2, 0, none⟩ 1 1 [.int .i64 t.kd, .int .i64 t.nn, .string t.tx, .slice t.ad t.ks.length t.cp] (by rfl) (by rfl) (World.news_of_block (cs := #[.int .i64 t.kd, .int .i64 t.nn, .string t.tx, .slice t.ad t.ks.length t.cp]) (t := 29) (fr := (0, 0)) (heap_new3 _ _ _ _)) (by simp [Value.oneCell'])
            (by omega) (by unfold maxLen; omega) (by omega) (by simp; omega) (w.heap.size + 3) (by simp) ?_; intro gg cap1 w1 hown1 hgrow hat hlt; obtain ⟨_, k1, k2⟩ := KG.out _ _ hgrow (by go_grown)))
    all_goals
      go_wp2_with fail
      go_end0
      exact ⟨rfl, Grew.one ⟨H.out, (by go_grown), hgrow, hat.imp id (fun e => by omega)⟩ HT.out HO.out HBT.out (by rw [cellsT_append]; exact hown1)⟩
  · go_region_law
      ((refine step_append_lies _ (by rfl) _ _ _ (by rfl) base 29 i0 _ 4 56 Tryz.underlying22 hi0 hz0 hz1 hz2 rfl (by omega) (.slice va ts.length vc) ts.length (cellsT ts) (by rfl) ((((HV.out.alloc _).alloc _).alloc _))
            ⟨w.heap.size + 2, 0, none⟩ 1 1 [.int .i64 0, .int .i64 0, .string ⟨#[]⟩, .slice none 0 0] (by rfl) (by rfl) (World.news_of_block (cs := #[.int .i64 0, .int .i64 0, .string ⟨#[]⟩, .slice none 0 0]) (t := 29) (fr := (0, 0)) (heap_new3 _ _ _ _)) (by simp [Value.oneCell'])
            (by omega) (by unfold maxLen; omega) (by omega) (by simp; omega) (w.heap.size + 3) (by simp) ?_; intro gg cap1 w1 hown1 hgrow hat hlt; obtain ⟨_, k1, k2⟩ := KG.out _ _ hgrow (by go_grown); have KK := Lib.hid (show Grew base w _ w1 R s pos g cap L (.slice va ts.length vc) ts tight gg cap1 from ⟨H.out, (by go_grown), hgrow, hat.imp id (fun e => by omega)⟩); have k3 := KK.out.ne.2.2; have k4 := Ne.symm k3; have HOW := Lib.hid hown1; obtain ⟨z0, z1, z2, z3, f0, f1, f2, f3⟩ := tail4 (cellsT_length ts) hown1; clear hown1 hgrow hat hlt))
    all_goals
      go_wp2_with fail
      go_end0
      exact ⟨rfl, Grew.two KK.out HT.out HO.out HBT.out HOW.out⟩
end Go.Proofs.YtedabholcldgbaaGreatDoor
