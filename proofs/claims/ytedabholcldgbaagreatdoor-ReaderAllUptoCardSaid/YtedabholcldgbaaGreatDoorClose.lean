/- The scanner's addText and closeList. -/
import Derived.Test.YtedabholcldgbaaGreatDoorReadTok
namespace Go.Proofs.YtedabholcldgbaaGreatDoor
open Go.RowKit Go.Deep

def TextEnd (base : Nat) (w w' : World) (R : Nat) (s : ByteArray) (pos : Nat) (ov : Value) (L : List Lv) (ts : List T) (d : ByteArray) (e : Ending) : Prop :=
  if 2000 < d.size then e = .returned (.int .i64 4) ∧ Below base w w'
  else e = .returned (.int .i64 0) ∧ Added base w w' R s (pos + 1) ov L (ts ++ [T.leaf 2 0 d]) true
set_option maxHeartbeats 1000000 in
set_option maxRecDepth 100000 in
theorem addText_any (base : Nat) (w : World) (R : Nat) (s : ByteArray) (pos : Nat) (ov : Value) (L : List Lv) (v : Value) (ts : List T) (tight : Bool) (d : ByteArray)
    (h : Scan base w R s pos ov (L ++ [(v, ts)]) tight) (hpos : pos < s.size) (hs : s.size ≤ 60000) (hlen : ts.length + L.length ≤ 1000000) :
    Calls Tryz.prog 145 #[.pointer (some ⟨R, 0, none⟩), .string d] w fun e w' => TextEnd base w w' R s pos ov L ts d e := by
  have hbR := h.hR
  have hbw := h.hw
  unfold TextEnd
  by_cases hd : 2000 < d.size
  · simp only [if_pos hd]
    have hd' : (2000 : Int) < (d.size : Int) := by omega
    clear h hd
    go_enter Tryz.func145, Tryz.ntmps145
    go_wp2_with fail
    go_ret
    exact ⟨rfl, Below.refl _ _⟩
  · simp only [if_neg hd]
    have hd' : ¬ (2000 : Int) < (d.size : Int) := by omega
    have HA : Hid (Calls Tryz.prog 144 #[.pointer (some ⟨R, 0, none⟩), .agg #[.int .i64 2, .int .i64 0, .string d, .slice none 0 0]] w
        fun e w' => e = .returned (.tuple #[]) ∧ Added base w w' R s pos ov L (ts ++ [T.leaf 2 0 d]) tight) :=
      Lib.hid (add_any base w R s pos ov L v ts tight (T.leaf 2 0 d) h (leaf_in w 2 0 d (by unfold I64; omega) (by unfold I64; omega) (by unfold maxLen; omega)) (fun b hb => absurd hb (leaf_on 2 0 d b)) (fun b hb => absurd hb (leaf_on 2 0 d b)) hlen)
    clear h hd
    go_enter Tryz.func145, Tryz.ntmps145
    go_wp2_with (go_at_call 144; refine HA.out.mono ?_; rintro e w4 ⟨rfl, hB4, v', hS4⟩; obtain ⟨c0, c1, c2, c3, f1, f2, f3⟩ := hS4.cells; have HS4 := Lib.hid hS4; have HB4 := Lib.hid hB4; clear hS4 hB4)
    go_ret
    exact ⟨rfl, below_setR (below_setR HB4.out hbR _) hbR _, v', (HS4.out.setPos (pos + 1)).setTight true⟩

/-! ### A list closes -/
theorem kids_in {base : Nat} {w : World} {va : Option Addr} {vc : Nat} {ts : List T} (h : w.ownsRow base 29 4 (.slice va ts.length vc) ts.length (cellsT ts)) (hin : ∀ t ∈ ts, In w t) (hlen : ts.length ≤ 1000000) : In w (T.mk 3 0 ⟨#[]⟩ va vc ts) := by
  have hcap : ts.length ≤ vc ∧ vc ≤ maxLen := by
    rcases h.2 with ⟨e, e'⟩ | ⟨g, c, cur, e, _, _, h1, h2, _⟩
    · injection e with _ _ e3
      rw [e3, e']; exact ⟨Nat.le_refl _, by unfold maxLen; omega⟩
    · injection e with _ _ e3
      rw [e3]; exact ⟨h1, h2⟩
  refine In.mk ⟨by unfold I64; simp [T.kd], by unfold I64; simp [T.nn], Nat.zero_le _, hcap.1, hcap.2⟩ (InL_mk fun j hj => ?_)
  have hj' : j < ts.length := hj
  obtain ⟨g, c, e, _, _⟩ := h.form (by omega)
  injection e with e1 _ e3
  subst e1
  subst e3
  have hg := cellsT_get ts j hj'
  refine ⟨⟨g, 0, rfl, ?_, ?_, ?_, ?_⟩, hin _ (List.getElem_mem hj')⟩
  · rw [show 0 + (0 + j) * 4 = j * 4 by omega, h.cellAt _ (by omega)]; exact hg.1
  · rw [show 0 + (0 + j) * 4 + 1 = j * 4 + 1 by omega, h.cellAt _ (by omega)]; exact hg.2.1
  · rw [show 0 + (0 + j) * 4 + 2 = j * 4 + 2 by omega, h.cellAt _ (by omega)]; exact hg.2.2.1
  · rw [show 0 + (0 + j) * 4 + 3 = j * 4 + 3 by omega, h.cellAt _ (by omega)]; exact hg.2.2.2
section
variable {base : Nat} {w : World} {R : Nat} {s : ByteArray} {pos : Nat} {g n cap : Nat} {L : List Lv} {tight : Bool}
theorem live_same (R g n n' cap : Nat) (L : List Lv) : live R (.slice (some ⟨g, 0, none⟩) n cap) L = live R (.slice (some ⟨g, 0, none⟩) n' cap) L := by simp [live, Value.ownBlock]
/-- The innermost level goes. -/
theorem Scan.pop {va : Option Addr} {vc : Nat} {ts : List T} (h : Scan base w R s pos (.slice (some ⟨g, 0, none⟩) (L.length + 1) cap) (L ++ [(.slice va ts.length vc, ts)]) tight) (hlen : ts.length ≤ 1000000) :
    Scan base (w.setCell ⟨R, 2, none⟩ (.slice (some ⟨g, 0, none⟩) L.length cap)) R s pos (.slice (some ⟨g, 0, none⟩) L.length cap) L tight ∧ In w (T.mk 3 0 ⟨#[]⟩ va vc ts) ∧
      (∀ b, On (T.mk 3 0 ⟨#[]⟩ va vc ts) b → b ∉ live R (.slice (some ⟨g, 0, none⟩) L.length cap) L) ∧ (∀ b, On (T.mk 3 0 ⟨#[]⟩ va vc ts) b → base ≤ b) := by
  have hnd := h.nodup
  have hll := h.live_lt
  have hlv := h.lvl
  rw [live_snoc] at hnd hll hlv
  obtain ⟨nd1, nd2, nd3⟩ := List.nodup_append.1 hnd
  have htop := hlv (.slice va ts.length vc, ts) (by simp)
  refine ⟨⟨heap_setCell_same w R 2 _ _ _ h.blk, ?_, fun p hp => ?_, by rw [live_same R g L.length (L.length + 1)]; exact nd1, h.hR, by simpa using h.hw, fun p hp => h.hi p (List.mem_append_left _ hp)⟩, kids_in htop.1 (fun t ht => (htop.2 t ht).1) hlen, ?_, ?_⟩
  · have hr := h.rows
    simp only [List.length_append, List.length_cons, List.length_nil, List.map_append, List.map_cons, List.map_nil] at hr
    refine ownsRow_setCell_other (ownsRow_pop (by simp) hr) ?_ _
    intro e
    have e' : g = R := by simpa [Value.ownBlock] using e
    subst e'
    simp [live, Value.ownBlock] at nd1
  · have hl := hlv p (List.mem_append_left _ hp)
    refine ⟨ownsRow_setCell_other hl.1 (fun e => ?_) _, fun t ht => ⟨(hl.2 t ht).1.same _ (Nat.lt_succ_self _) fun b hb => Below.heap_setCell _ _ _ _ (fun e => (hl.2 t ht).2 b hb (by rw [e]; simp [live])), fun b hb hm => (hl.2 t ht).2 b hb (List.mem_append_left _ (by rw [live_same R g (L.length + 1) L.length]; exact hm))⟩⟩
    simp only [live, List.nodup_cons] at nd1
    exact nd1.1 (List.mem_append_right _ (List.mem_flatMap.2 ⟨p, hp, by rw [e]; simp⟩))
  · intro b hb hm
    rw [live_same R g L.length (L.length + 1)] at hm
    cases hb with
    | here ha hk =>
      have e : va = some ⟨b, _, _⟩ := ha
      exact nd3 b hm b (by rw [e]; simp [Value.ownBlock]) rfl
    | kid hu ho => exact (htop.2 _ hu).2 b ho (List.mem_append_left _ hm)
  · intro b hb
    cases hb with
    | here ha hk =>
      have e : va = some ⟨b, _, _⟩ := ha
      exact (htop.1.lt b (by rw [e]; rfl)).1
    | kid hu ho => exact h.hi (.slice va ts.length vc, ts) (by simp) _ hu b ho
end

set_option maxHeartbeats 1000000 in
theorem close_none (base : Nat) (w : World) (R : Nat) (s : ByteArray) (pos : Nat) (ov v : Value) (ts : List T) (tight : Bool) (h : Scan base w R s pos ov [(v, ts)] tight) :
    Calls Tryz.prog 111 #[.pointer (some ⟨R, 0, none⟩)] w fun e w' => e = .returned (.int .i64 4) ∧ Below base w w' := by
  obtain ⟨g, cap, rfl, hg1, hg2⟩ := h.rows.form (by simp)
  obtain ⟨c0, c1, c2, c3, f1, f2, f3⟩ := h.cells
  simp only [List.length_cons, List.length_nil, Nat.zero_add] at c2
  clear h
  go_enter Tryz.func111, Tryz.ntmps111
  go_wp2_with fail
  go_ret
  exact ⟨rfl, Below.refl _ _⟩
def Closed (base : Nat) (w w' : World) (R : Nat) (s : ByteArray) (pos : Nat) (L : List Lv) (ts0 ts : List T) : Prop :=
  ∃ (ov : Value) (va : Option Addr) (vc : Nat), Added base w w' R s pos ov L (ts0 ++ [T.mk 3 0 ⟨#[]⟩ va vc ts]) false
set_option maxHeartbeats 2000000 in
set_option maxRecDepth 100000 in
theorem close_some (base : Nat) (w : World) (R : Nat) (s : ByteArray) (pos : Nat) (ov : Value) (L : List Lv) (v0 v : Value) (ts0 ts : List T) (tight : Bool)
    (h : Scan base w R s pos ov ((L ++ [(v0, ts0)]) ++ [(v, ts)]) tight) (hpos : pos < s.size) (hs : s.size ≤ 60000) (hlen : ts.length ≤ 500000) (hlen0 : ts0.length ≤ 400000) (hL : L.length ≤ 100000) :
    Calls Tryz.prog 111 #[.pointer (some ⟨R, 0, none⟩)] w fun e w' => e = .returned (.int .i64 0) ∧ Closed base w w' R s (pos + 1) L ts0 ts := by
  have hbR := h.hR
  have hbw := h.hw
  obtain ⟨g, cap, rfl, hg1, hg2⟩ := h.rows.form (by simp)
  obtain ⟨N, hN⟩ : ∃ N, (L ++ [(v0, ts0)]).length = N := ⟨_, rfl⟩
  have hN1 : N = L.length + 1 := by rw [← hN]; simp
  have hNN : ((L ++ [(v0, ts0)]) ++ [(v, ts)]).length = N + 1 := by simp at hN ⊢; omega
  rw [hNN] at h
  have hrows := h.rows
  rw [hNN] at hrows
  obtain ⟨va, vc, rfl⟩ : ∃ va vc, v = .slice va ts.length vc := by
    have hv0 := (h.lvl (v, ts) (by simp)).1
    rcases hv0.2 with ⟨e, e'⟩ | ⟨g', c', cur, e, _⟩
    · have e1 : v = .slice none 0 0 := e
      have e2 : ts.length = 0 := e'
      exact ⟨none, 0, by rw [e1, e2]⟩
    · exact ⟨_, _, e⟩
  obtain ⟨c0, c1, c2, c3, f1, f2, f3⟩ := h.cells
  have k1 : w.cell? ⟨g, N, none⟩ = some (.slice va ts.length vc) := by
    rw [hrows.cellAt N (by omega), ← hN]; simp
  have hNcap : N + 1 ≤ cap := by
    rcases hrows.2 with ⟨e, _⟩ | ⟨g', c', cur, e, _, _, h1, _⟩
    · cases e
    · injection e with _ _ e3; omega
  have hp := h
  rw [← hN] at hp
  obtain ⟨hS, hIn, hOn, hOb⟩ := hp.pop (by omega)
  rw [hN] at hS hOn
  have hSs : ∀ w2, Below (w.setCell ⟨R, 2, none⟩ (.slice (some ⟨g, 0, none⟩) N cap)).heap.size (w.setCell ⟨R, 2, none⟩ (.slice (some ⟨g, 0, none⟩) N cap)) w2 → Scan base w2 R s pos (.slice (some ⟨g, 0, none⟩) N cap) (L ++ [(v0, ts0)]) tight ∧ In w2 (T.mk 3 0 ⟨#[]⟩ va vc ts) := fun w2 hb =>
    ⟨hS.below hb, (hIn.same (w' := w.setCell ⟨R, 2, none⟩ (.slice (some ⟨g, 0, none⟩) N cap)) _ (Nat.lt_succ_self _) fun b hb => Below.heap_setCell _ _ _ _ (fun e => hOn b hb (by rw [e]; simp [live]))).below hb⟩
  have HA : Hid (∀ w2, Below (w.setCell ⟨R, 2, none⟩ (.slice (some ⟨g, 0, none⟩) N cap)).heap.size (w.setCell ⟨R, 2, none⟩ (.slice (some ⟨g, 0, none⟩) N cap)) w2 → Calls Tryz.prog 144 #[.pointer (some ⟨R, 0, none⟩), .agg #[.int .i64 3, .int .i64 0, .string ⟨#[]⟩, .slice va ts.length vc]] w2
        fun e w' => e = .returned (.tuple #[]) ∧ Added base w2 w' R s pos (.slice (some ⟨g, 0, none⟩) N cap) L (ts0 ++ [T.mk 3 0 ⟨#[]⟩ va vc ts]) tight) :=
      Lib.hid fun w2 hb => add_any base w2 R s pos _ L v0 ts0 tight (T.mk 3 0 ⟨#[]⟩ va vc ts) (hSs w2 hb).1 (hSs w2 hb).2 hOn hOb (by omega)
  have lg : g < w.heap.size := hg2
  have lR : R < w.heap.size := lt_of_block h.blk
  have hgR : g ≠ R := by
    intro e; subst e
    have := h.nodup
    simp [live, Value.ownBlock] at this
  have i0 : (0 : Int) ≤ (N : Int) := by omega
  have i1 : (N : Int) < (N : Int) + 1 := by omega
  have i2 : (N : Int) ≤ (cap : Int) := by omega
  have i3 : ((N : Int) == 0) = false := by simp; omega
  have i4 : N ≤ 1000000 := by omega
  clear hS hIn hOn hOb hSs hp hrows h hN hNN hN1
  go_enter Tryz.func111, Tryz.ntmps111
  go_wp2_with (go_at_call 144; refine (HA.out _ (bel1 _ _)).mono ?_; rintro e w4 ⟨rfl, hB4, v', hS4⟩; obtain ⟨c0, c1, c2, c3, f1, f2, f3⟩ := hS4.cells; have HS4 := Lib.hid hS4; have HB4 := Lib.hid hB4; clear hS4 hB4)
  go_ret
  exact ⟨rfl, _, va, vc, below_setR (below_setR (((below_setR (Below.refl _ _) hbR _).alloc (by simpa using hbw) _).trans HB4.out) hbR _) hbR _, v', (HS4.out.setPos (pos + 1)).setTight false⟩
end Go.Proofs.YtedabholcldgbaaGreatDoor
