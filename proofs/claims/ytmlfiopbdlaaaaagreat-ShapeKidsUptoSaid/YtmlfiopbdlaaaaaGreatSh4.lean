/- Rows put together: just, any, end. -/
import Derived.Test.YtmlfiopbdlaaaaaGreatShD
namespace Go.Proofs.YtmlfiopbdlaaaaaGreat
open Go.RowKit Go.Deep
variable {S : Nat → Prop}

def RowEnd (n : Nat) (S : Nat → Prop) (w w' : World) (R : RS) (e : Ending) : Prop := ∃ v, e = .returned v ∧ RowIs n S w' v R ∧ Below w.heap.size w w'
theorem just_any (n : Nat) (a : Option Addr) (l : List PS) (c : Nat) (w : World) (h : PartsAt n S w a l) :
    Calls Tryz.prog 82 #[.slice a l.length c] w (fun e w' => RowEnd n S w w' ⟨l, none, []⟩ e) := by
  have HP := Lib.hid h
  obtain ⟨k, hk⟩ : ∃ k, l.length = k := ⟨_, rfl⟩
  have HK := Lib.hid hk
  rw [hk]
  clear h hk
  go_enter Tryz.func82, Tryz.ntmps82
  go_wp2_with fail
  refine bodyPost_ret (v := .agg #[.slice a k c, .slice none 0 0, .pointer none]) (by simp [results, Tryz.results82, go_sem]) rfl ⟨_, rfl, ⟨a, c, none, 0, none, by rw [HK.out]; rfl, HP.out.below (bel1 _ _), .inl rfl, rfl⟩, bel1 _ _⟩
theorem bel3 (w : World) (o o' o'' : Obj) : Below w.heap.size w (((w.alloc o).alloc o').alloc o'') := up (bel2 _ _ _) (bel1 _ _)
theorem cell_block {w : World} {b j : Nat} {cs : Array Value} {ty : TypeId} {v : Value} (hb : w.heap[b]? = some (.cells cs ty (0, 0))) (h : cs[j]? = some v) : w.cell? ⟨b, j, none⟩ = some v := by
  simp only [World.cell?, hb]; simpa using h
theorem PartAt.of_block {n : Nat} {w : World} {b j : Nat} {cs : Array Value} {ty : TypeId} {vf vi ve : Value} {p : PS} (hb : w.heap[b]? = some (.cells cs ty (0, 0))) (hs : ¬ S b) (h0 : cs[j]? = some vf) (h1 : cs[j + 1]? = some vi) (h2 : cs[j + 2]? = some ve) (h : PartIs n S w vf vi ve p) : PartAt n S w b j p :=
  ⟨lt_of_block hb, hs, vf, vi, ve, cell_block hb h0, cell_block hb h1, cell_block hb h2, h⟩
theorem heap2 (w : World) (o o' : Obj) : ((w.alloc o).alloc o').heap[w.heap.size + 1]? = some o' := by
  have := heap_alloc_new (w.alloc o) o'
  rwa [show (w.alloc o).heap.size = w.heap.size + 1 by simp] at this
/-- A part with its values. -/
structure Pv where
  vf : Value
  vi : Value
  ve : Value
  p : PS
def cellsP (l : List Pv) : List Value := l.flatMap fun x => [x.vf, x.vi, x.ve]
theorem cellsP_len : ∀ l : List Pv, (cellsP l).length = l.length * 3
  | [] => rfl
  | x :: l => by have := cellsP_len l; simp only [cellsP, List.flatMap_cons, List.length_append] at this ⊢; simp only [List.length_cons, List.length_nil]; omega
theorem cellsP_get : ∀ (l : List Pv) (i : Nat) (h : i < l.length), (cellsP l)[i * 3]? = some l[i].vf ∧ (cellsP l)[i * 3 + 1]? = some l[i].vi ∧ (cellsP l)[i * 3 + 2]? = some l[i].ve
  | x :: l, 0, _ => by simp [cellsP]
  | x :: l, i + 1, h => by
    have ih := cellsP_get l i (by simpa using h)
    have e : cellsP (x :: l) = x.vf :: x.vi :: x.ve :: cellsP l := by simp [cellsP]
    rw [e, show (i + 1) * 3 = i * 3 + 1 + 1 + 1 by omega]
    simpa using ih
theorem parts_block {n : Nat} {w : World} {b : Nat} {l : List Pv} {ty : TypeId} (hb : w.heap[b]? = some (.cells (cellsP l).toArray ty (0, 0))) (hs : ¬ S b) (h : ∀ x ∈ l, PartIs n S w x.vf x.vi x.ve x.p) : PartsAt n S w (some ⟨b, 0, none⟩) (l.map Pv.p) := by
  refine .inr ⟨b, 0, rfl, fun i hi => ?_⟩
  have hi' : i < l.length := by simpa using hi
  obtain ⟨h0, h1, h2⟩ := cellsP_get l i hi'
  have hp := h l[i] (List.getElem_mem hi')
  simp only [Nat.zero_add, List.getElem_map]
  exact PartAt.of_block hb hs (by simpa using h0) (by simpa using h1) (by simpa using h2) hp
set_option maxHeartbeats 1000000 in
theorem any_any (n : Nat) (rv : Value) (R : RS) (vf vi ve : Value) (p : PS) (w : World) (hS : ∀ b, S b → b < w.heap.size) (hR : RowIs n S w rv R) (hp : PartIs n S w vf vi ve p) :
    Calls Tryz.prog 93 #[rv, .agg #[vf, vi, ve]] w (fun e w' => RowEnd n S w w' ⟨R.front, some p, R.back⟩ e) := by
  obtain ⟨fa, fc, ba, bc, m, rfl, hf, hb, hm⟩ := hR
  have HF := Lib.hid hf
  have HB := Lib.hid hb
  have HP := Lib.hid hp
  have HS := Lib.hid hS
  clear hS
  obtain ⟨K, caps, rfl, hvi, rfl⟩ := hp.vals
  obtain ⟨fl, hfl⟩ : ∃ k, R.front.length = k := ⟨_, rfl⟩
  obtain ⟨bl, hbl⟩ : ∃ k, R.back.length = k := ⟨_, rfl⟩
  have HFL := Lib.hid hfl
  have HBL := Lib.hid hbl
  rw [hfl, hbl]
  clear hf hb hm hp hfl hbl
  rcases hvi with rfl | ⟨K', caps', rfl⟩
  all_goals
    go_enter Tryz.func93, Tryz.ntmps93
    go_wp2_with fail
    refine bodyPost_ret (v := .agg #[.slice fa fl fc, .slice ba bl bc, .pointer (some ⟨w.heap.size + 1, 0, none⟩)]) (by simp [results, Tryz.results93, go_sem]) rfl ⟨_, rfl, ⟨fa, fc, ba, bc, _, by rw [HFL.out, HBL.out], HF.out.below (bel3 _ _ _ _), HB.out.below (bel3 _ _ _ _), w.heap.size + 1, rfl, ?_⟩, bel3 _ _ _ _⟩
    refine (PartAt.of_block (cs := #[_, _, _]) (ty := 71) ?_ (fun e => absurd (HS.out _ e) (by omega)) rfl rfl rfl (HP.out.below (bel2 _ _ _))).below (bel1 _ _)
    exact heap2 _ _ _
theorem end_any (n : Nat) (rv : Value) (R : RS) (a : Option Addr) (l : List PS) (c : Nat) (w : World) (hR : RowIs n S w rv R) (h : PartsAt n S w a l) :
    Calls Tryz.prog 147 #[rv, .slice a l.length c] w (fun e w' => RowEnd n S w w' ⟨R.front, R.more, l⟩ e) := by
  obtain ⟨fa, fc, ba, bc, m, rfl, hf, hb, hm⟩ := hR
  have HF := Lib.hid hf
  have HP := Lib.hid h
  have HM := Lib.hid hm
  obtain ⟨k, hk⟩ : ∃ k, l.length = k := ⟨_, rfl⟩
  have HK := Lib.hid hk
  obtain ⟨fl, hfl⟩ : ∃ k, R.front.length = k := ⟨_, rfl⟩
  have HFL := Lib.hid hfl
  rw [hk, hfl]
  clear h hk hf hb hm hfl
  go_enter Tryz.func147, Tryz.ntmps147
  go_wp2_with fail
  refine bodyPost_ret (v := .agg #[.slice fa fl fc, .slice a k c, .pointer m]) (by simp [results, Tryz.results147, go_sem]) rfl ⟨_, rfl, ⟨fa, fc, a, c, m, by rw [HFL.out, HK.out], HF.out.below (bel2 _ _ _), HP.out.below (bel2 _ _ _), ?_⟩, bel2 _ _ _⟩
  cases hr : R.more with
  | none => have := HM.out; rw [hr] at this; exact this
  | some p => have := HM.out; rw [hr] at this; obtain ⟨b, e, h5⟩ := this; exact ⟨b, e, h5.below (bel2 _ _ _)⟩
end Go.Proofs.YtmlfiopbdlaaaaaGreat
