/- The document's own reader's step: the walk. -/
import Derived.Test.YtkcckhchlhmhhaaDoorQText
import Derived.Test.YtkcckhchlhmhhaaDoorSame
namespace Go.Proofs.YtkcckhchlhmhhaaDoor.Q
open Go.RowKit Go.Deep

/-- The reader in memory, as plain data. -/
def State (base : Nat) (w : World) (R : Nat) (s : ByteArray) (pos : Nat) (O : List (List Fm)) (top : List Fm) (near : Bool) : Prop :=
  ∃ (ov : Value) (L : List Lv) (v : Value) (ts : List T), Scan base w R s pos ov (L ++ [(v, ts)]) (near, 0) ∧ (L.map fun p => p.2.map T.form) = O ∧ ts.map T.form = top
/-- How a step ends. -/
def StepQ (base : Nat) (w w' : World) (R : Nat) (s : ByteArray) (r : SR) : Prop :=
  match r with
  | .err c => Bad w' R s c ∧ Below base w w'
  | .ok q O top t => State base w' R s q O top t ∧ Below base w w'
theorem txt_step {base : Nat} {w w1 w' : World} {R : Nat} {s : ByteArray} {pos : Nat} {ov : Value} {L : List Lv} {ts : List T} (hR : base ≤ R) (hb : Below base w w1) (h : TxtQ base w1 w' R s pos ov L ts false) :
    StepQ base w (w'.setCell ⟨R, 3, none⟩ (.bool true)) R s (textS s pos (L.map fun p => p.2.map T.form) (ts.map T.form)) := by
  unfold TxtQ at h
  unfold StepQ textS
  cases ht : txtL (s.data.toList.drop (pos + 1)) with
  | err c =>
    rw [ht] at h
    exact ⟨h.1.near true, below_setR (hb.trans h.2) hR _⟩
  | done bs n =>
    rw [ht] at h
    simp only at h ⊢
    by_cases hd : 2000 < (⟨bs.toArray⟩ : ByteArray).size
    · rw [if_pos hd] at h ⊢
      exact ⟨h.1.near true, below_setR (hb.trans h.2) hR _⟩
    · rw [if_neg hd] at h ⊢
      obtain ⟨hB, v', hS⟩ := h
      exact ⟨⟨ov, L, v', _, hS.setTight true, rfl, by simp [leaf_form]⟩, below_setR (hb.trans hB) hR _⟩
theorem tok_step {base : Nat} {w w1 w' : World} {R : Nat} {s : ByteArray} {pos : Nat} {ov : Value} {L : List Lv} {ts : List T} (hR : base ≤ R) (hb : Below base w w1) (h : TokQ base w1 w' R s pos ov L ts false) :
    StepQ base w (w'.setCell ⟨R, 3, none⟩ (.bool true)) R s (tokS s pos (L.map fun p => p.2.map T.form) (ts.map T.form)) := by
  unfold TokQ at h
  unfold StepQ tokS
  cases ht : tokenR (spanB tokB s pos) with
  | err c =>
    rw [ht] at h
    exact ⟨h.1.near true, below_setR (hb.trans h.2) hR _⟩
  | form k n t =>
    rw [ht] at h
    obtain ⟨hB, v', hS⟩ := h
    exact ⟨⟨ov, L, v', _, hS.setTight true, rfl, by simp [leaf_form]⟩, below_setR (hb.trans hB) hR _⟩
theorem close_step {base : Nat} {w w1 w' : World} {R : Nat} {s : ByteArray} {pos : Nat} {ov : Value} {L : List Lv} {v0 : Value} {ts0 ts : List T} {va : Option Addr} {vc : Nat} (hb : Below base w w1) (h : Added base w1 w' R s (pos + 1) ov L (ts0 ++ [T.mk 3 0 ⟨#[]⟩ va vc ts]) (false, 0)) :
    StepQ base w w' R s (closeS pos ((L ++ [(v0, ts0)]).map fun p => p.2.map T.form) (ts.map T.form)) := by
  obtain ⟨hB, v', hS⟩ := h
  unfold closeS
  simp only [List.map_append, List.map_cons, List.map_nil, List.getLast?_append, List.getLast?_singleton, Option.some_or, List.dropLast_concat]
  refine ⟨⟨ov, L, v', _, hS, rfl, ?_⟩, hb.trans hB⟩
  simp [T.form, T.forms_map]
/-- The innermost level goes, behind what was made since. -/
theorem Scan.popIn {base : Nat} {W : World} {R : Nat} {s : ByteArray} {pos g cap : Nat} {L : List Lv} {tight : Bool × Int} {va : Option Addr} {vc : Nat} {ts : List T} (h : Scan base W R s pos (.slice (some ⟨g, 0, none⟩) (L.length + 1) cap) (L ++ [(.slice va ts.length vc, ts)]) tight) (hlen : ts.length ≤ 1000000) :
    Scan base (W.setCell ⟨R, 2, none⟩ (.slice (some ⟨g, 0, none⟩) L.length cap)) R s pos (.slice (some ⟨g, 0, none⟩) L.length cap) L tight ∧ In (W.setCell ⟨R, 2, none⟩ (.slice (some ⟨g, 0, none⟩) L.length cap)) (T.mk 3 0 ⟨#[]⟩ va vc ts) ∧
      (∀ b, On (T.mk 3 0 ⟨#[]⟩ va vc ts) b → b ∉ live R (.slice (some ⟨g, 0, none⟩) L.length cap) L) ∧ (∀ b, On (T.mk 3 0 ⟨#[]⟩ va vc ts) b → base ≤ b) := by
  obtain ⟨h1, h2, h3, h4⟩ := h.pop hlen
  exact ⟨h1, h2.same _ (Nat.lt_succ_self _) fun b hb => Below.heap_setCell _ _ _ _ (fun e => h3 b hb (by rw [e]; simp [live])), h3, h4⟩
theorem Bad.cell {w : World} {R : Nat} {s : ByteArray} {c : Int} (h : Bad w R s c) : ∃ n, w.cell? ⟨R, 3, none⟩ = some (.bool n) ∧ w.frozen? ⟨R, 3, none⟩ = false := by
  obtain ⟨a, o, n, h⟩ := h
  exact ⟨n, by simp [World.cell?, h], by simp [World.frozen?, h]⟩
theorem Added.cell {base : Nat} {w w' : World} {R : Nat} {s : ByteArray} {pos : Nat} {ov : Value} {L : List Lv} {ts : List T} {tt : Bool × Int} (h : Added base w w' R s pos ov L ts tt) : ∃ n, w'.cell? ⟨R, 3, none⟩ = some (.bool n) ∧ w'.frozen? ⟨R, 3, none⟩ = false := by
  obtain ⟨_, v', hS⟩ := h
  obtain ⟨_, _, _, c3, _, _, _, f3, _⟩ := hS.cells
  exact ⟨_, c3, f3⟩
theorem TxtQ.cell {base : Nat} {w w' : World} {R : Nat} {s : ByteArray} {pos : Nat} {ov : Value} {L : List Lv} {ts : List T} {nb : Bool} (h : TxtQ base w w' R s pos ov L ts nb) : ∃ n, w'.cell? ⟨R, 3, none⟩ = some (.bool n) ∧ w'.frozen? ⟨R, 3, none⟩ = false := by
  unfold TxtQ at h
  split at h
  · exact h.1.cell
  · split at h
    · exact h.1.cell
    · exact h.cell
theorem TokQ.cell {base : Nat} {w w' : World} {R : Nat} {s : ByteArray} {pos : Nat} {ov : Value} {L : List Lv} {ts : List T} {nb : Bool} (h : TokQ base w w' R s pos ov L ts nb) : ∃ n, w'.cell? ⟨R, 3, none⟩ = some (.bool n) ∧ w'.frozen? ⟨R, 3, none⟩ = false := by
  unfold TokQ at h
  split at h
  · exact h.1.cell
  · exact h.cell
end Go.Proofs.YtkcckhchlhmhhaaDoor.Q
