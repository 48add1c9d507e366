/- The scanner's step: what it does, as plain data; a level more. -/
import Derived.Test.YtedabholcldgbaaGreatDoorReadText
namespace Go.Proofs.YtedabholcldgbaaGreatDoor
open Go.RowKit Go.Deep

/-- What one step leaves: an error, or a position, the open lists (the outermost first), the innermost one, and whether a form ended just here. -/
inductive SR where
  | err (e : Int)
  | ok (pos : Nat) (O : List (List Fm)) (top : List Fm) (tight : Bool)
def closeS (pos : Nat) (O : List (List Fm)) (top : List Fm) : SR :=
  match O.getLast? with
  | none => .err 4
  | some l => .ok (pos + 1) O.dropLast (l ++ [.mk 3 0 ⟨#[]⟩ top]) false
def textS (s : ByteArray) (pos : Nat) (O : List (List Fm)) (top : List Fm) : SR :=
  match txtL (s.data.toList.drop (pos + 1)) with
  | .err c => .err c
  | .done bs n => if 2000 < (⟨bs.toArray⟩ : ByteArray).size then .err 4 else .ok (pos + n + 1) O (top ++ [.mk 2 0 ⟨bs.toArray⟩ []]) true
def tokS (s : ByteArray) (pos : Nat) (O : List (List Fm)) (top : List Fm) : SR :=
  match tokenR (spanB tokB s pos) with
  | .err c => .err c
  | .form k n t => .ok (pos + (spanB tokB s pos).size) O (top ++ [.mk k n t []]) true
def stepS (s : ByteArray) (pos : Nat) (b : Nat) (O : List (List Fm)) (top : List Fm) (tight : Bool) : SR :=
  if b = 59 then .ok (pos + (spanL nnlB (s.data.toList.drop pos)).length) O top false
  else if blankB (b : Int) = true then .ok (pos + 1) O top false
  else if b = 40 then .ok (pos + 1) (O ++ [top]) [] false
  else if b = 41 then closeS pos O top
  else if plainB (b : Int) = false then .err 4
  else if tight = true then .err 4
  else if b = 34 then textS s pos O top
  else tokS s pos O top
/-- The scanner in memory, as plain data. -/
def State (base : Nat) (w : World) (R : Nat) (s : ByteArray) (pos : Nat) (O : List (List Fm)) (top : List Fm) (tight : Bool) : Prop :=
  ∃ (ov : Value) (L : List Lv) (v : Value) (ts : List T), Scan base w R s pos ov (L ++ [(v, ts)]) tight ∧ (L.map fun p => p.2.map T.form) = O ∧ ts.map T.form = top
def StepEnd (base : Nat) (w w' : World) (R : Nat) (s : ByteArray) (r : SR) (e : Ending) : Prop :=
  match r with
  | .err c => e = .returned (.int .i64 c) ∧ Below base w w'
  | .ok q O top tight => e = .returned (.int .i64 0) ∧ State base w' R s q O top tight ∧ Below base w w'

section
variable {base : Nat} {W w1 : World} {R : Nat} {s : ByteArray} {pos : Nat} {ov : Value} {L : List Lv} {tight : Bool} {gg c : Nat}
theorem Scan.keepR (h : Scan base W R s pos ov L tight) (hgrow : W.grownBy w1 ov.ownBlock) : w1.heap[R]? = W.heap[R]? := by
  refine hgrow.block R (lt_of_block h.blk) fun e => ?_
  have hnd := h.nodup
  simp only [live, List.nodup_cons] at hnd
  exact hnd.1 (List.mem_append_left _ (by rw [← e]; simp))
theorem Scan.keepCells (h : Scan base W R s pos ov L tight) (hgrow : W.grownBy w1 ov.ownBlock) : w1.cell? ⟨R, 2, none⟩ = some ov ∧ w1.frozen? ⟨R, 2, none⟩ = false := by
  have := (h.keepR hgrow).trans h.blk
  constructor <;> simp [World.cell?, World.frozen?, this]
/-- A level more. -/
theorem Scan.push (h : Scan base W R s pos ov L tight) (hgrow : W.grownBy w1 ov.ownBlock) (hown : w1.ownsRow base 22 1 (.slice (some ⟨gg, 0, none⟩) (L.length + 1) c) (L.length + 1) (L.map (·.1) ++ [.slice none 0 0]))
    (hat : ov.ownBlock = some gg ∨ W.heap.size ≤ gg) :
    Scan base (w1.setCell ⟨R, 2, none⟩ (.slice (some ⟨gg, 0, none⟩) (L.length + 1) c)) R s pos (.slice (some ⟨gg, 0, none⟩) (L.length + 1) c) (L ++ [(.slice none 0 0, [])]) tight := by
  have hll := h.live_lt
  have hnd := h.nodup
  have hlv : live R ov L = R :: (ov.ownBlock.toList ++ L.flatMap fun p => p.1.ownBlock.toList) := rfl
  rw [hlv] at hnd
  have hR1 := (List.nodup_cons.1 hnd).1
  obtain ⟨n1, n2, n3⟩ := List.nodup_append.1 (List.nodup_cons.1 hnd).2
  have hgR : gg ≠ R := by
    intro e; subst e
    rcases hat with e | e
    · exact hR1 (List.mem_append_left _ (by rw [e]; simp))
    · have := (hll gg (by simp [live])).2; omega
  have hgL : gg ∉ L.flatMap fun p => p.1.ownBlock.toList := by
    intro hm
    rcases hat with e | e
    · exact n3 gg (by rw [e]; simp) gg hm rfl
    · have := (hll gg (by rw [hlv]; exact List.mem_cons_of_mem _ (List.mem_append_right _ hm))).2; omega
  have hlive : live R (.slice (some ⟨gg, 0, none⟩) (L.length + 1) c) (L ++ [(.slice none 0 0, [])]) = R :: ([gg] ++ L.flatMap fun p => p.1.ownBlock.toList) := by
    rw [live_snoc]; simp [live, Value.ownBlock]
  have hsame : ∀ b, b < W.heap.size → b ≠ R → some b ≠ ov.ownBlock → (w1.setCell ⟨R, 2, none⟩ (.slice (some ⟨gg, 0, none⟩) (L.length + 1) c)).heap[b]? = W.heap[b]? := fun b hb hR hne => by
    rw [Below.heap_setCell _ _ _ _ hR]; exact hgrow.block b hb hne
  have hblk : w1.heap[R]? = some (.cells #[.string s, .int .i64 pos, ov, .bool tight] 94 (0, 0)) := (h.keepR hgrow).trans h.blk
  refine ⟨heap_setCell_same w1 R 2 _ _ _ hblk, ?_, fun p hp => ?_, ?_, h.hR, by simpa using Nat.le_trans h.hw hgrow.size, fun p hp => ?_⟩
  · simp only [List.length_append, List.length_cons, List.length_nil, List.map_append, List.map_cons, List.map_nil]
    exact ownsRow_setCell_other hown (by simp [Value.ownBlock]; exact hgR) _
  · rw [hlive]
    rcases List.mem_append.1 hp with hp | hp
    · have hl := h.lvl p hp
      rw [hlv] at hl
      have hmem : ∀ k, p.1.ownBlock = some k → k ∈ L.flatMap fun p => p.1.ownBlock.toList := fun k hk => List.mem_flatMap.2 ⟨p, hp, by rw [hk]; simp⟩
      refine ⟨own_same hl.1 fun k hk => hsame k (hl.1.lt k hk).2 (fun e => hR1 (List.mem_append_right _ (e ▸ hmem k hk))) (fun e => n3 k (by rw [← e]; simp) k (hmem k hk) rfl), fun t ht => ?_⟩
      obtain ⟨hi, ho⟩ := hl.2 t ht
      refine ⟨hi.same _ (Nat.lt_succ_self _) fun b hb => hsame b (hi.lt hb) (fun e => ho b hb (by rw [e]; simp)) (fun e => ho b hb (List.mem_cons_of_mem _ (List.mem_append_left _ (by rw [← e]; simp)))), fun b hb hm => ?_⟩
      rcases List.mem_cons.1 hm with e | hm
      · exact ho b hb (by rw [e]; simp)
      · rcases List.mem_append.1 hm with hm | hm
        · have e : b = gg := by simpa using hm
          subst e
          rcases hat with e | e
          · exact ho b hb (List.mem_cons_of_mem _ (List.mem_append_left _ (by rw [e]; simp)))
          · have := hi.lt hb; omega
        · exact ho b hb (List.mem_cons_of_mem _ (List.mem_append_right _ hm))
    · have e : p = (.slice none 0 0, []) := by simpa using hp
      subst e
      exact ⟨World.ownsRow_nil _ _ _ _, fun t ht => by cases ht⟩
  · rw [hlive]
    refine List.nodup_cons.2 ⟨fun hm => ?_, List.nodup_append.2 ⟨by simp, n2, fun a ha b hb e => hgL (by
      have : a = gg := by simpa using ha
      rw [← this, e]; exact hb)⟩⟩
    rcases List.mem_append.1 hm with hm | hm
    · have e : R = gg := by simpa using hm
      exact hgR e.symm
    · exact hR1 (List.mem_append_right _ hm)
  · rcases List.mem_append.1 hp with hp | hp
    · exact h.hi p hp
    · have e : p = (.slice none 0 0, []) := by simpa using hp
      subst e
      intro t ht; cases ht
theorem Scan.pushBelow (h : Scan base W R s pos ov L tight) (hgrow : W.grownBy w1 ov.ownBlock) : Below base W w1 :=
  (Below.refl _ _).grown hgrow h.hw fun k hk => (h.live_lt k (by simp [live, hk])).1
/-- Behind a parenthesis: a place on, and a block laid. -/
theorem Scan.paren (h : Scan base W R s pos ov L tight) (n : Nat) (o : Obj) : Scan base ((((W.drewN n).setCell ⟨R, 1, none⟩ (.int .i64 ((pos : Int) + 1))).setCell ⟨R, 3, none⟩ (.bool false)).alloc o) R s (pos + 1) ov L false :=
  (((h.drewN n).setPos (pos + 1)).setTight false).below (bel1 _ _)
theorem below_paren (hR : base ≤ R) (hw : base ≤ W.heap.size) (n : Nat) (a b : Value) (o : Obj) : Below base W ((((W.drewN n).setCell ⟨R, 1, none⟩ a).setCell ⟨R, 3, none⟩ b).alloc o) :=
  (below_setR (below_setR (below_drewN (Below.refl _ _) n) hR _) hR _).alloc (by simpa using hw) o
theorem heap_paren (W : World) (R n : Nat) (a b : Value) (o : Obj) : ((((W.drewN n).setCell ⟨R, 1, none⟩ a).setCell ⟨R, 3, none⟩ b).alloc o).heap[W.heap.size]? = some o := by
  have h := heap_alloc_new (((W.drewN n).setCell ⟨R, 1, none⟩ a).setCell ⟨R, 3, none⟩ b) o
  rwa [show (((W.drewN n).setCell ⟨R, 1, none⟩ a).setCell ⟨R, 3, none⟩ b).heap.size = W.heap.size by simp] at h
end
end Go.Proofs.YtedabholcldgbaaGreatDoor
