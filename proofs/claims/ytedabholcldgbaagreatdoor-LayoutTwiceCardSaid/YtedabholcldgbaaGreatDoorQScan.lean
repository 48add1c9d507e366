/- The document's own reader: what lies in memory while it reads. Beside the program's: one cell more, the first error. -/
import Derived.Test.YtedabholcldgbaaGreatDoorStepLem
import Derived.Test.YtedabholcldgbaaGreatDoorRef3
namespace Go.Proofs.YtedabholcldgbaaGreatDoor.Q
open Go.RowKit Go.Deep

/-- What lies in memory while a text is read. -/
structure Scan (base : Nat) (w : World) (R : Nat) (s : ByteArray) (pos : Nat) (ov : Value) (L : List Lv) (tight : Bool × Int) : Prop where
  blk : w.heap[R]? = some (.cells #[.string s, .int .i64 pos, ov, .bool tight.1, .int .i64 tight.2] 103 (0, 0))
  rows : w.ownsRow base 22 1 ov L.length (L.map (·.1))
  lvl : ∀ p ∈ L, w.ownsRow base 29 4 p.1 p.2.length (cellsT p.2) ∧ ∀ t ∈ p.2, In w t ∧ ∀ b, On t b → b ∉ live R ov L
  nodup : (live R ov L).Nodup
  hR : base ≤ R
  hw : base ≤ w.heap.size
  hi : ∀ p ∈ L, ∀ t ∈ p.2, ∀ b, On t b → base ≤ b

theorem Scan.live_lt {base : Nat} {w : World} {R : Nat} {s : ByteArray} {pos : Nat} {ov : Value} {L : List Lv} {tight : Bool × Int} (h : Scan base w R s pos ov L tight) : ∀ b ∈ live R ov L, base ≤ b ∧ b < w.heap.size := by
  intro b hb
  simp only [live, List.mem_cons, List.mem_append, List.mem_flatMap, Option.mem_toList] at hb
  rcases hb with rfl | hb | ⟨p, hp, hb⟩
  · exact ⟨h.hR, lt_of_block h.blk⟩
  · exact h.rows.lt b hb
  · exact (h.lvl p hp).1.lt b hb
/-- Nothing of it turned. -/
theorem Scan.below {base : Nat} {w w' : World} {R : Nat} {s : ByteArray} {pos : Nat} {ov : Value} {L : List Lv} {tight : Bool × Int} (h : Scan base w R s pos ov L tight) (hb : Below w.heap.size w w') : Scan base w' R s pos ov L tight := by
  have hg : w.grownBy w' none := ⟨hb.os, hb.tape, hb.output, hb.size, fun k hk _ => hb.block k hk⟩
  have hk : ∀ (v : Value), v.ownBlock = none ∨ v.ownBlock ≠ none := fun v => by cases v.ownBlock <;> simp
  refine ⟨(hb.block R (lt_of_block h.blk)).trans h.blk, h.rows.kept hg (hk _), fun p hp => ⟨(h.lvl p hp).1.kept hg (hk _), fun t ht => ⟨((h.lvl p hp).2 t ht).1.below hb, ((h.lvl p hp).2 t ht).2⟩⟩, h.nodup, h.hR, Nat.le_trans h.hw hb.size, h.hi⟩

/-- The top level has another form more. -/
theorem Scan.top {base : Nat} {w w' : World} {R : Nat} {s : ByteArray} {pos : Nat} {g cap : Nat} {L : List Lv} {v : Value} {ts : List T} {tight : Bool × Int} {t : T} {gg c' : Nat}
    (h : Scan base w R s pos (.slice (some ⟨g, 0, none⟩) (L.length + 1) cap) (L ++ [(v, ts)]) tight) (ht : In w t) (hoff : ∀ b, On t b → b ∉ live R (.slice (some ⟨g, 0, none⟩) (L.length + 1) cap) (L ++ [(v, ts)])) (hbt : ∀ b, On t b → base ≤ b)
    (hrow : w'.ownsRow base 29 4 (.slice (some ⟨gg, 0, none⟩) (ts.length + 1) c') (ts.length + 1) (cellsT (ts ++ [t])))
    (hopen : w'.ownsRow base 22 1 (.slice (some ⟨g, 0, none⟩) (L.length + 1) cap) (L.length + 1) (L.map (·.1) ++ [.slice (some ⟨gg, 0, none⟩) (ts.length + 1) c']))
    (hsame : ∀ k, k < w.heap.size → k ≠ g → some k ≠ v.ownBlock → w'.heap[k]? = w.heap[k]?) (hat : v.ownBlock = some gg ∨ w.heap.size ≤ gg) (hsz : w.heap.size ≤ w'.heap.size) :
    Scan base w' R s pos (.slice (some ⟨g, 0, none⟩) (L.length + 1) cap) (L ++ [(.slice (some ⟨gg, 0, none⟩) (ts.length + 1) c', ts ++ [t])]) tight := by
  have hll := h.live_lt
  have hnd := h.nodup
  rw [live_snoc] at hnd hll hoff
  have hgl : g ∈ live R (.slice (some ⟨g, 0, none⟩) (L.length + 1) cap) L := by simp [live, Value.ownBlock]
  have hRl : R ∈ live R (.slice (some ⟨g, 0, none⟩) (L.length + 1) cap) L := by simp [live]
  obtain ⟨nd1, nd2, nd3⟩ := List.nodup_append.1 hnd
  have hRg : R ≠ g := by
    intro e; subst e
    simp [live, Value.ownBlock] at nd1
  have notv : ∀ k, k ∈ live R (.slice (some ⟨g, 0, none⟩) (L.length + 1) cap) L → some k ≠ v.ownBlock := fun k hk e => nd3 k hk k (by rw [← e]; simp) rfl
  have hgn : gg ∉ live R (.slice (some ⟨g, 0, none⟩) (L.length + 1) cap) L := by
    intro hm
    rcases hat with e | e
    · exact notv gg hm e.symm
    · have := (hll gg (by simp [hm])).2; omega
  have hin : ∀ x, In w x → (∀ b, On x b → b ∉ live R (.slice (some ⟨g, 0, none⟩) (L.length + 1) cap) L ++ v.ownBlock.toList) → In w' x := fun x hx ho =>
    hx.same _ (Nat.lt_succ_self _) fun b hb => hsame b (hx.lt hb) (fun e => ho b hb (by rw [e]; exact List.mem_append_left _ hgl)) (fun e => ho b hb (by rw [← e]; simp))
  have hof : ∀ x, In w x → (∀ b, On x b → b ∉ live R (.slice (some ⟨g, 0, none⟩) (L.length + 1) cap) L ++ v.ownBlock.toList) → ∀ b, On x b → b ∉ live R (.slice (some ⟨g, 0, none⟩) (L.length + 1) cap) L ++ [gg] := fun x hx ho b hb hm => by
    rcases List.mem_append.1 hm with hm | hm
    · exact ho b hb (List.mem_append_left _ hm)
    · have e : b = gg := by simpa using hm
      rcases hat with e' | e'
      · exact ho b hb (List.mem_append_right _ (by rw [e', e]; simp))
      · have := hx.lt hb; omega
  refine ⟨?_, by simpa using hopen, ?_, ?_, h.hR, Nat.le_trans h.hw hsz, ?_⟩
  · rw [hsame R (lt_of_block h.blk) hRg (notv R hRl)]; exact h.blk
  · intro p hp
    rw [live_snoc]
    rcases List.mem_append.1 hp with hp | hp
    · have hl := h.lvl p (List.mem_append_left _ hp)
      rw [live_snoc] at hl
      refine ⟨own_same hl.1 fun k hk => ?_, fun x hx => ⟨hin x (hl.2 x hx).1 (hl.2 x hx).2, hof x (hl.2 x hx).1 (hl.2 x hx).2⟩⟩
      have hkl : k ∈ live R (.slice (some ⟨g, 0, none⟩) (L.length + 1) cap) L := by
        simp only [live, List.mem_cons, List.mem_append, List.mem_flatMap]
        exact .inr (.inr ⟨p, hp, by rw [hk]; simp⟩)
      refine hsame k (hll k (List.mem_append_left _ hkl)).2 (fun e => ?_) (notv k hkl)
      subst e
      have : k ∈ L.flatMap fun p => p.1.ownBlock.toList := List.mem_flatMap.2 ⟨p, hp, by rw [hk]; simp⟩
      simp only [live, Value.ownBlock, Option.toList, List.nodup_cons, List.singleton_append] at nd1
      exact nd1.2.1 this
    · have e : p = (.slice (some ⟨gg, 0, none⟩) (ts.length + 1) c', ts ++ [t]) := by simpa using hp
      subst e
      refine ⟨by simpa using hrow, fun x hx => ?_⟩
      have hl := h.lvl (v, ts) (by simp)
      rw [live_snoc] at hl
      rcases List.mem_append.1 hx with hx | hx
      · exact ⟨hin x (hl.2 x hx).1 (hl.2 x hx).2, hof x (hl.2 x hx).1 (hl.2 x hx).2⟩
      · have e : x = t := by simpa using hx
        subst e
        exact ⟨hin x ht hoff, hof x ht hoff⟩
  · rw [live_snoc]
    exact List.nodup_append.2 ⟨nd1, by simp [Value.ownBlock], fun a ha b hb e => hgn (by
      have : b = gg := by simpa [Value.ownBlock] using hb
      rw [← this, ← e]; exact ha)⟩
  · intro p hp x hx b hb
    rcases List.mem_append.1 hp with hp | hp
    · exact h.hi p (List.mem_append_left _ hp) x hx b hb
    · have e : p = (.slice (some ⟨gg, 0, none⟩) (ts.length + 1) c', ts ++ [t]) := by simpa using hp
      subst e
      rcases List.mem_append.1 hx with hx | hx
      · exact h.hi (v, ts) (by simp) x hx b hb
      · have e : x = t := by simpa using hx
        subst e
        exact hbt b hb

section
variable {base : Nat} {w w' : World} {R : Nat} {s : ByteArray} {pos : Nat} {ov : Value} {L : List Lv} {tight : Bool × Int}
/-- The scanner's own block has turned, and nothing else of it. -/
theorem Scan.setR (h : Scan base w R s pos ov L tight) {pos' : Nat} {tight' : Bool × Int} (hR : w'.heap[R]? = some (.cells #[.string s, .int .i64 pos', ov, .bool tight'.1, .int .i64 tight'.2] 103 (0, 0)))
    (ho : ∀ k, k < w.heap.size → k ≠ R → w'.heap[k]? = w.heap[k]?) (hsz : w.heap.size ≤ w'.heap.size) : Scan base w' R s pos' ov L tight' := by
  have hll := h.live_lt
  have hnd := h.nodup
  simp only [live, List.nodup_cons] at hnd
  have hne : ∀ k, k ∈ ov.ownBlock.toList ++ L.flatMap (fun p => p.1.ownBlock.toList) → k ≠ R := fun k hk e => hnd.1 (e ▸ hk)
  have hsame : ∀ k, k ∈ ov.ownBlock.toList ++ L.flatMap (fun p => p.1.ownBlock.toList) → w'.heap[k]? = w.heap[k]? := fun k hk =>
    ho k (hll k (by simp only [live]; exact List.mem_cons_of_mem _ hk)).2 (hne k hk)
  refine ⟨hR, own_same h.rows fun k hk => hsame k (List.mem_append_left _ (by rw [hk]; simp)), fun p hp => ⟨own_same (h.lvl p hp).1 fun k hk => hsame k (List.mem_append_right _ (List.mem_flatMap.2 ⟨p, hp, by rw [hk]; simp⟩)), fun t ht => ?_⟩, h.nodup, h.hR, Nat.le_trans h.hw hsz, h.hi⟩
  obtain ⟨hi, hof⟩ := (h.lvl p hp).2 t ht
  exact ⟨hi.same _ (Nat.lt_succ_self _) fun b hb => ho b (hi.lt hb) (fun e => hof b hb (by rw [e]; simp [live])), hof⟩
theorem Scan.cells (h : Scan base w R s pos ov L tight) : w.cell? ⟨R, 0, none⟩ = some (.string s) ∧ w.cell? ⟨R, 1, none⟩ = some (.int .i64 pos) ∧ w.cell? ⟨R, 2, none⟩ = some ov ∧ w.cell? ⟨R, 3, none⟩ = some (.bool tight.1) ∧ w.cell? ⟨R, 4, none⟩ = some (.int .i64 tight.2) ∧
    w.frozen? ⟨R, 1, none⟩ = false ∧ w.frozen? ⟨R, 2, none⟩ = false ∧ w.frozen? ⟨R, 3, none⟩ = false ∧ w.frozen? ⟨R, 4, none⟩ = false := by
  refine ⟨?_, ?_, ?_, ?_, ?_, ?_, ?_, ?_, ?_⟩ <;> simp [World.cell?, World.frozen?, h.blk]
theorem Scan.setPos (h : Scan base w R s pos ov L tight) (q : Nat) : Scan base (w.setCell ⟨R, 1, none⟩ (.int .i64 q)) R s q ov L tight :=
  h.setR (heap_setCell_same w R 1 _ _ _ h.blk) (fun k _ hk => Below.heap_setCell _ _ _ _ hk) (by simp)
theorem Scan.setTight (h : Scan base w R s pos ov L tight) (b : Bool) : Scan base (w.setCell ⟨R, 3, none⟩ (.bool b)) R s pos ov L (b, tight.2) :=
  h.setR (heap_setCell_same w R 3 _ _ _ h.blk) (fun k _ hk => Below.heap_setCell _ _ _ _ hk) (by simp)
theorem Scan.setE (h : Scan base w R s pos ov L tight) (c : Int) : Scan base (w.setCell ⟨R, 4, none⟩ (.int .i64 c)) R s pos ov L (tight.1, c) :=
  h.setR (heap_setCell_same w R 4 _ _ _ h.blk) (fun k _ hk => Below.heap_setCell _ _ _ _ hk) (by simp)
theorem Scan.drewN (h : Scan base w R s pos ov L tight) (n : Nat) : Scan base (w.drewN n) R s pos ov L tight := h.below ⟨rfl, rfl, rfl, Nat.le_refl _, fun _ _ => rfl⟩
end
section
variable {base : Nat} {W w1 : World} {R : Nat} {s : ByteArray} {pos : Nat} {ov : Value} {L : List Lv} {tight : Bool × Int} {gg c : Nat}
theorem Scan.keepR (h : Scan base W R s pos ov L tight) (hgrow : W.grownBy w1 ov.ownBlock) : w1.heap[R]? = W.heap[R]? := by
  refine hgrow.block R (lt_of_block h.blk) fun e => ?_
  have hnd := h.nodup
  simp only [live, List.nodup_cons] at hnd
  exact hnd.1 (List.mem_append_left _ (by rw [← e]; simp))
theorem Scan.keepCells (h : Scan base W R s pos ov L tight) (hgrow : W.grownBy w1 ov.ownBlock) : w1.cell? ⟨R, 2, none⟩ = some ov ∧ w1.frozen? ⟨R, 2, none⟩ = false := by
  have := (h.keepR hgrow).trans h.blk
  constructor <;> simp [World.cell?, World.frozen?, this]
/-- A level more. -/
theorem Scan.push (h : Scan base W R s pos ov L tight) (hgrow : W.grownBy w1 ov.ownBlock) (hown : w1.ownsRow base 22 1 (.slice (some ⟨gg, 0, none⟩) (L.length + 1) c) (L.length + 1) (L.map (·.1) ++ [.slice none 0 0]))
    (hat : ov.ownBlock = some gg ∨ W.heap.size ≤ gg) :
    Scan base (w1.setCell ⟨R, 2, none⟩ (.slice (some ⟨gg, 0, none⟩) (L.length + 1) c)) R s pos (.slice (some ⟨gg, 0, none⟩) (L.length + 1) c) (L ++ [(.slice none 0 0, [])]) tight := by
  have hll := h.live_lt
  have hnd := h.nodup
  have hlv : live R ov L = R :: (ov.ownBlock.toList ++ L.flatMap fun p => p.1.ownBlock.toList) := rfl
  rw [hlv] at hnd
  have hR1 := (List.nodup_cons.1 hnd).1
  obtain ⟨n1, n2, n3⟩ := List.nodup_append.1 (List.nodup_cons.1 hnd).2
  have hgR : gg ≠ R := by
    intro e; subst e
    rcases hat with e | e
    · exact hR1 (List.mem_append_left _ (by rw [e]; simp))
    · have := (hll gg (by simp [live])).2; omega
  have hgL : gg ∉ L.flatMap fun p => p.1.ownBlock.toList := by
    intro hm
    rcases hat with e | e
    · exact n3 gg (by rw [e]; simp) gg hm rfl
    · have := (hll gg (by rw [hlv]; exact List.mem_cons_of_mem _ (List.mem_append_right _ hm))).2; omega
  have hlive : live R (.slice (some ⟨gg, 0, none⟩) (L.length + 1) c) (L ++ [(.slice none 0 0, [])]) = R :: ([gg] ++ L.flatMap fun p => p.1.ownBlock.toList) := by
    rw [live_snoc]; simp [live, Value.ownBlock]
  have hsame : ∀ b, b < W.heap.size → b ≠ R → some b ≠ ov.ownBlock → (w1.setCell ⟨R, 2, none⟩ (.slice (some ⟨gg, 0, none⟩) (L.length + 1) c)).heap[b]? = W.heap[b]? := fun b hb hR hne => by
    rw [Below.heap_setCell _ _ _ _ hR]; exact hgrow.block b hb hne
  have hblk : w1.heap[R]? = some (.cells #[.string s, .int .i64 pos, ov, .bool tight.1, .int .i64 tight.2] 103 (0, 0)) := (h.keepR hgrow).trans h.blk
  refine ⟨heap_setCell_same w1 R 2 _ _ _ hblk, ?_, fun p hp => ?_, ?_, h.hR, by simpa using Nat.le_trans h.hw hgrow.size, fun p hp => ?_⟩
  · simp only [List.length_append, List.length_cons, List.length_nil, List.map_append, List.map_cons, List.map_nil]
    exact ownsRow_setCell_other hown (by simp [Value.ownBlock]; exact hgR) _
  · rw [hlive]
    rcases List.mem_append.1 hp with hp | hp
    · have hl := h.lvl p hp
      rw [hlv] at hl
      have hmem : ∀ k, p.1.ownBlock = some k → k ∈ L.flatMap fun p => p.1.ownBlock.toList := fun k hk => List.mem_flatMap.2 ⟨p, hp, by rw [hk]; simp⟩
      refine ⟨own_same hl.1 fun k hk => hsame k (hl.1.lt k hk).2 (fun e => hR1 (List.mem_append_right _ (e ▸ hmem k hk))) (fun e => n3 k (by rw [← e]; simp) k (hmem k hk) rfl), fun t ht => ?_⟩
      obtain ⟨hi, ho⟩ := hl.2 t ht
      refine ⟨hi.same _ (Nat.lt_succ_self _) fun b hb => hsame b (hi.lt hb) (fun e => ho b hb (by rw [e]; simp)) (fun e => ho b hb (List.mem_cons_of_mem _ (List.mem_append_left _ (by rw [← e]; simp)))), fun b hb hm => ?_⟩
      rcases List.mem_cons.1 hm with e | hm
      · exact ho b hb (by rw [e]; simp)
      · rcases List.mem_append.1 hm with hm | hm
        · have e : b = gg := by simpa using hm
          subst e
          rcases hat with e | e
          · exact ho b hb (List.mem_cons_of_mem _ (List.mem_append_left _ (by rw [e]; simp)))
          · have := hi.lt hb; omega
        · exact ho b hb (List.mem_cons_of_mem _ (List.mem_append_right _ hm))
    · have e : p = (.slice none 0 0, []) := by simpa using hp
      subst e
      exact ⟨World.ownsRow_nil _ _ _ _, fun t ht => by cases ht⟩
  · rw [hlive]
    refine List.nodup_cons.2 ⟨fun hm => ?_, List.nodup_append.2 ⟨by simp, n2, fun a ha b hb e => hgL (by
      have : a = gg := by simpa using ha
      rw [← this, e]; exact hb)⟩⟩
    rcases List.mem_append.1 hm with hm | hm
    · have e : R = gg := by simpa using hm
      exact hgR e.symm
    · exact hR1 (List.mem_append_right _ hm)
  · rcases List.mem_append.1 hp with hp | hp
    · exact h.hi p hp
    · have e : p = (.slice none 0 0, []) := by simpa using hp
      subst e
      intro t ht; cases ht
theorem Scan.pushBelow (h : Scan base W R s pos ov L tight) (hgrow : W.grownBy w1 ov.ownBlock) : Below base W w1 :=
  (Below.refl _ _).grown hgrow h.hw fun k hk => (h.live_lt k (by simp [live, hk])).1
/-- Behind a parenthesis: a place on, and a block laid. -/
theorem Scan.paren (h : Scan base W R s pos ov L tight) (n : Nat) (o : Obj) : Scan base ((((W.drewN n).setCell ⟨R, 1, none⟩ (.int .i64 ((pos : Int) + 1))).setCell ⟨R, 3, none⟩ (.bool false)).alloc o) R s (pos + 1) ov L (false, tight.2) :=
  (((h.drewN n).setPos (pos + 1)).setTight false).below (bel1 _ _)
end
section
variable {base : Nat} {w w' : World} {R : Nat} {s : ByteArray} {pos : Nat} {ov : Value} {L : List Lv} {tight : Bool × Int}
theorem Scan.low (h : Scan base w R s pos ov L tight) : Low R ov L w.heap.size :=
  ⟨fun b hb => (h.live_lt b hb).2, fun p hp t ht _ hb => ((h.lvl p hp).2 t ht).1.lt hb⟩
theorem Scan.belowB {B : Nat} (h : Scan base w R s pos ov L tight) (hl : Low R ov L B) (hb : Below B w w') : Scan base w' R s pos ov L tight := by
  have hs : ∀ k, k ∈ live R ov L → w'.heap[k]? = w.heap[k]? := fun k hk => hb.block k (hl.1 k hk)
  refine ⟨(hs R (by simp [live])).trans h.blk, own_same h.rows fun k hk => hs k (by simp [live, hk]), fun p hp => ⟨own_same (h.lvl p hp).1 fun k hk => hs k ?_, fun t ht => ⟨((h.lvl p hp).2 t ht).1.same _ (Nat.lt_succ_self _) fun b hb' => hb.block b (hl.2 p hp t ht b hb'), ((h.lvl p hp).2 t ht).2⟩⟩, h.nodup, h.hR, Nat.le_trans h.hw hb.size, h.hi⟩
  simp only [live, List.mem_cons, List.mem_append, List.mem_flatMap]
  exact .inr (.inr ⟨p, hp, by rw [hk]; simp⟩)
end
def Added (base : Nat) (w w' : World) (R : Nat) (s : ByteArray) (pos : Nat) (ov : Value) (L : List Lv) (ts : List T) (tight : Bool × Int) : Prop :=
  Below base w w' ∧ ∃ v', Scan base w' R s pos ov (L ++ [(v', ts)]) tight

section
variable {base : Nat} {w W w1 : World} {R : Nat} {s : ByteArray} {pos : Nat} {g cap : Nat} {L : List Lv} {v : Value} {ts : List T} {tight : Bool × Int} {t : T} {gg c' H : Nat}
/-- What the appends have in common. -/
structure Grew (base : Nat) (w W w1 : World) (R : Nat) (s : ByteArray) (pos : Nat) (g cap : Nat) (L : List Lv) (v : Value) (ts : List T) (tight : Bool × Int) (gg c' : Nat) : Prop where
  h : Scan base w R s pos (.slice (some ⟨g, 0, none⟩) (L.length + 1) cap) (L ++ [(v, ts)]) tight
  hW : Below w.heap.size w W
  hgrow : W.grownBy w1 v.ownBlock
  hat : v.ownBlock = some gg ∨ w.heap.size ≤ gg
theorem Grew.ne (k : Grew base w W w1 R s pos g cap L v ts tight gg c') : some g ≠ v.ownBlock ∧ g < w.heap.size ∧ gg ≠ g := by
  have hnd := k.h.nodup
  have hll := (k.h.live_lt g (by simp [live, Value.ownBlock])).2
  rw [live_snoc] at hnd
  obtain ⟨_, _, nd3⟩ := List.nodup_append.1 hnd
  have h1 : some g ≠ v.ownBlock := fun e => nd3 g (by simp [live, Value.ownBlock]) g (by rw [← e]; simp) rfl
  refine ⟨h1, hll, fun e => ?_⟩
  subst e
  rcases k.hat with h | h
  · exact h1 h.symm
  · omega
theorem Grew.open1 (k : Grew base w W w1 R s pos g cap L v ts tight gg c') : w1.ownsRow base 22 1 (.slice (some ⟨g, 0, none⟩) (L.length + 1) cap) (L.length + 1) (L.map (·.1) ++ [v]) := by
  have h := k.h.rows
  simp only [List.length_append, List.length_cons, List.length_nil, List.map_append, List.map_cons, List.map_nil] at h
  refine own_same h fun b hb => ?_
  have e : b = g := by simpa [Value.ownBlock] using hb.symm
  subst e
  exact (k.hgrow.block b (Nat.lt_of_lt_of_le k.ne.2.1 k.hW.size) k.ne.1).trans (k.hW.block b k.ne.2.1)
theorem Grew.same (k : Grew base w W w1 R s pos g cap L v ts tight gg c') : ∀ b, b < w.heap.size → some b ≠ v.ownBlock → w1.heap[b]? = w.heap[b]? := fun b hb hne =>
  (k.hgrow.block b (Nat.lt_of_lt_of_le hb k.hW.size) hne).trans (k.hW.block b hb)
theorem Grew.size (k : Grew base w W w1 R s pos g cap L v ts tight gg c') : w.heap.size ≤ w1.heap.size := Nat.le_trans k.hW.size k.hgrow.size
theorem Grew.below (k : Grew base w W w1 R s pos g cap L v ts tight gg c') : Below base w w1 :=
  ⟨k.hgrow.os.trans k.hW.os, k.hgrow.tape.trans k.hW.tape, k.hgrow.output.trans k.hW.output, k.size, fun b hb => k.same b (Nat.lt_of_lt_of_le hb k.h.hw) fun e => by
    have := (k.h.live_lt b (by rw [live_snoc, ← e]; simp)).1; omega⟩
theorem Grew.ggb (k : Grew base w W w1 R s pos g cap L v ts tight gg c') : base ≤ gg := by
  rcases k.hat with e | e
  · exact (k.h.live_lt gg (by rw [live_snoc, e]; simp)).1
  · exact Nat.le_trans k.h.hw e
theorem Grew.gb (k : Grew base w W w1 R s pos g cap L v ts tight gg c') : base ≤ g := (k.h.live_lt g (by simp [live, Value.ownBlock])).1

/-- The form's cells were appended, then the slice was stored. -/
theorem Grew.one (k : Grew base w W w1 R s pos g cap L v ts tight gg c') (ht : In w t) (hoff : ∀ b, On t b → b ∉ live R (.slice (some ⟨g, 0, none⟩) (L.length + 1) cap) (L ++ [(v, ts)])) (hbt : ∀ b, On t b → base ≤ b)
    (hown : w1.ownsRow base 29 4 (.slice (some ⟨gg, 0, none⟩) (ts.length + 1) c') (ts.length + 1) (cellsT (ts ++ [t]))) :
    Added base w (w1.setCell ⟨g, L.length, none⟩ (.slice (some ⟨gg, 0, none⟩) (ts.length + 1) c')) R s pos (.slice (some ⟨g, 0, none⟩) (L.length + 1) cap) L (ts ++ [t]) tight := by
  refine ⟨k.below.setCell (p := ⟨g, L.length, none⟩) k.gb _, _, k.h.top ht hoff hbt (gg := gg) (c' := c') ?_ ?_ ?_ k.hat (by simpa using k.size)⟩
  · exact ownsRow_setCell_other hown (by simp [Value.ownBlock]; exact k.ne.2.2) _
  · have h := (k.open1.stored L.length (.slice (some ⟨gg, 0, none⟩) (ts.length + 1) c')).1
    rw [show (L.map (·.1) ++ [v]).set L.length (.slice (some ⟨gg, 0, none⟩) (ts.length + 1) c') = L.map (·.1) ++ [.slice (some ⟨gg, 0, none⟩) (ts.length + 1) c'] by
      have := set_last (L.map (·.1)) v (.slice (some ⟨gg, 0, none⟩) (ts.length + 1) c')
      rwa [List.length_map] at this] at h
    exact h
  · intro b hb hg hv
    rw [Below.heap_setCell _ _ _ _ hg]
    exact k.same b hb hv

/-- A zero was appended, the slice was stored, then the form's cells. -/
theorem Grew.two (k : Grew base w W w1 R s pos g cap L v ts tight gg c') (ht : In w t) (hoff : ∀ b, On t b → b ∉ live R (.slice (some ⟨g, 0, none⟩) (L.length + 1) cap) (L ++ [(v, ts)])) (hbt : ∀ b, On t b → base ≤ b) {z0 z1 z2 z3 : Value}
    (hown : w1.ownsRow base 29 4 (.slice (some ⟨gg, 0, none⟩) (ts.length + 1) c') (ts.length + 1) (cellsT ts ++ [z0, z1, z2, z3])) :
    Added base w (((((w1.setCell ⟨g, L.length, none⟩ (.slice (some ⟨gg, 0, none⟩) (ts.length + 1) c')).setCell ⟨gg, ts.length * 4, none⟩ (.int .i64 t.kd)).setCell ⟨gg, ts.length * 4 + 1, none⟩ (.int .i64 t.nn)).setCell ⟨gg, ts.length * 4 + 2, none⟩ (.string t.tx)).setCell ⟨gg, ts.length * 4 + 3, none⟩ (.slice t.ad t.ks.length t.cp))
      R s pos (.slice (some ⟨g, 0, none⟩) (L.length + 1) cap) L (ts ++ [t]) tight := by
  have hb := k.ggb
  refine ⟨((((k.below.setCell (p := ⟨g, L.length, none⟩) k.gb _).setCell (p := ⟨gg, ts.length * 4, none⟩) hb _).setCell (p := ⟨gg, ts.length * 4 + 1, none⟩) hb _).setCell (p := ⟨gg, ts.length * 4 + 2, none⟩) hb _).setCell (p := ⟨gg, ts.length * 4 + 3, none⟩) hb _, _, k.h.top ht hoff hbt (gg := gg) (c' := c') ?_ ?_ ?_ k.hat (by simpa using k.size)⟩
  · have h0 := ownsRow_setCell_other (a := ⟨g, L.length, none⟩) hown (by simp [Value.ownBlock]; exact k.ne.2.2) (.slice (some ⟨gg, 0, none⟩) (ts.length + 1) c')
    have h4 := ((((h0.stored (ts.length * 4) (.int .i64 t.kd)).1.stored (ts.length * 4 + 1) (.int .i64 t.nn)).1.stored (ts.length * 4 + 2) (.string t.tx)).1.stored (ts.length * 4 + 3) (.slice t.ad t.ks.length t.cp)).1
    rw [set4 _ _ (cellsT_length ts)] at h4
    rw [cellsT_append]
    exact h4
  · have h := (k.open1.stored L.length (.slice (some ⟨gg, 0, none⟩) (ts.length + 1) c')).1
    rw [show (L.map (·.1) ++ [v]).set L.length (.slice (some ⟨gg, 0, none⟩) (ts.length + 1) c') = L.map (·.1) ++ [.slice (some ⟨gg, 0, none⟩) (ts.length + 1) c'] by
      have := set_last (L.map (·.1)) v (.slice (some ⟨gg, 0, none⟩) (ts.length + 1) c')
      rwa [List.length_map] at this] at h
    have hne : ∀ o : Nat, (Value.slice (some ⟨g, 0, none⟩) (L.length + 1) cap).ownBlock ≠ some (⟨gg, o, none⟩ : Addr).block := fun o => by
      simp [Value.ownBlock]; exact fun e => k.ne.2.2 e.symm
    exact ownsRow_setCell_other (ownsRow_setCell_other (ownsRow_setCell_other (ownsRow_setCell_other h (hne _) _) (hne _) _) (hne _) _) (hne _) _
  · intro b hb hg hv
    have hgg : b ≠ gg := by
      intro e; subst e
      rcases k.hat with e | e
      · exact hv e.symm
      · omega
    rw [Below.heap_setCell _ _ _ _ hgg, Below.heap_setCell _ _ _ _ hgg, Below.heap_setCell _ _ _ _ hgg, Below.heap_setCell _ _ _ _ hgg, Below.heap_setCell _ _ _ _ hg]
    exact k.same b hb hv
end
section
variable {base : Nat} {w : World} {R : Nat} {s : ByteArray} {pos : Nat} {g n cap : Nat} {L : List Lv} {tight : Bool × Int}
/-- The innermost level goes. -/
theorem Scan.pop {va : Option Addr} {vc : Nat} {ts : List T} (h : Scan base w R s pos (.slice (some ⟨g, 0, none⟩) (L.length + 1) cap) (L ++ [(.slice va ts.length vc, ts)]) tight) (hlen : ts.length ≤ 1000000) :
    Scan base (w.setCell ⟨R, 2, none⟩ (.slice (some ⟨g, 0, none⟩) L.length cap)) R s pos (.slice (some ⟨g, 0, none⟩) L.length cap) L tight ∧ In w (T.mk 3 0 ⟨#[]⟩ va vc ts) ∧
      (∀ b, On (T.mk 3 0 ⟨#[]⟩ va vc ts) b → b ∉ live R (.slice (some ⟨g, 0, none⟩) L.length cap) L) ∧ (∀ b, On (T.mk 3 0 ⟨#[]⟩ va vc ts) b → base ≤ b) := by
  have hnd := h.nodup
  have hll := h.live_lt
  have hlv := h.lvl
  rw [live_snoc] at hnd hll hlv
  obtain ⟨nd1, nd2, nd3⟩ := List.nodup_append.1 hnd
  have htop := hlv (.slice va ts.length vc, ts) (by simp)
  refine ⟨⟨heap_setCell_same w R 2 _ _ _ h.blk, ?_, fun p hp => ?_, by rw [live_same R g L.length (L.length + 1)]; exact nd1, h.hR, by simpa using h.hw, fun p hp => h.hi p (List.mem_append_left _ hp)⟩, kids_in htop.1 (fun t ht => (htop.2 t ht).1) hlen, ?_, ?_⟩
  · have hr := h.rows
    simp only [List.length_append, List.length_cons, List.length_nil, List.map_append, List.map_cons, List.map_nil] at hr
    refine ownsRow_setCell_other (ownsRow_pop (by simp) hr) ?_ _
    intro e
    have e' : g = R := by simpa [Value.ownBlock] using e
    subst e'
    simp [live, Value.ownBlock] at nd1
  · have hl := hlv p (List.mem_append_left _ hp)
    refine ⟨ownsRow_setCell_other hl.1 (fun e => ?_) _, fun t ht => ⟨(hl.2 t ht).1.same _ (Nat.lt_succ_self _) fun b hb => Below.heap_setCell _ _ _ _ (fun e => (hl.2 t ht).2 b hb (by rw [e]; simp [live])), fun b hb hm => (hl.2 t ht).2 b hb (List.mem_append_left _ (by rw [live_same R g (L.length + 1) L.length]; exact hm))⟩⟩
    simp only [live, List.nodup_cons] at nd1
    exact nd1.1 (List.mem_append_right _ (List.mem_flatMap.2 ⟨p, hp, by rw [e]; simp⟩))
  · intro b hb hm
    rw [live_same R g L.length (L.length + 1)] at hm
    cases hb with
    | here ha hk =>
      have e : va = some ⟨b, _, _⟩ := ha
      exact nd3 b hm b (by rw [e]; simp [Value.ownBlock]) rfl
    | kid hu ho => exact (htop.2 _ hu).2 b ho (List.mem_append_left _ hm)
  · intro b hb
    cases hb with
    | here ha hk =>
      have e : va = some ⟨b, _, _⟩ := ha
      exact (htop.1.lt b (by rw [e]; rfl)).1
    | kid hu ho => exact h.hi (.slice va ts.length vc, ts) (by simp) _ hu b ho
end
end Go.Proofs.YtedabholcldgbaaGreatDoor.Q
