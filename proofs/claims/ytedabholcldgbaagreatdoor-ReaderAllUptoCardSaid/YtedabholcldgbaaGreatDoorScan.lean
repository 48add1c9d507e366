/- The scanner of the reader: what lies in memory while it reads. -/
import Derived.Test.YtedabholcldgbaaGreatDoorSize
import Derived.Deep.RegionHeld3
import Derived.Deep.RegionLaw
import Derived.Deep.DrawnRows
import Derived.Deep.AppendLies
import Derived.WalkSmall
namespace Go.Proofs.YtedabholcldgbaaGreatDoor
open Go.RowKit Go.Deep

/-- A level: its slice and its forms. -/
abbrev Lv := Value × List T
def cellsT (ts : List T) : List Value := ts.flatMap fun t => [.int .i64 t.kd, .int .i64 t.nn, .string t.tx, .slice t.ad t.ks.length t.cp]
theorem cellsT_append (xs ys : List T) : cellsT (xs ++ ys) = cellsT xs ++ cellsT ys := by simp [cellsT]
theorem cellsT_length : ∀ xs : List T, (cellsT xs).length = xs.length * 4
  | [] => rfl
  | x :: xs => by
    have := cellsT_length xs
    simp only [cellsT, List.flatMap_cons, List.length_append, List.length_cons, List.length_nil] at *
    omega
theorem cellsT_get : ∀ (xs : List T) (j : Nat) (h : j < xs.length), (cellsT xs)[j * 4]? = some (.int .i64 xs[j].kd) ∧ (cellsT xs)[j * 4 + 1]? = some (.int .i64 xs[j].nn) ∧ (cellsT xs)[j * 4 + 2]? = some (.string xs[j].tx) ∧ (cellsT xs)[j * 4 + 3]? = some (.slice xs[j].ad xs[j].ks.length xs[j].cp)
  | x :: xs, 0, _ => by simp [cellsT]
  | x :: xs, j + 1, h => by
    have ih := cellsT_get xs j (by simpa using h)
    have e : cellsT (x :: xs) = [.int .i64 x.kd, .int .i64 x.nn, .string x.tx, .slice x.ad x.ks.length x.cp] ++ cellsT xs := by simp [cellsT]
    rw [e]
    refine ⟨?_, ?_, ?_, ?_⟩
    · rw [List.getElem?_append_right (by simp; omega), show (j + 1) * 4 - List.length [Value.int .i64 x.kd, .int .i64 x.nn, .string x.tx, .slice x.ad x.ks.length x.cp] = j * 4 by simp; omega]; simpa using ih.1
    · rw [List.getElem?_append_right (by simp; omega), show (j + 1) * 4 + 1 - List.length [Value.int .i64 x.kd, .int .i64 x.nn, .string x.tx, .slice x.ad x.ks.length x.cp] = j * 4 + 1 by simp; omega]; simpa using ih.2.1
    · rw [List.getElem?_append_right (by simp; omega), show (j + 1) * 4 + 2 - List.length [Value.int .i64 x.kd, .int .i64 x.nn, .string x.tx, .slice x.ad x.ks.length x.cp] = j * 4 + 2 by simp; omega]; simpa using ih.2.2.1
    · rw [List.getElem?_append_right (by simp; omega), show (j + 1) * 4 + 3 - List.length [Value.int .i64 x.kd, .int .i64 x.nn, .string x.tx, .slice x.ad x.ks.length x.cp] = j * 4 + 3 by simp; omega]; simpa using ih.2.2.2

/-- The blocks that may still be written. -/
def live (R : Nat) (ov : Value) (L : List Lv) : List Nat := R :: (ov.ownBlock.toList ++ L.flatMap fun p => p.1.ownBlock.toList)
/-- What lies in memory while a text is read. -/
structure Scan (base : Nat) (w : World) (R : Nat) (s : ByteArray) (pos : Nat) (ov : Value) (L : List Lv) (tight : Bool) : Prop where
  blk : w.heap[R]? = some (.cells #[.string s, .int .i64 pos, ov, .bool tight] 94 (0, 0))
  rows : w.ownsRow base 22 1 ov L.length (L.map (·.1))
  lvl : ∀ p ∈ L, w.ownsRow base 29 4 p.1 p.2.length (cellsT p.2) ∧ ∀ t ∈ p.2, In w t ∧ ∀ b, On t b → b ∉ live R ov L
  nodup : (live R ov L).Nodup
  hR : base ≤ R
  hw : base ≤ w.heap.size
  hi : ∀ p ∈ L, ∀ t ∈ p.2, ∀ b, On t b → base ≤ b

theorem Scan.live_lt {base : Nat} {w : World} {R : Nat} {s : ByteArray} {pos : Nat} {ov : Value} {L : List Lv} {tight : Bool} (h : Scan base w R s pos ov L tight) : ∀ b ∈ live R ov L, base ≤ b ∧ b < w.heap.size := by
  intro b hb
  simp only [live, List.mem_cons, List.mem_append, List.mem_flatMap, Option.mem_toList] at hb
  rcases hb with rfl | hb | ⟨p, hp, hb⟩
  · exact ⟨h.hR, lt_of_block h.blk⟩
  · exact h.rows.lt b hb
  · exact (h.lvl p hp).1.lt b hb
/-- Nothing of it turned. -/
theorem Scan.below {base : Nat} {w w' : World} {R : Nat} {s : ByteArray} {pos : Nat} {ov : Value} {L : List Lv} {tight : Bool} (h : Scan base w R s pos ov L tight) (hb : Below w.heap.size w w') : Scan base w' R s pos ov L tight := by
  have hg : w.grownBy w' none := ⟨hb.os, hb.tape, hb.output, hb.size, fun k hk _ => hb.block k hk⟩
  have hk : ∀ (v : Value), v.ownBlock = none ∨ v.ownBlock ≠ none := fun v => by cases v.ownBlock <;> simp
  refine ⟨(hb.block R (lt_of_block h.blk)).trans h.blk, h.rows.kept hg (hk _), fun p hp => ⟨(h.lvl p hp).1.kept hg (hk _), fun t ht => ⟨((h.lvl p hp).2 t ht).1.below hb, ((h.lvl p hp).2 t ht).2⟩⟩, h.nodup, h.hR, Nat.le_trans h.hw hb.size, h.hi⟩

theorem info27 : (Tryz.prog.info? 29).map (fun i => (i.zero, i.size, i.bytes)) = some (some (.agg #[.int .i64 0, .int .i64 0, .string ⟨#[]⟩, .slice none 0 0]), 4, 56) := by kernel_rfl
theorem info22 : (Tryz.prog.info? 22).map (fun i => (i.zero, i.size, i.bytes)) = some (some (.slice none 0 0), 1, 24) := by kernel_rfl

theorem own_same {w w' : World} {base : Nat} {e : TypeId} {size : Nat} {v : Value} {n : Nat} {xs : List Value} (h : w.ownsRow base e size v n xs) (hs : ∀ k, v.ownBlock = some k → w'.heap[k]? = w.heap[k]?) : w'.ownsRow base e size v n xs := by
  obtain ⟨h1, h2⟩ := h
  refine ⟨h1, ?_⟩
  rcases h2 with h2 | ⟨g, cap, cur, hv, hg, hh, r⟩
  · exact .inl h2
  · subst hv
    exact .inr ⟨g, cap, cur, rfl, hg, (hs g rfl).trans hh, r⟩
theorem live_snoc (R : Nat) (ov : Value) (L : List Lv) (v : Value) (ts : List T) : live R ov (L ++ [(v, ts)]) = live R ov L ++ v.ownBlock.toList := by
  simp [live]
/-- The top level has another form more. -/
theorem Scan.top {base : Nat} {w w' : World} {R : Nat} {s : ByteArray} {pos : Nat} {g cap : Nat} {L : List Lv} {v : Value} {ts : List T} {tight : Bool} {t : T} {gg c' : Nat}
    (h : Scan base w R s pos (.slice (some ⟨g, 0, none⟩) (L.length + 1) cap) (L ++ [(v, ts)]) tight) (ht : In w t) (hoff : ∀ b, On t b → b ∉ live R (.slice (some ⟨g, 0, none⟩) (L.length + 1) cap) (L ++ [(v, ts)])) (hbt : ∀ b, On t b → base ≤ b)
    (hrow : w'.ownsRow base 29 4 (.slice (some ⟨gg, 0, none⟩) (ts.length + 1) c') (ts.length + 1) (cellsT (ts ++ [t])))
    (hopen : w'.ownsRow base 22 1 (.slice (some ⟨g, 0, none⟩) (L.length + 1) cap) (L.length + 1) (L.map (·.1) ++ [.slice (some ⟨gg, 0, none⟩) (ts.length + 1) c']))
    (hsame : ∀ k, k < w.heap.size → k ≠ g → some k ≠ v.ownBlock → w'.heap[k]? = w.heap[k]?) (hat : v.ownBlock = some gg ∨ w.heap.size ≤ gg) (hsz : w.heap.size ≤ w'.heap.size) :
    Scan base w' R s pos (.slice (some ⟨g, 0, none⟩) (L.length + 1) cap) (L ++ [(.slice (some ⟨gg, 0, none⟩) (ts.length + 1) c', ts ++ [t])]) tight := by
  have hll := h.live_lt
  have hnd := h.nodup
  rw [live_snoc] at hnd hll hoff
  have hgl : g ∈ live R (.slice (some ⟨g, 0, none⟩) (L.length + 1) cap) L := by simp [live, Value.ownBlock]
  have hRl : R ∈ live R (.slice (some ⟨g, 0, none⟩) (L.length + 1) cap) L := by simp [live]
  obtain ⟨nd1, nd2, nd3⟩ := List.nodup_append.1 hnd
  have hRg : R ≠ g := by
    intro e; subst e
    simp [live, Value.ownBlock] at nd1
  have notv : ∀ k, k ∈ live R (.slice (some ⟨g, 0, none⟩) (L.length + 1) cap) L → some k ≠ v.ownBlock := fun k hk e => nd3 k hk k (by rw [← e]; simp) rfl
  have hgn : gg ∉ live R (.slice (some ⟨g, 0, none⟩) (L.length + 1) cap) L := by
    intro hm
    rcases hat with e | e
    · exact notv gg hm e.symm
    · have := (hll gg (by simp [hm])).2; omega
  have hin : ∀ x, In w x → (∀ b, On x b → b ∉ live R (.slice (some ⟨g, 0, none⟩) (L.length + 1) cap) L ++ v.ownBlock.toList) → In w' x := fun x hx ho =>
    hx.same _ (Nat.lt_succ_self _) fun b hb => hsame b (hx.lt hb) (fun e => ho b hb (by rw [e]; exact List.mem_append_left _ hgl)) (fun e => ho b hb (by rw [← e]; simp))
  have hof : ∀ x, In w x → (∀ b, On x b → b ∉ live R (.slice (some ⟨g, 0, none⟩) (L.length + 1) cap) L ++ v.ownBlock.toList) → ∀ b, On x b → b ∉ live R (.slice (some ⟨g, 0, none⟩) (L.length + 1) cap) L ++ [gg] := fun x hx ho b hb hm => by
    rcases List.mem_append.1 hm with hm | hm
    · exact ho b hb (List.mem_append_left _ hm)
    · have e : b = gg := by simpa using hm
      rcases hat with e' | e'
      · exact ho b hb (List.mem_append_right _ (by rw [e', e]; simp))
      · have := hx.lt hb; omega
  refine ⟨?_, by simpa using hopen, ?_, ?_, h.hR, Nat.le_trans h.hw hsz, ?_⟩
  · rw [hsame R (lt_of_block h.blk) hRg (notv R hRl)]; exact h.blk
  · intro p hp
    rw [live_snoc]
    rcases List.mem_append.1 hp with hp | hp
    · have hl := h.lvl p (List.mem_append_left _ hp)
      rw [live_snoc] at hl
      refine ⟨own_same hl.1 fun k hk => ?_, fun x hx => ⟨hin x (hl.2 x hx).1 (hl.2 x hx).2, hof x (hl.2 x hx).1 (hl.2 x hx).2⟩⟩
      have hkl : k ∈ live R (.slice (some ⟨g, 0, none⟩) (L.length + 1) cap) L := by
        simp only [live, List.mem_cons, List.mem_append, List.mem_flatMap]
        exact .inr (.inr ⟨p, hp, by rw [hk]; simp⟩)
      refine hsame k (hll k (List.mem_append_left _ hkl)).2 (fun e => ?_) (notv k hkl)
      subst e
      have : k ∈ L.flatMap fun p => p.1.ownBlock.toList := List.mem_flatMap.2 ⟨p, hp, by rw [hk]; simp⟩
      simp only [live, Value.ownBlock, Option.toList, List.nodup_cons, List.singleton_append] at nd1
      exact nd1.2.1 this
    · have e : p = (.slice (some ⟨gg, 0, none⟩) (ts.length + 1) c', ts ++ [t]) := by simpa using hp
      subst e
      refine ⟨by simpa using hrow, fun x hx => ?_⟩
      have hl := h.lvl (v, ts) (by simp)
      rw [live_snoc] at hl
      rcases List.mem_append.1 hx with hx | hx
      · exact ⟨hin x (hl.2 x hx).1 (hl.2 x hx).2, hof x (hl.2 x hx).1 (hl.2 x hx).2⟩
      · have e : x = t := by simpa using hx
        subst e
        exact ⟨hin x ht hoff, hof x ht hoff⟩
  · rw [live_snoc]
    exact List.nodup_append.2 ⟨nd1, by simp [Value.ownBlock], fun a ha b hb e => hgn (by
      have : b = gg := by simpa [Value.ownBlock] using hb
      rw [← this, ← e]; exact ha)⟩
  · intro p hp x hx b hb
    rcases List.mem_append.1 hp with hp | hp
    · exact h.hi p (List.mem_append_left _ hp) x hx b hb
    · have e : p = (.slice (some ⟨gg, 0, none⟩) (ts.length + 1) c', ts ++ [t]) := by simpa using hp
      subst e
      rcases List.mem_append.1 hx with hx | hx
      · exact h.hi (v, ts) (by simp) x hx b hb
      · have e : x = t := by simpa using hx
        subst e
        exact hbt b hb

theorem heap_new3 (w : World) (o1 o2 o3 : Obj) : (((w.alloc o1).alloc o2).alloc o3).heap[w.heap.size + 2]? = some o3 := by
  have h := heap_alloc_new ((w.alloc o1).alloc o2) o3
  rwa [show ((w.alloc o1).alloc o2).heap.size = w.heap.size + 2 by simp] at h
end Go.Proofs.YtedabholcldgbaaGreatDoor
