/- The document's Sort: append of a stretch of forms, and what an insertion leaves in memory. -/
import Derived.Test.YtedabholcldgbaaGreatDoorSoPure
namespace Go.Proofs.YtedabholcldgbaaGreatDoor.So
open Go.RowKit Go.Deep

/-- append of a stretch of forms. -/
theorem own4_more {ops : Array Oper} {rest : List Oper} {o : Oper} {a : Act} {Q : Exit → Act → World → Prop} (hgd : o.guard = none) (s x : Operand) (t : TypeId)
    (ho : o.op = .call { callee := .builtin .append, args := #[s, x], argTypes := #[t, t] }) (ht : Tryz.prog.underlying t = some (.slice 29))
    {B : Nat} {w0 w : World} {v : Value} {us : List T} (hs : a.eval s = v) (hb : Own4 B w0 w v us) (xs : List T) (b off n c : Nat)
    (hx : a.eval x = .slice (some ⟨b, off, none⟩) n c) (hn : xs.length = n) (hc : ∀ j u, (cellsT xs)[j]? = some u → w.cell? ⟨b, off + j, none⟩ = some u) (hlen : us.length + n ≤ 1000000)
    (h : ∀ v' w', Own4 B w0 w' v' (us ++ xs) → w.grownBy w' v.ownBlock → wpList Tryz.prog ops Q rest (a.put o.dst v') w') : wpList Tryz.prog ops Q (o :: rest) a w := by
  subst hn
  obtain ⟨i0, hi0, hz0, hz1, hz2⟩ := info_parts info27
  refine wpList_append_own _ hgd s x t ho B 29 i0 _ 4 56 ht hi0 hz0 hz1 hz2 rfl (by decide) v us.length (cellsT us) hs hb.own ⟨b, off, none⟩ xs.length c (cellsT xs) hx (cellsT_length xs) (fun j u hj => ?_) (cellsT_oneC xs) (by unfold maxLen; omega) (by omega) hb.le ?_
  · rw [Addr.add_lit]; exact hc j u hj
  · intro v' w' ho' hg _
    refine h v' w' ⟨?_, ?_, ?_⟩ hg
    · rw [List.length_append, cellsT_append]; exact ho'
    · exact hb.below.grown hg hb.le fun k hk => (hb.own.lt k hk).1
    · have := hg.size; have := hb.le; omega
theorem own4_cells {B : Nat} {w0 w : World} {g cap : Nat} {us : List T} (h : Own4 B w0 w (.slice (some ⟨g, 0, none⟩) us.length cap) us) (a m : Nat) (hm : a + m ≤ us.length) : ∀ j u, (cellsT ((us.drop a).take m))[j]? = some u → w.cell? ⟨g, a * 4 + j, none⟩ = some u := by
  intro j u hj
  have hl : ((us.drop a).take m).length = m := by rw [List.length_take, List.length_drop]; omega
  have hjm : j < m * 4 := by
    have := (List.getElem?_eq_some_iff.1 hj).1
    rwa [cellsT_length, hl] at this
  have hc := h.own.cellAt (a * 4 + j) (by omega)
  rw [hc]
  have e : us = us.take a ++ ((us.drop a).take m ++ (us.drop a).drop m) := by rw [List.take_append_drop, List.take_append_drop]
  have hta : (cellsT (us.take a)).length = a * 4 := by rw [cellsT_length, List.length_take]; rw [Nat.min_eq_left (by omega)]
  have e2 : cellsT us = cellsT (us.take a) ++ (cellsT ((us.drop a).take m) ++ cellsT ((us.drop a).drop m)) := by rw [← cellsT_append, ← cellsT_append, ← e]
  rw [e2, List.getElem?_append_right (by omega), hta, Nat.add_sub_cancel_left, List.getElem?_append_left (by rw [cellsT_length, hl]; exact hjm)]
  exact hj
/-- The document's list so far. -/
structure Out (w wr : World) (ts : List T) (k : Nat) (v : Value) (us : List T) : Prop where
  own : Own4 w.heap.size w wr v us
  ins : ∀ u ∈ us, In wr u
  srt : SortedOf (ts.take k) us
  len : us.length ≤ k
theorem Out.start (w : World) (ts : List T) : Out w w ts 0 (.slice none 0 0) [] := ⟨Own4.start (Nat.le_refl _), by simp, ⟨List.Pairwise.nil, by simp, by simp⟩, Nat.le_refl _⟩
theorem Out.next {w wr w' : World} {ts us : List T} {k : Nat} {v : Value} (h : Out w wr ts k v us) (hb : Below wr.heap.size wr w') : Out w w' ts k v us :=
  ⟨h.own.next hb, fun u hu => (h.ins u hu).below hb, h.srt, h.len⟩
theorem Out.skip {w wr : World} {ts us : List T} {k a : Nat} {v : Value} (h : Out w wr ts k v us) (hk : k < ts.length) (ha : a < us.length) (he : cT us[a] ts[k] = 0) : Out w wr ts (k + 1) v us :=
  ⟨h.own, h.ins, h.srt.skip hk ha he, Nat.le_succ_of_le h.len⟩
theorem keep1 {B : Nat} {W1 W3 W4 W5 : World} {v3 v5 : Value} {xs : List T} {u : T} (h3 : Own4 B W1 W3 v3 xs) (hi : In W4 u) (hf : ∀ b, On u b → W3.heap.size ≤ b) (hg : (W4.alloc (boxO u)).grownBy W5 v3.ownBlock) (hv : v5.ownBlock = v3.ownBlock ∨ ∀ g, v5.ownBlock = some g → W4.heap.size < g) :
    In W5 u ∧ ∀ b, On u b → v5.ownBlock ≠ some b := by
  have hn : ∀ b, On u b → v3.ownBlock ≠ some b := fun b hb e => by
    have h1 := (h3.own.lt b e).2
    have h2 := hf b hb
    omega
  refine ⟨(hi.alloc (boxO u)).same _ (Nat.lt_succ_self _) fun b hb => hg.block b (by have := hi.lt hb; simp; omega) fun e => hn b hb e.symm, fun b hb e => ?_⟩
  rcases hv with hv | hv
  · exact hn b hb (by rw [← hv]; exact e)
  · have h1 := hv b e
    have h2 := hi.lt hb
    omega
theorem keep2 {W5 W6 : World} {v5 : Value} {u : T} (h : In W5 u ∧ ∀ b, On u b → v5.ownBlock ≠ some b) (hg : W5.grownBy W6 v5.ownBlock) : In W6 u :=
  h.1.same _ (Nat.lt_succ_self _) fun b hb => hg.block b (h.1.lt hb) fun e => h.2 b hb e.symm
/-- One is put. -/
theorem Out.put {w wr W1 W6 : World} {ts us : List T} {k a : Nat} {v v6 : Value} {u : T} (h : Out w wr ts k v us) (hk : k < ts.length) (ha : a ≤ us.length) (hu : u.form = ts[k].form) (h1 : ∀ x (hx : x < us.length), x < a → cT us[x] ts[k] < 0) (h2 : ∀ hx : a < us.length, 0 < cT us[a] ts[k])
    (hB : Below wr.heap.size wr W1) (o : Own4 W1.heap.size W1 W6 v6 (us.take a ++ [u] ++ us.drop a)) (hi : In W6 u) : Out w W6 ts (k + 1) v6 (us.take a ++ [u] ++ us.drop a) := by
  have hs := hB.size
  have hle := h.own.le
  refine ⟨⟨Joins.ownsRow_le o.own (by omega), (h.own.below.trans (hB.mono hle)).trans (o.below.mono (by omega)), by have := o.le; omega⟩, fun x hx => ?_, h.srt.put hk hu ha h1 h2, ?_⟩
  · rcases List.mem_append.1 hx with hx | hx
    · rcases List.mem_append.1 hx with hx | hx
      · exact ((h.ins x (List.mem_of_mem_take hx)).below hB).below o.below
      · rw [List.mem_singleton] at hx; rw [hx]; exact hi
    · exact ((h.ins x (List.mem_of_mem_drop hx)).below hB).below o.below
  · simp only [List.length_append, List.length_take, List.length_drop, List.length_singleton]
    have := h.len
    omega
theorem Out.ends {w wr : World} {ts us : List T} {v : Value} {k : Nat} (h : Out w wr ts k v us) (hk : ts.length ≤ k) (hl : ts.length ≤ 1000000) (hle : us.length ≤ ts.length) : SortEnd w wr ts (.returned v) := by
  obtain ⟨va, vc, rfl, hi⟩ := own4_slice h.own h.ins (by omega)
  refine ⟨va, vc, us, rfl, hi, ?_, hle, h.own.below⟩
  have := h.srt
  rwa [List.take_of_length_le hk] at this
end Go.Proofs.YtedabholcldgbaaGreatDoor.So
