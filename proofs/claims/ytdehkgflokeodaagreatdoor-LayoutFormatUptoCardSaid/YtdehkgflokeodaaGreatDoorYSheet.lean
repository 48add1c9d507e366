/- layout's sheet: what lies in memory, and what is put behind it. -/
import Derived.Test.YtdehkgflokeodaaGreatDoorBuf
import Derived.Test.YtdehkgflokeodaaGreatDoorWrite
import Derived.Test.YtdehkgflokeodaaGreatDoorRef1
import Derived.Test.YtdehkgflokeodaaGreatDoorYPure
import Derived.Deep.RegionHeld3
namespace Go.Proofs.YtdehkgflokeodaaGreatDoor.Y
open Go.RowKit Go.Deep

/-- The sheet in block S, with its bytes l; nothing of w0 has turned. -/
structure Sh (w0 w : World) (S : Nat) (ov : Value) (wd : Nat) (l : List UInt8) : Prop where
  blk : w.heap[S]? = some (.cells #[ov, .int .i64 wd] 88 (0, 0))
  own : w.ownsRow w0.heap.size 5 1 ov l.length (bytesV l)
  below : Below w0.heap.size w0 w
  hS : w0.heap.size ≤ S
  ne : ov.ownBlock ≠ some S
theorem row_bytes {w : World} {B : Nat} {v : Value} {l : List UInt8} (h : w.ownsRow B 5 1 v l.length (bytesV l)) : ∀ g, v.ownBlock = some g → ∃ c fz, w.heap[g]? = some (.cells c 5 fz) := by
  intro g hg
  rcases h.2 with ⟨rfl, _⟩ | ⟨g', cap, cur, rfl, _, hc, _⟩
  · cases hg
  · simp only [Value.ownBlock, Option.some.injEq] at hg
    subst hg
    exact ⟨_, _, hc⟩
theorem Sh.cells {w0 w : World} {S : Nat} {ov : Value} {wd : Nat} {l : List UInt8} (h : Sh w0 w S ov wd l) : w.cell? ⟨S, 0, none⟩ = some ov ∧ w.cell? ⟨S, 1, none⟩ = some (.int .i64 wd) ∧ w.frozen? ⟨S, 0, none⟩ = false := by
  refine ⟨?_, ?_, ?_⟩ <;> simp [World.cell?, World.frozen?, h.blk]
theorem Sh.next {w0 w w' : World} {S : Nat} {ov : Value} {wd : Nat} {l : List UInt8} (h : Sh w0 w S ov wd l) (hb : Below w.heap.size w w') : Sh w0 w' S ov wd l :=
  ⟨(hb.block S (lt_of_block h.blk)).trans h.blk, own_same h.own fun k hk => hb.block k (h.own.lt k hk).2, upB h.below hb (Nat.le_refl _), h.hS, h.ne⟩
theorem Sh.alloc {w0 w : World} {S : Nat} {ov : Value} {wd : Nat} {l : List UInt8} (h : Sh w0 w S ov wd l) (o : Obj) : Sh w0 (w.alloc o) S ov wd l := h.next (bel1 _ _)
theorem Sh.drew {w0 w : World} {S : Nat} {ov : Value} {wd : Nat} {l : List UInt8} (h : Sh w0 w S ov wd l) : Sh w0 w.drew S ov wd l := h.next (Below.refl _ _).drew
/-- Nothing but the sheet and bytes has turned since w. -/
structure Kept (S : Nat) (w w' : World) : Prop where
  others : Lib.OthersKept 5 (some S) w w'
  size : w.heap.size ≤ w'.heap.size
theorem Kept.refl (S : Nat) (w : World) : Kept S w w := ⟨Lib.OthersKept.refl _ _ _, Nat.le_refl _⟩
theorem Kept.trans {S : Nat} {w w' w'' : World} (h : Kept S w w') (k : Kept S w' w'') : Kept S w w'' := ⟨h.others.trans k.others, Nat.le_trans h.size k.size⟩
theorem Kept.below {S : Nat} {w w' w'' : World} (h : Kept S w w') (hb : Below w'.heap.size w' w'') : Kept S w w'' := ⟨h.others.below hb, Nat.le_trans h.size hb.size⟩
theorem Kept.of {S : Nat} {w w' : World} (hb : Below w.heap.size w w') : Kept S w w' := (Kept.refl S w).below hb
theorem Kept.alloc {S : Nat} {w w' : World} (h : Kept S w w') (o : Obj) : Kept S w (w'.alloc o) := h.below (bel1 _ _)
/-- A boxed form stays. -/
theorem Kept.box {S : Nat} {w w' : World} {n : Nat} {t : T} (h : Kept S w w') (hb : Box4 w n t) (hn : n ≠ S) : Box4 w' n t :=
  h.others n _ hb (fun e => hn (by simpa using e)) (by intro c fz e; injection e with _ e _; exact absurd e (by decide))
/-- Between an append and its store. -/
structure ShMid (w0 w w' : World) (S : Nat) (ov v' : Value) (wd : Nat) (l : List UInt8) : Prop where
  blk : w'.heap[S]? = some (.cells #[ov, .int .i64 wd] 88 (0, 0))
  own : w'.ownsRow w0.heap.size 5 1 v' l.length (bytesV l)
  below : Below w0.heap.size w0 w'
  hS : w0.heap.size ≤ S
  kept : Kept S w w'
theorem ShMid.cells {w0 w w' : World} {S : Nat} {ov v' : Value} {wd : Nat} {l : List UInt8} (h : ShMid w0 w w' S ov v' wd l) : w'.cell? ⟨S, 0, none⟩ = some ov ∧ w'.frozen? ⟨S, 0, none⟩ = false := by
  refine ⟨?_, ?_⟩ <;> simp [World.cell?, World.frozen?, h.blk]
theorem ShMid.ne {w0 w w' : World} {S : Nat} {ov v' : Value} {wd : Nat} {l : List UInt8} (h : ShMid w0 w w' S ov v' wd l) : v'.ownBlock ≠ some S := fun e => by
  obtain ⟨c, fz, hc⟩ := row_bytes h.own S e
  rw [h.blk] at hc
  injection hc with hc
  injection hc with _ hc _
  exact absurd hc (by decide)
theorem row_slice {w : World} {B : Nat} {v : Value} {l : List UInt8} (h : w.ownsRow B 5 1 v l.length (bytesV l)) : ∃ a n c, v = .slice a n c := by
  rcases h.2 with ⟨rfl, _⟩ | ⟨g', cap, cur, rfl, _⟩
  · exact ⟨none, 0, 0, rfl⟩
  · exact ⟨_, _, _, rfl⟩
/-- The store. -/
theorem ShMid.store {w0 w w' : World} {S : Nat} {ov v' : Value} {wd : Nat} {l : List UInt8} (h : ShMid w0 w w' S ov v' wd l) : Sh w0 (w'.setCell ⟨S, 0, none⟩ v') S v' wd l ∧ Kept S w (w'.setCell ⟨S, 0, none⟩ v') := by
  refine ⟨⟨?_, ownsRow_setCell_other h.own (by simpa using h.ne) _, h.below.setCell (p := ⟨S, 0, none⟩) h.hS _, h.hS, h.ne⟩, ⟨h.kept.others.setCell _ rfl _, by simpa using h.kept.size⟩⟩
  simpa using heap_setCell_same w' S 0 _ _ v' h.blk
theorem Sh.grown {w0 w W w' : World} {S : Nat} {ov v' : Value} {wd : Nat} {l l' : List UInt8} (h : Sh w0 W S ov wd l) (hk : Kept S w W) (hg : W.grownBy w' ov.ownBlock) (ho : w'.ownsRow w0.heap.size 5 1 v' l'.length (bytesV l')) : ShMid w0 w w' S ov v' wd l' :=
  ⟨(hg.block S (lt_of_block h.blk) fun e => h.ne e.symm).trans h.blk, ho, h.below.grown hg h.below.size fun b hb => (h.own.lt b hb).1, h.hS, hk.others.grown hg (row_bytes h.own), Nat.le_trans hk.size hg.size⟩
/-- append of bytes that were laid for the statement. -/
theorem sh_bytes {ops : Array Oper} {rest : List Oper} {o : Oper} {a : Act} {Q : Exit → Act → World → Prop} (hgd : o.guard = none) (s x : Operand) (t : TypeId)
    (ho : o.op = .call { callee := .builtin .append, args := #[s, x], argTypes := #[t, t] }) (ht : Tryz.prog.underlying t = some (.slice 5))
    {w0 w : World} {S : Nat} {ov : Value} {wd : Nat} {l : List UInt8} (hs : a.eval s = ov) (hb : Sh w0 w S ov wd l) (news : List UInt8) (cs : Array Value) (hcs : cs.toList = bytesV news) (m : Nat) (hm : news.length = m) (c A : Nat)
    (hx : a.eval x = .slice (some ⟨A, 0, none⟩) m c) (hA : w.heap.size = A) (hlen : l.length + m ≤ 140737488355328)
    (h : ∀ va vn vc w', ShMid w0 w w' S ov (.slice va vn vc) wd (l ++ news) → wpList Tryz.prog ops Q rest (a.put o.dst (.slice va vn vc)) w') : wpList Tryz.prog ops Q (o :: rest) a (w.alloc (.cells cs 5)) := by
  subst hA
  obtain ⟨i0, hi0, hz0, hz1, hz2⟩ := info_parts info5
  have hb' := hb.alloc (.cells cs 5)
  have hl : (l ++ news).length = l.length + m := by simp [hm]
  refine wpList_append_own _ hgd s x t ho w0.heap.size 5 i0 (.int .u8 0) 1 1 ht hi0 hz0 hz1 hz2 rfl (by decide) ov l.length (bytesV l) hs hb'.own ⟨w.heap.size, 0, none⟩ m c (bytesV news) hx (by simp [bytesV, hm])
    (fun j u hu => World.news_of_block (cs := cs) (t := 5) (fr := (0, 0)) (heap_alloc_new w _) j u (by rw [hcs]; exact hu)) (bytesV_one news) (by unfold maxLen; omega) (by omega) hb'.below.size ?_
  intro v' w' ho' hg _
  have hm := hb'.grown (l' := l ++ news) ((Kept.refl S w).alloc _) hg (by rw [hl, bytesV_append]; exact ho')
  obtain ⟨va, vn, vc, rfl⟩ := row_slice hm.own
  exact h va vn vc w' hm
/-- append of a string's bytes, as a step of a region that draws. -/
theorem step_text {ops : Array Oper} {o : Oper} {a : Act} {K : Act → World → Prop} {Q : Exit → Act → World → Prop} {E : Prop} (hgd : o.guard = none) (sl x : Operand) (t u : TypeId)
    (ho : o.op = .call { callee := .builtin .append, args := #[sl, x], argTypes := #[t, u] }) (ht : Tryz.prog.underlying t = some (.slice 5)) (hu : Tryz.prog.underlying u = some .string)
    {w0 w : World} {S : Nat} {ov : Value} {wd : Nat} {l : List UInt8} (hs : a.eval sl = ov) (hb : Sh w0 w S ov wd l) (d : ByteArray) (hx : a.eval x = .string d) (hlen : l.length + d.size ≤ 140737488355328)
    (h : ∀ va vn vc w', ShMid w0 w w' S ov (.slice va vn vc) wd (l ++ d.data.toList) → K (a.put o.dst (.slice va vn vc)) w') : if Region.wanted o (yielded ops a.tmps) = true then Oper.wp Tryz.prog o a w K Q else E := by
  have hw : Region.wanted o (yielded ops a.tmps) = true := by simp [Region.wanted, hgd]
  rw [if_pos hw]
  obtain ⟨i0, hi0, hz0, hz1, hz2⟩ := info_parts info5
  have hl : (l ++ d.data.toList).length = l.length + d.size := by simp
  obtain ⟨v', w', hr, h2, h3, h4⟩ := Lib.run_append_own_string (P := Tryz.prog) w w0.heap.size t u o.type 5 i0 ht hu hi0 hz0 hz1 hz2 ov l.length (bytesV l) hb.own d (by unfold maxLen; omega) (by omega) hb.below.size
  unfold Oper.wp execOp
  simp only [ho, resolve, invoke, builtin, Sem.run_bind, Sem.run_pure, Result.andThen_ok, List.map_toArray, List.map_cons, List.map_nil, hs, hx, hr]
  have hm := hb.grown (l' := l ++ d.data.toList) (Kept.refl S w) h3 (by rw [hl, bytesV_append]; exact h2)
  obtain ⟨va, vn, vc, rfl⟩ := row_slice hm.own
  exact h va vn vc w' hm
/-- What a method of the sheet has done: x stands behind l. -/
def Wrote (w0 w w' : World) (S wd : Nat) (l x : List UInt8) (e : Ending) : Prop := e = .returned (.tuple #[]) ∧ ∃ ov', Sh w0 w' S ov' wd (l ++ x) ∧ Kept S w w'
end Go.Proofs.YtdehkgflokeodaaGreatDoor.Y
