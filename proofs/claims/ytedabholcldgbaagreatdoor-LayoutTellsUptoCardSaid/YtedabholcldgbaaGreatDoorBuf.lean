/- Bytes that a call owns, carried from append to append. -/
import Derived.Test.YtedabholcldgbaaGreatDoorText
import Derived.Test.YtedabholcldgbaaGreatDoorTxt
import Derived.Lib.AppendStr
import Derived.Lib.BufferKept
namespace Go.Proofs.YtedabholcldgbaaGreatDoor
open Go.RowKit Go.Deep

/-- The slice v owns the bytes l, from block B on. Since w0 nothing below B has turned, and no block but those of bytes. -/
structure Buf (B : Nat) (w0 w : World) (v : Value) (l : List UInt8) : Prop where
  own : w.ownsRow B 5 1 v l.length (bytesV l)
  below : Below B w0 w
  kept : Lib.OthersKept 5 none w0 w
  le : B ≤ w.heap.size
theorem Buf.start {B : Nat} {w : World} (h : B ≤ w.heap.size) : Buf B w w (.slice none 0 0) [] := ⟨World.ownsRow_nil _ _ _ _, Below.refl _ _, Lib.OthersKept.refl _ _ _, h⟩
theorem Buf.back {B : Nat} {w0 w : World} {v : Value} {l : List UInt8} (h : Buf B w0 w v l) : Buf B w w v l := ⟨h.own, Below.refl _ _, Lib.OthersKept.refl _ _ _, h.le⟩
theorem Buf.trans {B : Nat} {w0 w w' : World} {v v' : Value} {l l' : List UInt8} (h : Buf B w0 w v l) (k : Buf B w w' v' l') : Buf B w0 w' v' l' := ⟨k.own, h.below.trans k.below, h.kept.trans k.kept, k.le⟩
theorem Buf.alloc {B : Nat} {w0 w : World} {v : Value} {l : List UInt8} (h : Buf B w0 w v l) (o : Obj) : Buf B w0 (w.alloc o) v l :=
  ⟨h.own.alloc o, h.below.alloc h.le o, h.kept.alloc o, Nat.le_trans h.le (by simp)⟩
/-- Behind what turned nothing that was there. -/
theorem Buf.next {B : Nat} {w0 w w' : World} {v : Value} {l : List UInt8} (h : Buf B w0 w v l) (hb : Below w.heap.size w w') : Buf B w0 w' v l :=
  ⟨own_same h.own fun k hk => hb.block k (h.own.lt k hk).2, h.below.trans (hb.mono h.le), h.kept.below hb, Nat.le_trans h.le hb.size⟩
theorem Buf.isBytes {B : Nat} {w0 w : World} {v : Value} {l : List UInt8} (h : Buf B w0 w v l) : ∀ g, v.ownBlock = some g → ∃ c fz, w.heap[g]? = some (.cells c 5 fz) := by
  intro g hg
  rcases h.own.2 with ⟨rfl, _⟩ | ⟨g', cap, cur, rfl, _, hc, _⟩
  · cases hg
  · simp only [Value.ownBlock, Option.some.injEq] at hg
    subst hg
    exact ⟨_, _, hc⟩
theorem Buf.grown {B : Nat} {w0 w w' : World} {v v' : Value} {l l' : List UInt8} (h : Buf B w0 w v l) (hg : w.grownBy w' v.ownBlock) (ho : w'.ownsRow B 5 1 v' l'.length (bytesV l')) : Buf B w0 w' v' l' :=
  ⟨ho, h.below.grown hg h.le fun b hb => (h.own.lt b hb).1, h.kept.grown hg h.isBytes, Nat.le_trans h.le hg.size⟩
theorem bytesV_append (a b : List UInt8) : bytesV (a ++ b) = bytesV a ++ bytesV b := by simp [bytesV]
theorem bytesV_one (l : List UInt8) : ∀ u ∈ bytesV l, u.oneCell' = true := by
  intro u hu
  simp only [bytesV, List.mem_map] at hu
  obtain ⟨b, _, rfl⟩ := hu
  rfl
/-- append of bytes that were laid for the statement. -/
theorem buf_bytes {ops : Array Oper} {rest : List Oper} {o : Oper} {a : Act} {Q : Exit → Act → World → Prop} (hgd : o.guard = none) (s x : Operand) (t : TypeId)
    (ho : o.op = .call { callee := .builtin .append, args := #[s, x], argTypes := #[t, t] }) (ht : Tryz.prog.underlying t = some (.slice 5))
    {B : Nat} {w0 w : World} {v : Value} {l : List UInt8} (hs : a.eval s = v) (hb : Buf B w0 w v l) (news : List UInt8) (cs : Array Value) (hcs : cs.toList = bytesV news) (m : Nat) (hm : news.length = m) (c A : Nat)
    (hx : a.eval x = .slice (some ⟨A, 0, none⟩) m c) (hA : w.heap.size = A) (hlen : l.length + m ≤ 140737488355328)
    (h : ∀ v' w', Buf B w0 w' v' (l ++ news) → wpList Tryz.prog ops Q rest (a.put o.dst v') w') : wpList Tryz.prog ops Q (o :: rest) a (w.alloc (.cells cs 5)) := by
  subst hA
  obtain ⟨i0, hi0, hz0, hz1, hz2⟩ := info_parts info5
  have hb' := hb.alloc (.cells cs 5)
  have hl : (l ++ news).length = l.length + m := by simp [hm]
  refine wpList_append_own _ hgd s x t ho B 5 i0 (.int .u8 0) 1 1 ht hi0 hz0 hz1 hz2 rfl (by decide) v l.length (bytesV l) hs hb'.own ⟨w.heap.size, 0, none⟩ m c (bytesV news) hx (by simp [bytesV, hm])
    (fun j u hu => World.news_of_block (cs := cs) (t := 5) (fr := (0, 0)) (heap_alloc_new w _) j u (by rw [hcs]; exact hu)) (bytesV_one news) (by unfold maxLen; omega) (by omega) hb'.le ?_
  intro v' w' ho' hg _
  refine h v' w' (hb'.grown hg ?_)
  rw [hl, bytesV_append]
  exact ho'
/-- append of a string's bytes. -/
theorem buf_text {ops : Array Oper} {rest : List Oper} {o : Oper} {a : Act} {Q : Exit → Act → World → Prop} (hgd : o.guard = none) (s x : Operand) (t u : TypeId)
    (ho : o.op = .call { callee := .builtin .append, args := #[s, x], argTypes := #[t, u] }) (ht : Tryz.prog.underlying t = some (.slice 5)) (hu : Tryz.prog.underlying u = some .string)
    {B : Nat} {w0 w : World} {v : Value} {l : List UInt8} (hs : a.eval s = v) (hb : Buf B w0 w v l) (d : ByteArray) (hx : a.eval x = .string d) (hlen : l.length + d.size ≤ 140737488355328)
    (h : ∀ v' w', Buf B w0 w' v' (l ++ d.data.toList) → wpList Tryz.prog ops Q rest (a.put o.dst v') w') : wpList Tryz.prog ops Q (o :: rest) a w := by
  obtain ⟨i0, hi0, hz0, hz1, hz2⟩ := info_parts info5
  have hl : (l ++ d.data.toList).length = l.length + d.size := by simp
  refine Lib.wpList_append_own_string _ hgd s x t u ho B 5 i0 ht hu hi0 hz0 hz1 hz2 v l.length (bytesV l) hs hb.own d hx (by unfold maxLen; omega) (by omega) hb.le ?_
  intro v' w' ho' hg _
  refine h v' w' (hb.grown hg ?_)
  rw [hl, bytesV_append]
  exact ho'
end Go.Proofs.YtedabholcldgbaaGreatDoor
