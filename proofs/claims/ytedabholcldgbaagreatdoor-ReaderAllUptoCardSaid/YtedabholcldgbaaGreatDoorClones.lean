/- slices.Clone at []Form: the library's contract, laid at this program. -/
import Derived.Shelf.SlGeneric
import Derived.Ground.SlgnProg
import Derived.Shelf.SlicesE.Clone
import Derived.Test.YtedabholcldgbaaGreatDoorBlk
import Derived.Test.YtedabholcldgbaaGreatDoorClose
namespace Go.Proofs.YtedabholcldgbaaGreatDoor
open Go.Shelf Go.RowKit Go.Deep
def clone_ren : Go.Shelf.Ren := ⟨fun | 41 => 34 | n => n, fun | 22 => 22 | 23 => 29 | 4 => 4 | n => n, fun | n => n⟩
theorem clone_lays : Go.Proofs.SlLaysE0.n41 Tryz.prog clone_ren := {
  mixed := by kernel_rfl
  f41 := ⟨Tryz.f34.name, by decide, Tryz.func34.trans (congrArg some (by kernel_rfl))⟩
  t4 := Tryz.underlying4
  a4 := Tryz.isAgg4
  z4 := Tryz.sizeOf4
  v4 := Tryz.zeroValue4
  t22 := Tryz.underlying22
  a22 := Tryz.isAgg22
  z22 := Tryz.sizeOf22
  v22 := Tryz.zeroValue22 }
theorem infoForm : ∃ i, Tryz.prog.info? 29 = some i ∧ i.zero = some (.agg #[.int .i64 0, .int .i64 0, .string ⟨#[]⟩, .slice none 0 0]) ∧ i.size = 4 ∧ i.bytes = 56 :=
  ⟨(Tryz.prog.info? 29).get (by kernel_rfl), by kernel_rfl, by kernel_rfl, by kernel_rfl, by kernel_rfl⟩
theorem cellsT_one (ts : List T) : ∀ u ∈ cellsT ts, u.oneCell' = true := by
  intro u h
  simp only [cellsT, List.mem_flatMap] at h
  obtain ⟨t, _, h⟩ := h
  simp only [List.mem_cons, List.not_mem_nil, or_false] at h
  rcases h with rfl | rfl | rfl | rfl <;> rfl
/-- The cells of forms that lie in memory. -/
theorem cellsT_lie {w : World} {b o : Nat} {ts : List T} (h : InL w (some ⟨b, o, none⟩) 0 ts) : ∀ j u, (cellsT ts)[j]? = some u → w.cell? ⟨b, o + j, none⟩ = some u := by
  intro j u hj
  have hlt : j < ts.length * 4 := by
    have := (List.getElem?_eq_some_iff.1 hj).1
    rwa [cellsT_length] at this
  have hq : j / 4 < ts.length := by omega
  obtain ⟨⟨b', o', e, c0, c1, c2, c3⟩, _⟩ := h.at (j / 4) hq
  injection e with e
  injection e with e1 e2 e3
  subst e1 e2
  obtain ⟨g0, g1, g2, g3⟩ := cellsT_get ts (j / 4) hq
  have hr : j % 4 = 0 ∨ j % 4 = 1 ∨ j % 4 = 2 ∨ j % 4 = 3 := by omega
  rcases hr with hr | hr | hr | hr
  · rw [show j / 4 * 4 = j by omega] at g0 c0; rw [c0, ← hj, g0]
  · rw [show j / 4 * 4 + 1 = j by omega] at g1; rw [show o + j / 4 * 4 + 1 = o + j by omega] at c1; rw [c1, ← hj, g1]
  · rw [show j / 4 * 4 + 2 = j by omega] at g2; rw [show o + j / 4 * 4 + 2 = o + j by omega] at c2; rw [c2, ← hj, g2]
  · rw [show j / 4 * 4 + 3 = j by omega] at g3; rw [show o + j / 4 * 4 + 3 = o + j by omega] at c3; rw [c3, ← hj, g3]
theorem clone_any (b o c : Nat) (ks : List T) (w : World) (hI : InL w (some ⟨b, o, none⟩) 0 ks) (hl : ks.length ≤ 1000000) :
    Calls Tryz.prog 34 #[.slice (some ⟨b, o, none⟩) ks.length c] w fun e w' => ∃ v', e = .returned v' ∧ w'.ownsRow w.heap.size 29 4 v' ks.length (cellsT ks) ∧ Below w.heap.size w w' := by
  obtain ⟨i, hi, hz, hs, hb⟩ := infoForm
  exact (AnyE.slices_Clone clone_lays i _ 4 56 hi hz hs hb rfl (by decide) Tryz.sizeOf29 b o ks.length c (cellsT ks) w (cellsT_length ks) (by unfold maxLen; omega) (by omega) (cellsT_lie hI) (cellsT_one ks)).mono fun e w' ⟨v, he, ho, _, hB⟩ => ⟨v, he, ho, hB⟩
end Go.Proofs.YtedabholcldgbaaGreatDoor
