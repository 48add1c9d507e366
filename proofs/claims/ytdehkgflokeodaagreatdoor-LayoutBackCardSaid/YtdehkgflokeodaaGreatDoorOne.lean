/- reader.One and the chapter's example. -/
import Derived.Test.YtdehkgflokeodaaGreatDoorHead
namespace Go.Proofs.YtdehkgflokeodaaGreatDoor
open Go.RowKit Go.Deep

theorem oneDone_one (f : Fm) : oneDone (.ok [f]) = .ok f := rfl
theorem oneDone_other {fs : List Fm} (h : fs.length ≠ 1) : oneDone (.ok fs) = .err 4 := by
  match fs, h with
  | [], _ => rfl
  | [_], h => exact absurd rfl h
  | _ :: _ :: _, _ => rfl
set_option maxHeartbeats 2000000 in
set_option maxRecDepth 100000 in
theorem one_any (s : ByteArray) (w : World) (hs0 : s.size ≤ maxLen) (hg : Glob w) (h6 : 8 ≤ w.heap.size) :
    Calls Tryz.prog 27 #[.string s] w fun e w' => OneEnd w w' (oneR s) e := by
  have HR := fun w' (g : Glob w') (h : 8 ≤ w'.heap.size) => read_any s w' hs0 g h
  have HG := Lib.hid hg
  unfold oneR
  cases hr : readR s with
  | err c =>
    rw [hr] at HR
    have HR := Lib.hid HR
    have hc : (c != 0) = true := by have := readR_err hr; simpa using this
    clear hr hg
    go_enter Tryz.func27, Tryz.ntmps27
    go_wp2_with (go_at_call 48; refine (HR.out _ (HG.out.below (bel1 _ _) h6) (by simp; omega)).mono ?_; rintro e w2 ⟨rfl, hB⟩; obtain ⟨c0, c1, c2, c3, f0, f1, f2, f3⟩ := res_cells hB; have HB := Lib.hid hB; clear hB)
    exact bodyPost_ret (v := .tuple #[.agg #[.int .i64 0, .int .i64 0, .string ⟨#[]⟩, .slice none 0 0], .int .i64 c]) (by simp [results, Tryz.results27, go_sem, c0, c1, c2, c3]) rfl ⟨rfl, below_res HB.out _ _ _ _⟩
  | ok fs =>
    rw [hr] at HR
    by_cases hl : fs.length = 1
    · obtain ⟨f, rfl⟩ : ∃ f, fs = [f] := List.length_eq_one_iff.1 hl
      rw [oneDone_one]
      have HR := Lib.hid HR
      clear hr hg hl
      go_enter Tryz.func27, Tryz.ntmps27
      go_wp2_with (go_at_call 48; refine (HR.out _ (HG.out.below (bel1 _ _) h6) (by simp; omega)).mono ?_; rintro e w2 ⟨v, rfl, hF, hB⟩; obtain ⟨va, vc, ts, rfl, hI, hfs, hcap, hb1, hb2⟩ := hF; obtain ⟨t, rfl⟩ : ∃ t, ts = [t] := (by cases ts with
          | nil => cases hfs
          | cons t r => cases r with
            | nil => exact ⟨t, rfl⟩
            | cons _ _ => cases hfs); obtain ⟨⟨b, o, rfl, hk0, hk1, hk2, hk3⟩, hin⟩ := hI.at 0 (by simp); have hbb := hb2 b o none rfl; simp only [World.size_alloc] at hbb; obtain ⟨c0, c1, c2, c3, f0, f1, f2, f3⟩ := res_cells hB; simp only [List.getElem_cons_zero, Nat.zero_mul, Nat.add_zero] at hk0 hk1 hk2 hk3 hin; have HB := Lib.hid hB; have HIN := Lib.hid hin; have HOB := Lib.hid hb1; have HFS := Lib.hid hfs; clear hB hin hb1 hb2 hI hcap hfs)
      have hfrm : t.form = f := by have := HFS.out; simpa using this
      have hob : ∀ b, On t b → b ≠ w.heap.size := fun b hb => by have := HOB.out t (by simp) b hb; simp at this; omega
      refine bodyPost_ret (v := .tuple #[t.val, .int .i64 0]) (by simp [results, Tryz.results27, go_sem, c0, c1, c2, c3]) rfl ⟨t, rfl, hfrm, ?_, below_res HB.out _ _ _ _⟩
      exact HIN.out.same _ (Nat.lt_succ_self _) fun b hb => by
        have hne := hob b hb
        rw [Below.heap_setCell _ _ _ _ hne, Below.heap_setCell _ _ _ _ hne, Below.heap_setCell _ _ _ _ hne, Below.heap_setCell _ _ _ _ hne]
    · rw [oneDone_other hl]
      have HR := Lib.hid HR
      clear hr hg
      go_enter Tryz.func27, Tryz.ntmps27
      go_wp2_with (go_at_call 48; refine (HR.out _ (HG.out.below (bel1 _ _) h6) (by simp; omega)).mono ?_; rintro e w2 ⟨v, rfl, hF, hB⟩; obtain ⟨va, vc, ts, rfl, hI, hfs, hcap, hb1, hb2⟩ := hF; have hn : ts.length = fs.length := (by rw [← hfs, List.length_map]); have hne : (((ts.length : Int)) != 1) = true := (by simp; omega); have hn2 : ts.length ≤ 9223372036854775807 := (by unfold maxLen at hcap; omega); obtain ⟨c0, c1, c2, c3, f0, f1, f2, f3⟩ := res_cells hB; have HB := Lib.hid hB; clear hB hI hfs hcap hb1 hb2 hn)
      exact bodyPost_ret (v := .tuple #[.agg #[.int .i64 0, .int .i64 0, .string ⟨#[]⟩, .slice none 0 0], .int .i64 4]) (by simp [results, Tryz.results27, go_sem, c0, c1, c2, c3]) rfl ⟨rfl, below_res HB.out _ _ _ _⟩
end Go.Proofs.YtdehkgflokeodaaGreatDoor
