/- ReaderReads: the document's own One, and the walk. -/
import Derived.Test.YtkcckhchlhmhhaaDoorQRead
import Derived.Test.YtkcckhchlhmhhaaDoorSame
import Derived.Test.YtkcckhchlhmhhaaDoorSane2
namespace Go.Proofs.YtkcckhchlhmhhaaDoor.Q
open Go.RowKit Go.Deep

set_option linter.unusedSimpArgs false in
set_option maxHeartbeats 2000000 in
set_option maxRecDepth 100000 in
theorem one_any (s : ByteArray) (w : World) (hs0 : s.size ≤ maxLen) :
    Calls Tryd.prog 12 #[.string s] w fun e w' => OneEnd w w' (oneR s) e := by
  have HR := fun w' => read_any s w' hs0
  unfold oneR
  cases hr : readR s with
  | err c =>
    rw [hr] at HR
    have HR := Lib.hid HR
    have hc := readR_err hr
    have hc1 : (c == 0) = false := by simpa using hc
    have hc2 : (c != 0) = true := by simpa using hc
    clear hr hc
    go_enter Tryd.func12, Tryd.ntmps12
    go_wp2_with (go_at_call 10; refine (HR.out _).mono ?_; rintro e w2 ⟨rfl, hB⟩; obtain ⟨c0, c1, c2, c3, f0, f1, f2, f3⟩ := res_cells hB; have HB := Lib.hid hB; clear hB)
    exact bodyPost_ret (v := .tuple #[.agg #[.int .i64 0, .int .i64 0, .string ⟨#[]⟩, .slice none 0 0], .int .i64 c]) (by simp [results, Tryd.results12, go_sem, c0, c1, c2, c3]) rfl ⟨rfl, below_res HB.out _ _ _ _⟩
  | ok fs =>
    rw [hr] at HR
    by_cases hl : fs.length = 1
    · obtain ⟨f, rfl⟩ : ∃ f, fs = [f] := List.length_eq_one_iff.1 hl
      rw [oneDone_one]
      have HR := Lib.hid HR
      clear hr hl
      go_enter Tryd.func12, Tryd.ntmps12
      go_wp2_with (go_at_call 10; refine (HR.out _).mono ?_; rintro e w2 ⟨v, rfl, hF, hB⟩; obtain ⟨va, vc, ts, rfl, hI, hfs, hcap, hb1, hb2⟩ := hF; obtain ⟨t, rfl⟩ : ∃ t, ts = [t] := (by cases ts with
          | nil => cases hfs
          | cons t r => cases r with
            | nil => exact ⟨t, rfl⟩
            | cons _ _ => cases hfs); obtain ⟨⟨b, o, rfl, hk0, hk1, hk2, hk3⟩, hin⟩ := hI.at 0 (by simp); have hbb := hb2 b o none rfl; simp only [World.size_alloc] at hbb; obtain ⟨c0, c1, c2, c3, f0, f1, f2, f3⟩ := res_cells hB; simp only [List.getElem_cons_zero, Nat.zero_mul, Nat.add_zero] at hk0 hk1 hk2 hk3 hin; have HB := Lib.hid hB; have HIN := Lib.hid hin; have HOB := Lib.hid hb1; have HFS := Lib.hid hfs; clear hB hin hb1 hb2 hI hcap hfs)
      have hfrm : t.form = f := by have := HFS.out; simpa using this
      have hob : ∀ b, On t b → b ≠ w.heap.size := fun b hb => by have := HOB.out t (by simp) b hb; simp at this; omega
      refine bodyPost_ret (v := .tuple #[t.val, .int .i64 0]) (by simp [results, Tryd.results12, go_sem, c0, c1, c2, c3]) rfl ⟨t, rfl, hfrm, ?_, below_res HB.out _ _ _ _⟩
      exact HIN.out.same _ (Nat.lt_succ_self _) fun b hb => by
        have hne := hob b hb
        rw [Below.heap_setCell _ _ _ _ hne, Below.heap_setCell _ _ _ _ hne, Below.heap_setCell _ _ _ _ hne, Below.heap_setCell _ _ _ _ hne]
    · rw [oneDone_other hl]
      have HR := Lib.hid HR
      clear hr
      go_enter Tryd.func12, Tryd.ntmps12
      go_wp2_with (go_at_call 10; refine (HR.out _).mono ?_; rintro e w2 ⟨v, rfl, hF, hB⟩; obtain ⟨va, vc, ts, rfl, hI, hfs, hcap, hb1, hb2⟩ := hF; have hn : ts.length = fs.length := (by rw [← hfs, List.length_map]); have hne : (((ts.length : Int)) != 1) = true := (by simp; omega); have hn2 : ts.length ≤ 9223372036854775807 := (by unfold maxLen at hcap; omega); obtain ⟨c0, c1, c2, c3, f0, f1, f2, f3⟩ := res_cells hB; have HB := Lib.hid hB; clear hB hI hfs hcap hb1 hb2 hn)
      exact bodyPost_ret (v := .tuple #[.agg #[.int .i64 0, .int .i64 0, .string ⟨#[]⟩, .slice none 0 0], .int .i64 4]) (by simp [results, Tryd.results12, go_sem, c0, c1, c2, c3]) rfl ⟨rfl, below_res HB.out _ _ _ _⟩

/-- A list of forms and a code. -/
def GotL (w w' : World) (fs : List Fm) (c : Int) (e : Ending) : Prop := ∃ va vc ts, e = .returned (.tuple #[.slice va ts.length vc, .int .i64 c]) ∧ In w' (T.list va vc ts) ∧ ts.map T.form = fs ∧ Below w.heap.size w w'
def rdVal : RD → List Fm
  | .ok fs => fs
  | .err _ => []
def rdCode : RD → Int
  | .ok _ => 0
  | .err c => c
theorem gotL_of {w w' : World} {r : RD} {e : Ending} (h : ReadEnd w w' r e) : GotL w w' (rdVal r) (rdCode r) e := by
  cases r with
  | err c => exact ⟨none, 0, [], h.1, list_in (by simp [InL]) (Nat.le_refl _) (Nat.zero_le _), rfl, h.2⟩
  | ok fs =>
    obtain ⟨v, rfl, ⟨va, vc, ts, rfl, hI, hf, hc, _, _⟩, hB⟩ := h
    exact ⟨va, vc, ts, rfl, list_in hI hc.1 hc.2, hf, hB⟩
/-- A form and a code. -/
def GotF (w w' : World) (f : Fm) (c : Int) (e : Ending) : Prop := ∃ u : T, e = .returned (.tuple #[u.val, .int .i64 c]) ∧ u.form = f ∧ In w' u ∧ Below w.heap.size w w'
def oneVal : OD → Fm
  | .ok f => f
  | .err _ => .mk 0 0 ⟨#[]⟩ []
def oneCode : OD → Int
  | .ok _ => 0
  | .err c => c
theorem gotF_of {w w' : World} {r : OD} {e : Ending} (h : OneEnd w w' r e) : GotF w w' (oneVal r) (oneCode r) e := by
  cases r with
  | err c => exact ⟨T.leaf 0 0 ⟨#[]⟩, h.1, rfl, leaf_in _ _ _ _ (by unfold I64; omega) (by unfold I64; omega) (Nat.zero_le _), h.2⟩
  | ok f => exact h
abbrev boxO (t : T) : Obj := .cells #[.int .i64 t.kd, .int .i64 t.nn, .string t.tx, .slice t.ad t.ks.length t.cp] 27
/-- A boxed form that lies in memory. -/
structure Bx (W : World) (n : Nat) (t : T) : Prop where
  box : Box4 W n t
  ins : In W t
theorem Bx.next {W W' : World} {n : Nat} {t : T} (h : Bx W n t) (hb : Below W.heap.size W W') : Bx W' n t := ⟨(hb.block _ (lt_of_block h.box)).trans h.box, h.ins.below hb⟩
theorem Bx.new {W : World} {t : T} (h : In W t) : Bx (W.alloc (boxO t)) W.heap.size t := ⟨heap_alloc_new W _, h.alloc _⟩

set_option linter.unusedSimpArgs false in
set_option maxHeartbeats 8000000 in
set_option maxRecDepth 100000 in
theorem reads_any (s : ByteArray) (w : World) (hs : s.size ≤ maxLen) (hg : Glob w) (h6 : 6 ≤ w.heap.size) :
    Calls Tryd.prog 3 #[.string s] w fun e w' => e = .returned (.bool true) ∧ Below w.heap.size w w' := by
  have H1 := Lib.hid fun W (h : Below w.heap.size w W) => (Go.Proofs.YtkcckhchlhmhhaaDoor.read_any s W hs (hg.below h h6) (Nat.le_trans h6 h.size)).mono fun e w' hh => gotL_of hh
  have H2 := Lib.hid fun W => (read_any s W hs).mono fun e w' hh => gotL_of hh
  have H3 := Lib.hid fun W (h : Below w.heap.size w W) => (Go.Proofs.YtkcckhchlhmhhaaDoor.one_any s W hs (hg.below h h6) (Nat.le_trans h6 h.size)).mono fun e w' hh => gotF_of hh
  have H4 := Lib.hid fun W => (one_any s W hs).mono fun e w' hh => gotF_of hh
  have HEQ := Lib.hid fun (x y : T) W (he : x.form = y.form) (h1 : In W x) (h2 : In W y) => (requal_T x y W h1 h2).mono fun e w' hh => (by rw [he, cmpF_self] at hh; exact hh : e = .returned (.bool true) ∧ Below W.heap.size W w')
  have HS := Lib.hid fun W (h : Below w.heap.size w W) => sane_any W (hg.below h h6) (Nat.le_trans h6 h.size)
  generalize rdVal (readR s) = fl at *
  generalize rdCode (readR s) = fc at *
  generalize oneVal (oneR s) = gl at *
  generalize oneCode (oneR s) = gc at *
  clear hg
  go_enter Tryd.func3, Tryd.ntmps3
  go_wp2_with (first
    | (go_at_call 9; (with_reducible refine (H1.out _ (Below.refl _ _)).mono ?_); rintro e w2 ⟨va, vc, xs, rfl, ha, haf, hB⟩; have KK := Lib.hid hB; have HA := Lib.hid ha; have HAF := Lib.hid haf; clear ha haf hB)
    | (go_at_call 10; (with_reducible refine (H2.out _).mono ?_); rintro e w3 ⟨vb, vd, bs, rfl, hb, hbf, hB⟩; have KK := Lib.hid (upB KK.out hB (Nat.le_refl _)); have HA := Lib.hid (HA.out.below hB); have HBL := Lib.hid hb; have HBF := Lib.hid hbf; clear hb hbf hB)
    | (go_at_call 11; (with_reducible refine (H3.out _ KK.out).mono ?_); rintro e w4 ⟨c, rfl, hcf, hci, hB⟩; have KK := Lib.hid ((upB KK.out hB (Nat.le_refl _)).trans ((bel1 _ (boxO c)).mono (Nat.le_trans KK.out.size hB.size))); have HA := Lib.hid ((HA.out.below hB).alloc (boxO c)); have HBL := Lib.hid ((HBL.out.below hB).alloc (boxO c)); have KC := Lib.hid (Bx.new hci); have HCF := Lib.hid hcf; clear hcf hci hB)
    | (go_at_call 12; (with_reducible refine (H4.out _).mono ?_); rintro e w5 ⟨d, rfl, hdf, hdi, hB⟩; have KK2 := Lib.hid (upB KK.out hB (Nat.le_refl _)); have KK := Lib.hid (KK2.out.trans ((bel1 _ (boxO d)).mono KK2.out.size)); have HA := Lib.hid ((HA.out.below hB).alloc (boxO d)); have HBL := Lib.hid ((HBL.out.below hB).alloc (boxO d)); have KC := Lib.hid ((KC.out.next hB).next (bel1 _ (boxO d))); have KD := Lib.hid (Bx.new hdi); have HDF := Lib.hid hdf; clear hdf hdi hB)
    | (go_at_call 13; (with_reducible refine (same_any va vb vc vd xs bs _ HA.out HBL.out (HAF.out.trans HBF.out.symm)).mono ?_); rintro e w6 ⟨rfl, hB⟩; have KK := Lib.hid (upB KK.out hB (Nat.le_refl _)); have KC := Lib.hid (KC.out.next hB); have KD := Lib.hid (KD.out.next hB); obtain ⟨a0, a1, a2, a3⟩ := KC.out.box.cells; obtain ⟨b0, b1, b2, b3⟩ := KD.out.box.cells; clear hB)
    | (go_at_call 14; (with_reducible refine (HEQ.out c d _ (HCF.out.trans HDF.out.symm) KC.out.ins KD.out.ins).mono ?_); rintro e w7 ⟨rfl, hB⟩; have KK := Lib.hid (upB KK.out hB (Nat.le_refl _)); clear hB)
    | (go_at_call 15; (with_reducible refine (HS.out _ KK.out).mono ?_); rintro e w8 ⟨rfl, hB⟩; have KK := Lib.hid (upB KK.out hB (Nat.le_refl _)); clear hB))
  go_ret
  exact ⟨rfl, KK.out⟩
end Go.Proofs.YtkcckhchlhmhhaaDoor.Q
