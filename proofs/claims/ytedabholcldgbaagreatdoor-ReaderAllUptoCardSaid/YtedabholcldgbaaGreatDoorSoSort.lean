/- slices.SortStableFunc at forms and reader.Compare; reader.Sort. -/
import Derived.Test.YtedabholcldgbaaGreatDoorSoComp
import Derived.Test.YtedabholcldgbaaGreatDoorClones
import Derived.Test.YtedabholcldgbaaGreatDoorSame
namespace Go.Proofs.YtedabholcldgbaaGreatDoor.So
open Go.RowKit Go.Deep Go.Sort Go.Shelf

theorem lay_is (us : List T) : Is us.toArray us.length (fun x => us[x]!) := ⟨by simp, fun x hx => by simp⟩
theorem cells_flat (us : List T) (j : Nat) (h : j < us.length * 4) : (cellsT us)[j]? = some (flatK encT 4 us.toArray)[j]! := by
  have hq : j / 4 < us.length := by omega
  obtain ⟨g0, g1, g2, g3⟩ := cellsT_get us (j / 4) hq
  rw [get_flatK _ _ _ j (by simpa using h)]
  have e : us.toArray[j / 4]! = us[j / 4] := by simp [hq]
  rw [e]
  have hr : j % 4 = 0 ∨ j % 4 = 1 ∨ j % 4 = 2 ∨ j % 4 = 3 := by omega
  rcases hr with hr | hr | hr | hr
  · rw [show j / 4 * 4 = j by omega] at g0; rw [g0, hr]; rfl
  · rw [show j / 4 * 4 + 1 = j by omega] at g1; rw [g1, hr]; rfl
  · rw [show j / 4 * 4 + 2 = j by omega] at g2; rw [g2, hr]; rfl
  · rw [show j / 4 * 4 + 3 = j by omega] at g3; rw [g3, hr]; rfl
theorem own_hd {base : Nat} {w : World} {g n cap : Nat} {us : List T} (h : w.ownsRow base 29 4 (.slice (some ⟨g, 0, none⟩) n cap) us.length (cellsT us)) : n = us.length ∧ base ≤ g ∧ n ≤ cap ∧ cap ≤ maxLen ∧ Hd w w g us.toArray := by
  rcases id h.2 with ⟨e, _⟩ | ⟨g', c, cur, e, hb, hg, h1, h2, h3, h4⟩
  · cases e
  · injection e with e1 e2 e3
    injection e1 with e1
    injection e1 with e1
    subst e1 e2 e3
    have hc : ∀ j, j < us.length * 4 → w.cell? ⟨g, j, none⟩ = (cellsT us)[j]? := fun j hj => h.cellAt j hj
    refine ⟨rfl, hb, h1, h2, ⟨fun j hj => ?_, rfl, rfl, rfl, Nat.le_refl _, fun _ _ _ => rfl, lt_of_block hg⟩⟩
    have hj' : j < us.length * 4 := by simpa using hj
    rw [Nat.zero_add]
    refine ⟨?_, ?_⟩
    · rw [hc j hj', cells_flat us j hj']; rfl
    · simp [World.frozen?, hg]
set_option linter.unusedSimpArgs false in
theorem sortStable_any (w0 W : World) (g n cap : Nat) (e : Nat → T) (d : Array T) (hd : Is d n e) (h : Hd w0 W g d) (hf : AllF w0 g n e) (hn : n ≤ 1000000000000000) :
    Calls Tryz.prog 35 #[.slice (some ⟨g, 0, none⟩) n cap, CF] W fun en w' => en = .returned (.tuple #[]) ∧ ∃ d' e', Is d' n e' ∧ SameR e e' 0 n ∧ Sorted e' 0 n ∧ Hd w0 w' g d' := by
  have HS := Lib.hid (stable_any w0 W g n cap e d hd h hf hn)
  clear hd h hf
  go_enter Tryz.func35, Tryz.ntmps35
  go_wp2_with (go_at_call 64; refine HS.out.mono ?_; rintro en w2 ⟨rfl, hB⟩; have HB2 := Lib.hid hB; clear hB)
  go_end0
  exact ⟨rfl, HB2.out⟩
theorem insertion_zero (a : Option Addr) (c : Nat) (W : World) :
    Calls Tryz.prog 96 #[.slice a 0 c, .int .i64 0, .int .i64 0, CF] W fun en w' => en = .returned (.tuple #[]) ∧ Below W.heap.size W w' := by
  go_enter Tryz.func96, Tryz.ntmps96
  go_wp2_with fail
  go_loopg [8] 0 (fun _ vi wr => vi = .int .i64 1 ∧ W = wr)
  case atStart => exact ⟨rfl, rfl⟩
  case round =>
    obtain ⟨rfl, rfl⟩ := hrel
    go_wp2_with fail
    go_end0
    exact ⟨rfl, Below.refl _ _⟩
/-- Nothing is to be sorted. -/
theorem stable_zero (a : Option Addr) (c : Nat) (W : World) :
    Calls Tryz.prog 64 #[.slice a 0 c, .int .i64 0, CF] W fun en w' => en = .returned (.tuple #[]) ∧ Below W.heap.size W w' := by
  have HZ := Lib.hid (insertion_zero a c)
  go_enter Tryz.func64, Tryz.ntmps64
  go_wp2_with fail
  go_loopg [7, 8] 0 (fun _ va vb wr => va = .int .i64 0 ∧ vb = .int .i64 20 ∧ W = wr)
  case atStart => exact ⟨rfl, rfl, rfl⟩
  case round =>
    obtain ⟨rfl, rfl, rfl⟩ := hrel
    go_wp2_with (go_at_call 96; (with_reducible refine (HZ.out _).mono ?_); rintro en w2 ⟨rfl, hB⟩; have HB2 := Lib.hid hB; clear hB)
    go_loopg [6] 0 (fun _ vs wr => vs = .int .i64 20 ∧ w2 = wr)
    case atStart => exact ⟨rfl, rfl⟩
    case round =>
      obtain ⟨rfl, rfl⟩ := hrel
      go_wp2_with fail
      go_end0
      exact ⟨rfl, HB2.out⟩
theorem sortStable_zero (a : Option Addr) (c : Nat) (W : World) :
    Calls Tryz.prog 35 #[.slice a 0 c, CF] W fun en w' => en = .returned (.tuple #[]) ∧ Below W.heap.size W w' := by
  have HZ := Lib.hid (stable_zero a c)
  go_enter Tryz.func35, Tryz.ntmps35
  go_wp2_with (go_at_call 64; (with_reducible refine (HZ.out _).mono ?_); rintro en w2 ⟨rfl, hB⟩; have HB2 := Lib.hid hB; clear hB)
  go_end0
  exact ⟨rfl, HB2.out⟩
theorem compact_zero (a : Option Addr) (c : Nat) (W : World) :
    Calls Tryz.prog 37 #[.slice a 0 c, EF] W fun en w' => en = .returned (.slice a 0 c) ∧ Below W.heap.size W w' := by
  go_enter Tryz.func37, Tryz.ntmps37
  go_wp2_with fail
  go_ret
  exact ⟨rfl, Below.refl _ _⟩
/-- Ascending, each once. -/
def Asc (us : List T) : Prop := us.Pairwise fun t u => cT t u < 0
/-- us is ts, sorted. -/
structure SortedOf (ts us : List T) : Prop where
  asc : Asc us
  sub : ∀ u ∈ us, ∃ t ∈ ts, cT t u = 0
  sup : ∀ t ∈ ts, ∃ u ∈ us, cT t u = 0
/-- What Sort leaves. -/
def SortEnd (w w' : World) (ts : List T) (en : Ending) : Prop := ∃ va vc us, en = .returned (.slice va us.length vc) ∧ In w' (T.list va vc us) ∧ SortedOf ts us ∧ us.length ≤ ts.length ∧ Below w.heap.size w w'
theorem sort_end {w w1 w' : World} {g k cap : Nat} {ts : List T} {e r : Nat → T} (hg : w.heap.size ≤ g) (hB : Below w.heap.size w w1) (hkc : k ≤ cap) (hcm : cap ≤ maxLen) (hk : k ≤ ts.length) (hs : SameR (fun x => ts[x]!) e 0 ts.length) (hc : Cpt e ts.length k r) (hf : ∀ x, x < k → Far w1 g (r x)) (h : Fst w1 w' g k r) :
    SortEnd w w' ts (.returned (.slice (some ⟨g, 0, none⟩) k cap)) := by
  have hsz : ∀ t b, On t b → Far w1 g t → b < w1.heap.size := fun t b hb hf => In.lt hb hf.1
  refine ⟨some ⟨g, 0, none⟩, cap, (List.range k).map r, by simp, list_in (InL_mk fun j hj => ?_) (by simpa using hkc) hcm, ⟨?_, fun u hu => ?_, fun t ht => ?_⟩, by simpa using hk, ?_⟩
  · have hj' : j < k := by simpa using hj
    have hrj := hf j hj'
    refine ⟨⟨g, 0, rfl, ?_⟩, ?_⟩
    · have := h.cells j hj'
      rw [show 0 + (0 + j) * 4 = j * 4 by omega]
      simpa using this
    · have : In w' (r j) := In.same _ (Nat.lt_succ_self _) hrj.1 fun b hb => h.below b (hsz _ b hb hrj) (hrj.2 b hb)
      simpa using this
  · unfold Asc
    rw [List.pairwise_map]
    refine List.Pairwise.imp_of_mem (R := fun a b => a < b) (fun ha hb hab => hc.inc _ _ hab (by simpa using hb)) List.pairwise_lt_range
  · obtain ⟨y, hy, rfl⟩ := List.mem_map.1 hu
    obtain ⟨x, hx, he⟩ := hc.mem y (by simpa using hy)
    obtain ⟨z, _, hz, he2⟩ := hs.sub x (Nat.zero_le _) hx
    refine ⟨ts[z], List.getElem_mem hz, ?_⟩
    rw [he, he2]
    simp [hz, cT_self]
  · obtain ⟨z, hz, rfl⟩ := List.getElem_of_mem ht
    obtain ⟨x, _, hx, he⟩ := hs.sup z (Nat.zero_le _) hz
    obtain ⟨y, hy, he2⟩ := hc.cov x hx
    refine ⟨r y, List.mem_map.2 ⟨y, by simpa using hy, rfl⟩, ?_⟩
    rw [he] at he2
    simpa [hz] using he2
  · exact ⟨h.os.trans hB.os, h.tape.trans hB.tape, h.output.trans hB.output, Nat.le_trans hB.size h.size, fun b hb => (h.below b (Nat.lt_of_lt_of_le hb hB.size) (by omega)).trans (hB.block b hb)⟩
theorem run_append_empty (w : World) (ty : TypeId) (b : Addr) (a : Addr) (c : Nat) :
    (Builtin.append_ #[22, 22] ty #[.slice (some b) 0 0, .slice (some a) 0 c]).run Tryz.prog w = .ok (.slice (some b) 0 0) w := by
  obtain ⟨i0, hi0, hz0, hz1, hz2⟩ := info_parts info27
  simp [Builtin.append_, run_underlying Tryz.underlying22, Go.sizeOf, typeInfo, hi0, Builtin.lenOf, Builtin.firstCells, storeCells, loadCells, loadCellsFrom]
theorem clone_empty (a : Addr) (c : Nat) (w : World) :
    Calls Tryz.prog 34 #[.slice (some a) 0 c] w fun e w' => ∃ v', e = .returned v' ∧ w'.ownsRow w.heap.size 29 4 v' 0 (cellsT []) ∧ Below w.heap.size w w' := by
  have q22 : ∀ (w : World) (a : Option Addr) (n c n' c' : Nat), (binOp .eql 22 (.slice a n c) (.slice none n' c')).run Tryz.prog w = .ok (.bool a.isNone) w := fun w a n c n' c' => Lib.run_eql_slice_nil w _ _ a n c n' c' Tryz.underlying22
  have happ := fun w ty b => run_append_empty w ty b a c
  go_enter Tryz.func34, Tryz.ntmps34
  go_wp2_with fail
  go_ret
  exact ⟨_, rfl, World.ownsRow_made w #[] 0 (Nat.le_refl _) (Nat.zero_le _) (by simp), bel1 _ _⟩
theorem clone_all (va : Option Addr) (vc : Nat) (ts : List T) (w : World) (hin : InL w va 0 ts) (hl : ts.length ≤ 1000000) :
    Calls Tryz.prog 34 #[.slice va ts.length vc] w fun e w' => ∃ v', e = .returned v' ∧ w'.ownsRow w.heap.size 29 4 v' ts.length (cellsT ts) ∧ Below w.heap.size w w' := by
  cases ts with
  | nil =>
    cases va with
    | none => exact (AnyE.slices_Clone_nil clone_lays 0 vc w).mono fun e w' ⟨he, hw⟩ => ⟨_, he, World.ownsRow_nil _ _ _ _, by rw [hw]; exact Below.refl _ _⟩
    | some a => exact clone_empty a vc w
  | cons t ts =>
    obtain ⟨⟨b, o, rfl, _⟩, _⟩ := hin.at 0 (by simp)
    exact clone_any b o vc (t :: ts) w hin hl
theorem own_none {base : Nat} {w : World} {v : Value} (h : w.ownsRow base 29 4 v 0 (cellsT [])) : ∃ a c, v = .slice a 0 c ∧ c ≤ maxLen := by
  rcases h.2 with ⟨rfl, _⟩ | ⟨g, c, cur, rfl, _, _, _, h2, _⟩
  · exact ⟨none, 0, rfl, Nat.zero_le _⟩
  · exact ⟨_, c, rfl, h2⟩
theorem own_some {base : Nat} {w : World} {v : Value} {us : List T} (h : w.ownsRow base 29 4 v us.length (cellsT us)) (hn : us ≠ []) : ∃ g c, v = .slice (some ⟨g, 0, none⟩) us.length c := by
  rcases h.2 with ⟨rfl, e⟩ | ⟨g, c, cur, rfl, _⟩
  · exact absurd (List.length_eq_zero_iff.1 e) hn
  · exact ⟨g, c, rfl⟩
set_option linter.unusedSimpArgs false in
/-- reader.Sort. -/
theorem sort_any (va : Option Addr) (vc : Nat) (ts : List T) (w : World) (hin : InL w va 0 ts) (hl : ts.length ≤ 1000000) :
    Calls Tryz.prog 13 #[.slice va ts.length vc] w fun e w' => SortEnd w w' ts e := by
  have HC := Lib.hid (clone_all va vc ts w hin hl)
  by_cases hz : ts = []
  · subst hz
    clear hin hl
    have HS := Lib.hid sortStable_zero
    have HP := Lib.hid compact_zero
    rw [List.length_nil] at HC ⊢
    go_enter Tryz.func13, Tryz.ntmps13
    go_wp2_with (first
      | (go_at_call 34; refine HC.out.mono ?_; rintro en w2 ⟨v, rfl, ho, hB⟩; obtain ⟨a, c, rfl, hcm⟩ := own_none ho; have HB := Lib.hid hB; have HCM := Lib.hid hcm; clear hB ho hcm)
      | (go_at_call 35; (with_reducible refine (HS.out _ _ _).mono ?_); rintro en w3 ⟨rfl, hB⟩; have HB2 := Lib.hid (upB HB.out hB (Nat.le_refl _)); clear hB)
      | (go_at_call 37; (with_reducible refine (HP.out _ _ _).mono ?_); rintro en w4 ⟨rfl, hB⟩; have HB3 := Lib.hid (upB HB2.out hB (Nat.le_refl _)); clear hB))
    go_ret
    exact ⟨a, c, [], rfl, list_in (by simp [InL]) (Nat.zero_le _) HCM.out, ⟨List.Pairwise.nil, by simp, by simp⟩, Nat.le_refl _, HB3.out⟩
  · have HI := Lib.hid hin
    have HZ := Lib.hid hz
    clear hin hz
    have HS := Lib.hid fun (w2 : World) (g cap : Nat) (hB : Below w.heap.size w w2) (ho : w2.ownsRow w.heap.size 29 4 (.slice (some ⟨g, 0, none⟩) ts.length cap) ts.length (cellsT ts)) =>
      have h := own_hd ho
      have hA : AllF w2 g ts.length (fun x => ts[x]!) := fun x hx => by
        have hix : In w ts[x]! := by have := (HI.out.at x hx).2; simpa [hx] using this
        exact ⟨hix.below hB, fun b hb => by have := In.lt hb hix; have := h.2.1; omega⟩
      (⟨h.2.1, h.2.2.1, h.2.2.2.1, hA, sortStable_any w2 w2 g ts.length cap (fun x => ts[x]!) ts.toArray (lay_is ts) h.2.2.2.2 hA (by omega)⟩ : w.heap.size ≤ g ∧ ts.length ≤ cap ∧ cap ≤ maxLen ∧ _ ∧ _)
    have HP := Lib.hid fun (w2 w3 : World) (g cap : Nat) (e : Nat → T) (d : Array T) h1 h2 h3 h4 h5 h6 => compact_any w2 w3 g ts.length cap e d h1 h2 h3 h4 h5 (by omega) h6
    go_enter Tryz.func13, Tryz.ntmps13
    go_wp2_with (first
      | (go_at_call 34; refine HC.out.mono ?_; rintro en w2 ⟨v, rfl, ho, hB⟩; obtain ⟨g, cap, rfl⟩ := own_some ho HZ.out; obtain ⟨hg, hnc, hcm, hA, hst⟩ := HS.out w2 g cap hB ho; have HB := Lib.hid hB; have HG := Lib.hid hg; have HNC := Lib.hid hnc; have HCM := Lib.hid hcm; have HA := Lib.hid hA; have HST := Lib.hid hst; clear hB ho hg hnc hcm hA hst)
      | (go_at_call 35; (with_reducible refine HST.out.mono ?_); rintro en w3 ⟨rfl, d', e', h1, h2, h3, h4⟩; have H2 := Lib.hid h2; have HCC := Lib.hid (HP.out w2 w3 g cap e' d' h1 h4 (HA.out.same h2 (Nat.le_refl _)) HNC.out HCM.out h3); clear h1 h2 h3 h4)
      | (go_at_call 37; (with_reducible refine HCC.out.mono ?_); rintro en w4 ⟨k, rfl, hk, r, hc, hf, hF⟩; have HK := Lib.hid hk; have HR := Lib.hid hc; have HF := Lib.hid hf; have HFF := Lib.hid hF; clear hk hc hf hF))
    go_ret
    exact sort_end HG.out HB.out (Nat.le_trans HK.out HNC.out) HCM.out HK.out H2.out HR.out HF.out HFF.out
end Go.Proofs.YtedabholcldgbaaGreatDoor.So
