/- A number or a word. -/
import Derived.Test.YtedabholcldgbaaGreatDoorRun
import Derived.Test.YtedabholcldgbaaGreatDoorShelf
import Derived.Lib.SmallJoins
namespace Go.Proofs.YtedabholcldgbaaGreatDoor
open Go.RowKit Go.Deep

/-- As numbers are written. -/
def canonL (l : List UInt8) : Bool := !((Lib.trimPrefix l [45]).head? == some 48) || l == [48]
theorem canon_any (s : ByteArray) (hn : numB s = true) (w : World) :
    Calls Tryz.prog 166 #[.string s] w fun e w' => e = .returned (.bool (canonL s.data.toList)) ∧ w = w' := by
  obtain ⟨d, hd⟩ : ∃ d : ByteArray, d = ⟨(Lib.trimPrefix s.data.toList [45]).toArray⟩ := ⟨_, rfl⟩
  have hdl : d.data.toList = Lib.trimPrefix s.data.toList [45] := by rw [hd]
  have HT := Lib.hid (Tryz.strings_TrimPrefix s ⟨#[45]⟩ w)
  rw [show (⟨#[45]⟩ : ByteArray).data.toList = [45] from rfl, ← hd] at HT
  have hsz : 0 < d.size := by
    unfold numB numL at hn
    rw [← hdl] at hn
    rw [size_list]
    cases h : d.data.toList with
    | nil => rw [h] at hn; simp at hn
    | cons _ _ => simp
  have hhd : (Lib.trimPrefix s.data.toList [45]).head? = some d[0] := by
    rw [← hdl, List.head?_eq_getElem?, List.getElem?_eq_getElem (by rw [← size_list]; exact hsz)]
    rfl
  unfold canonL
  rw [hhd]
  clear hn hd hdl hhd
  have hz0 : (0 : Int) < (d.size : Int) := by omega
  by_cases h1 : d[0] = 48
  · have e1 : (!(some d[0] == some (48 : UInt8))) = false := by rw [h1]; rfl
    rw [e1, Bool.false_or]
    have g1 : ((d[0].toNat : Int) != 48) = false := by rw [h1]; rfl
    clear h1 e1
    by_cases h2 : s.data.toList = [48]
    · have e2 : s = ⟨#[48]⟩ := by
        cases s with
        | mk a => cases a with
          | mk l => simp only at h2; rw [h2]
      subst e2
      go_enter Tryz.func166, Tryz.ntmps166
      go_wp2_with (go_at_call 158; refine HT.out.mono ?_; rintro e w2 ⟨rfl, rfl⟩)
      go_ret
      exact ⟨rfl, rfl⟩
    · have e2 : (s.data.toList == [48]) = false := by simpa using h2
      have g2 : (s.toList == [48]) = false := by rw [Lib.toList_data]; exact e2
      rw [e2]
      clear h2 e2
      go_enter Tryz.func166, Tryz.ntmps166
      go_wp2_with (go_at_call 158; refine HT.out.mono ?_; rintro e w2 ⟨rfl, rfl⟩)
      go_ret
      exact ⟨rfl, rfl⟩
  · have e1 : (!(some d[0] == some (48 : UInt8))) = true := by simpa using h1
    rw [e1, Bool.true_or]
    have g1 : ((d[0].toNat : Int) != 48) = true := by
      simp only [bne_iff_ne, ne_eq]
      intro e; exact h1 (UInt8.toNat_inj.1 (by simpa using Int.ofNat.inj e))
    clear h1 e1
    go_enter Tryz.func166, Tryz.ntmps166
    go_wp2_with (go_at_call 158; refine HT.out.mono ?_; rintro e w2 ⟨rfl, rfl⟩)
    go_ret
    exact ⟨rfl, rfl⟩

/-- How a token ends: a form, or an error. -/
inductive TR where
  | form (k n : Int) (s : ByteArray)
  | err (e : Int)
def TR.val : TR → Value
  | .form k n s => .tuple #[.agg #[.int .i64 k, .int .i64 n, .string s, .slice none 0 0], .int .i64 0]
  | .err e => .tuple #[.agg #[.int .i64 0, .int .i64 0, .string ⟨#[]⟩, .slice none 0 0], .int .i64 e]
def tokenR (s : ByteArray) : TR :=
  if numB s = false then (if 30 < s.size then .err 4 else .form 1 0 s)
  else if canonL s.data.toList = false then .err 4
  else match Lib.atoiAll s.data.toList with
    | .ok v => if rangeB v = true then .form 0 v ⟨#[]⟩ else .err 5
    | _ => .err 5
/-- What is known of the library's two variables. -/
def Glob (w : World) : Prop :=
  (∃ ev, w.cell? ⟨6, 0, none⟩ = some ev ∧ (ev = .nilIface ∨ ∃ te pe, ev = .iface te pe)) ∧ (∃ ev, w.cell? ⟨7, 0, none⟩ = some ev ∧ (ev = .nilIface ∨ ∃ te pe, ev = .iface te pe))
theorem Glob.below {w w' : World} {B : Nat} (h : Glob w) (hb : Below B w w') (hB : 8 ≤ B) : Glob w' := by
  obtain ⟨⟨e1, h1, k1⟩, ⟨e2, h2, k2⟩⟩ := h
  exact ⟨⟨e1, (hb.cell (p := ⟨6, 0, none⟩) (Nat.lt_of_lt_of_le (by decide) hB)).trans h1, k1⟩, ⟨e2, (hb.cell (p := ⟨7, 0, none⟩) (Nat.lt_of_lt_of_le (by decide) hB)).trans h2, k2⟩⟩
theorem atoi_ok (s : ByteArray) (hs : s.size ≤ 60000) (v : Int) (h : Lib.atoiAll s.data.toList = .ok v) (w : World) :
    Calls Tryz.prog 167 #[.string s] w fun e w' => e = .returned (.tuple #[.int .i64 v, .nilIface]) ∧ Below w.heap.size w w' :=
  (Tryz.strconv_Atoi_ok s (by omega) v h w).mono fun e w' ⟨he, hw⟩ => ⟨he, by
    rcases hw with rfl | ⟨t, rfl⟩
    · exact Below.refl _ _
    · exact Go.Joins.below_bytesWorld _ _ _ _ (Nat.le_refl _)⟩
theorem atoi_bad (s : ByteArray) (hs : s.size ≤ 60000) (h : ∀ v, Lib.atoiAll s.data.toList ≠ .ok v) (w : World) (hg : Glob w) :
    Calls Tryz.prog 167 #[.string s] w fun e w' => (∃ (v : Int) (t : TypeId) (y : Value), e = .returned (.tuple #[.int .i64 v, .iface t y])) ∧ Below w.heap.size w w' := by
  obtain ⟨⟨e1, h1, k1⟩, ⟨e2, h2, k2⟩⟩ := hg
  cases h' : Lib.atoiAll s.data.toList with
  | ok v => exact absurd h' (h v)
  | range => exact (Tryz.strconv_Atoi_range s (by omega) h' e2 w h2 k2).mono fun e w' ⟨N, he, _, _, hb⟩ => ⟨⟨_, _, _, he⟩, hb⟩
  | _ => exact (Tryz.strconv_Atoi_syntax s (by omega) h' e1 w h1 k1).mono fun e w' ⟨N, he, _, _, hb⟩ => ⟨⟨_, _, _, he⟩, hb⟩
/-- A block of a zero form that was just laid, behind a call. -/
theorem res_cells {w w2 : World} (hB : Below (w.alloc (.cells #[.int .i64 0, .int .i64 0, .string ⟨#[]⟩, .slice none 0 0] 29)).heap.size (w.alloc (.cells #[.int .i64 0, .int .i64 0, .string ⟨#[]⟩, .slice none 0 0] 29)) w2) :
    w2.cell? ⟨w.heap.size, 0, none⟩ = some (.int .i64 0) ∧ w2.cell? ⟨w.heap.size, 1, none⟩ = some (.int .i64 0) ∧ w2.cell? ⟨w.heap.size, 2, none⟩ = some (.string ⟨#[]⟩) ∧ w2.cell? ⟨w.heap.size, 3, none⟩ = some (.slice none 0 0) ∧
    w2.frozen? ⟨w.heap.size, 0, none⟩ = false ∧ w2.frozen? ⟨w.heap.size, 1, none⟩ = false ∧ w2.frozen? ⟨w.heap.size, 2, none⟩ = false ∧ w2.frozen? ⟨w.heap.size, 3, none⟩ = false := by
  have h := (hB.block w.heap.size (by simp)).trans (heap_alloc_new w _)
  refine ⟨?_, ?_, ?_, ?_, ?_, ?_, ?_, ?_⟩ <;> simp [World.cell?, World.frozen?, h]
theorem below_res {w w2 : World} {o : Obj} (hB : Below (w.alloc o).heap.size (w.alloc o) w2) (a b c d : Value) : Below w.heap.size w ((((w2.setCell ⟨w.heap.size, 0, none⟩ a).setCell ⟨w.heap.size, 1, none⟩ b).setCell ⟨w.heap.size, 2, none⟩ c).setCell ⟨w.heap.size, 3, none⟩ d) :=
  below_setR (below_setR (below_setR (below_setR (up (bel1 _ _) hB) (Nat.le_refl _) _) (Nat.le_refl _) _) (Nat.le_refl _) _) (Nat.le_refl _) _

set_option maxHeartbeats 1000000 in
theorem token_any (s : ByteArray) (hs : s.size ≤ 60000) (w : World) (hg : Glob w) (h6 : 8 ≤ w.heap.size) :
    Calls Tryz.prog 147 #[.string s] w fun e w' => e = .returned (tokenR s).val ∧ Below w.heap.size w w' := by
  have hm : s.size ≤ maxLen := by unfold maxLen; omega
  have HN := Lib.hid (numeral_any s hm)
  obtain ⟨r, hr⟩ : ∃ r, tokenR s = r := ⟨_, rfl⟩
  rw [hr]
  cases hn : numB s with
  | false =>
    rw [hn] at HN
    by_cases hz : 30 < s.size
    · obtain rfl : TR.err 4 = r := by rw [← hr]; unfold tokenR; rw [if_pos hn, if_pos hz]
      have hz' : (30 : Int) < (s.size : Int) := by omega
      clear hr hn
      go_enter Tryz.func147, Tryz.ntmps147
      go_wp2_with (go_at_call 134; refine (HN.out _).mono ?_; rintro e w2 ⟨rfl, rfl⟩)
      exact bodyPost_ret (v := .tuple #[.agg #[.int .i64 0, .int .i64 0, .string ⟨#[]⟩, .slice none 0 0], .int .i64 4]) (by simp [results, Tryz.results147, go_sem]) rfl ⟨rfl, bel1 _ _⟩
    · obtain rfl : TR.form 1 0 s = r := by rw [← hr]; unfold tokenR; rw [if_pos hn, if_neg hz]
      have hz' : ¬ (30 : Int) < (s.size : Int) := by omega
      clear hr hn
      go_enter Tryz.func147, Tryz.ntmps147
      go_wp2_with (go_at_call 134; refine (HN.out _).mono ?_; rintro e w2 ⟨rfl, rfl⟩)
      exact bodyPost_ret (v := .tuple #[.agg #[.int .i64 1, .int .i64 0, .string s, .slice none 0 0], .int .i64 0]) (by simp [results, Tryz.results147, go_sem]) rfl ⟨rfl, bel1 _ _⟩
  | true =>
    have HC := Lib.hid (canon_any s hn)
    rw [hn] at HN
    cases hc : canonL s.data.toList with
    | false =>
      rw [hc] at HC
      obtain rfl : TR.err 4 = r := by rw [← hr]; unfold tokenR; rw [if_neg (by rw [hn]; simp), if_pos hc]
      clear hr hn hc
      go_enter Tryz.func147, Tryz.ntmps147
      go_wp2_with (first
        | (go_at_call 134; refine (HN.out _).mono ?_; rintro e w2 ⟨rfl, rfl⟩)
        | (go_at_call 166; refine (HC.out _).mono ?_; rintro e w2 ⟨rfl, rfl⟩))
      exact bodyPost_ret (v := .tuple #[.agg #[.int .i64 0, .int .i64 0, .string ⟨#[]⟩, .slice none 0 0], .int .i64 4]) (by simp [results, Tryz.results147, go_sem]) rfl ⟨rfl, bel1 _ _⟩
    | true =>
      rw [hc] at HC
      have HG := Lib.hid hg
      have h1 : numB s ≠ false := by rw [hn]; simp
      have h2 : canonL s.data.toList ≠ false := by rw [hc]; simp
      have hr1 : r = match Lib.atoiAll s.data.toList with
        | .ok v => if rangeB v = true then TR.form 0 v ⟨#[]⟩ else TR.err 5
        | _ => TR.err 5 := by rw [← hr]; unfold tokenR; rw [if_neg h1, if_neg h2]
      clear hr hn hc hg h1 h2
      by_cases hok : ∃ v, Lib.atoiAll s.data.toList = .ok v
      · obtain ⟨v, hv⟩ := hok
        rw [hv] at hr1
        simp only at hr1
        have HT := Lib.hid (atoi_ok s hs v hv)
        have HRG := Lib.hid (range_any v)
        clear hv
        cases hrg : rangeB v with
        | true =>
          rw [hrg] at HRG hr1
          rw [if_pos rfl] at hr1
          subst hr1
          clear hrg
          go_enter Tryz.func147, Tryz.ntmps147
          go_wp2_with (first
            | (go_at_call 134; refine (HN.out _).mono ?_; rintro e w2 ⟨rfl, rfl⟩)
            | (go_at_call 166; refine (HC.out _).mono ?_; rintro e w2 ⟨rfl, rfl⟩)
            | (go_at_call 91; refine (HRG.out _).mono ?_; rintro e w2 ⟨rfl, rfl⟩)
            | (go_at_call 167; refine (HT.out _).mono ?_; rintro e w2 ⟨rfl, hB⟩; obtain ⟨c0, c1, c2, c3, f0, f1, f2, f3⟩ := res_cells hB; have hz := hB.size; simp only [World.size_alloc] at hz; have HB := Lib.hid hB; clear hB))
          exact bodyPost_ret (v := .tuple #[.agg #[.int .i64 0, .int .i64 v, .string ⟨#[]⟩, .slice none 0 0], .int .i64 0]) (by simp [results, Tryz.results147, go_sem, c0, c1, c2, c3]) rfl ⟨rfl, below_res HB.out _ _ _ _⟩
        | false =>
          rw [hrg] at HRG hr1
          rw [if_neg (by simp)] at hr1
          subst hr1
          clear hrg
          go_enter Tryz.func147, Tryz.ntmps147
          go_wp2_with (first
            | (go_at_call 134; refine (HN.out _).mono ?_; rintro e w2 ⟨rfl, rfl⟩)
            | (go_at_call 166; refine (HC.out _).mono ?_; rintro e w2 ⟨rfl, rfl⟩)
            | (go_at_call 91; refine (HRG.out _).mono ?_; rintro e w2 ⟨rfl, rfl⟩)
            | (go_at_call 167; refine (HT.out _).mono ?_; rintro e w2 ⟨rfl, hB⟩; obtain ⟨c0, c1, c2, c3, f0, f1, f2, f3⟩ := res_cells hB; have hz := hB.size; simp only [World.size_alloc] at hz; have HB := Lib.hid hB; clear hB))
          exact bodyPost_ret (v := .tuple #[.agg #[.int .i64 0, .int .i64 0, .string ⟨#[]⟩, .slice none 0 0], .int .i64 5]) (by simp [results, Tryz.results147, go_sem, c0, c1, c2, c3]) rfl ⟨rfl, below_res HB.out _ _ _ _⟩
      · have hbad : ∀ v, Lib.atoiAll s.data.toList ≠ .ok v := fun v hv => hok ⟨v, hv⟩
        have HT := Lib.hid (atoi_bad s hs hbad)
        have HRG := Lib.hid range_any
        have hr2 : r = TR.err 5 := by
          rw [hr1]
          cases h : Lib.atoiAll s.data.toList with
          | ok v => exact absurd h (hbad v)
          | range => rfl
          | _ => rfl
        subst hr2
        clear hr1 hok hbad
        go_enter Tryz.func147, Tryz.ntmps147
        go_wp2_with (first
            | (go_at_call 134; refine (HN.out _).mono ?_; rintro e w2 ⟨rfl, rfl⟩)
            | (go_at_call 166; refine (HC.out _).mono ?_; rintro e w2 ⟨rfl, rfl⟩)
            | (go_at_call 91; refine (HRG.out _).mono ?_; rintro e w2 ⟨rfl, rfl⟩)
            | (go_at_call 167; refine (HT.out _ (HG.out.below (bel1 _ _) h6)).mono ?_; rintro e w2 ⟨⟨v, t, y, rfl⟩, hB⟩; obtain ⟨c0, c1, c2, c3, f0, f1, f2, f3⟩ := res_cells hB; have hz := hB.size; simp only [World.size_alloc] at hz; have HB := Lib.hid hB; clear hB))
        exact bodyPost_ret (v := .tuple #[.agg #[.int .i64 0, .int .i64 0, .string ⟨#[]⟩, .slice none 0 0], .int .i64 5]) (by simp [results, Tryz.results147, go_sem, c0, c1, c2, c3]) rfl ⟨rfl, below_res HB.out _ _ _ _⟩
end Go.Proofs.YtedabholcldgbaaGreatDoor
