/- The document's own validity and head. -/
import Derived.Test.YtedabholcldgbaaGreatDoorRef1
import Derived.Test.YtedabholcldgbaaGreatDoorRef2
import Derived.Test.YtedabholcldgbaaGreatDoorHead
namespace Go.Proofs.YtedabholcldgbaaGreatDoor
open Go.RowKit Go.Deep

def FldTo (ks : List T) (k : Nat) : Prop := ∀ j (h : j < ks.length), j < k → fieldsF ks[j].form = true
theorem FldTo.step {ks : List T} {k : Nat} (h : FldTo ks k) (hk : k < ks.length) (hv : fieldsF ks[k].form = true) : FldTo ks (k + 1) := by
  intro j hj hlt
  by_cases e : j = k
  · subst e; exact hv
  · exact h j hj (by omega)
theorem fieldsL_all : ∀ l : List Fm, fieldsL l = l.all fieldsF
  | [] => by simp [fieldsL]
  | f :: fs => by simp [fieldsL, fieldsL_all fs]
theorem FldTo.ends {ks : List T} {k : Nat} (h : FldTo ks k) (hk : ks.length ≤ k) : fieldsL (ks.map T.form) = true := by
  rw [fieldsL_all, List.all_eq_true]
  intro f hf
  obtain ⟨t, ht, rfl⟩ := List.mem_map.1 hf
  obtain ⟨j, hj, rfl⟩ := List.getElem_of_mem ht
  exact h j hj (by omega)
theorem FldTo.stop {ks : List T} {k : Nat} (hk : k < ks.length) (hv : fieldsF ks[k].form = false) : fieldsL (ks.map T.form) = false := by
  rw [fieldsL_all, List.all_eq_false]
  exact ⟨ks[k].form, List.mem_map_of_mem (List.getElem_mem hk), by rw [hv]; simp⟩
theorem fieldsT (t : T) : fieldsF t.form = (aloneF t.form && (if t.kd = 3 then fieldsL (t.ks.map T.form) else true)) := by
  rw [fieldsF_eq]
  unfold Fm.kids
  rw [T.form_kd, T.form_ks]
  split <;> simp [fieldsL]

set_option maxHeartbeats 4000000 in
theorem rfields_any (n : Nat) : ∀ t : T, SizeOf.sizeOf t < n → ∀ w, In w t →
    Calls Tryz.prog 73 #[t.val] w fun e w' => e = .returned (.bool (fieldsF t.form)) ∧ Below w.heap.size w w' := by
  induction n with
  | zero => intro t h; omega
  | succ n ih =>
    intro t hn w hin
    have HW := Lib.hid (rword_any t.tx hin.ok.tx)
    have HX := Lib.hid (rtext_ok t.tx hin.ok.tx)
    obtain ⟨r, hr⟩ : ∃ r, fieldsF t.form = r := ⟨_, rfl⟩
    rw [hr]
    have n1 := Nat.le_trans hin.ok.le hin.ok.cp
    unfold maxLen at n1
    rw [fieldsT, aloneT] at hr
    by_cases k0 : t.kd = 0
    · rw [if_pos k0, if_neg (by omega), Bool.and_true] at hr
      by_cases hl : t.ks.length = 0
      · have hke : t.ks.isEmpty = true := by simpa using List.length_eq_zero_iff.1 hl
        rw [hke, Bool.and_true] at hr
        by_cases hx : t.tx.size = 0
        · have x1 := toList_nil hx
          simp only [hx, rangeB] at hr
          by_cases r1 : -1152921504606846976 ≤ t.nn
          · by_cases r2 : t.nn ≤ 1152921504606846976
            · have HR : Hid (true = r) := Lib.hid (by rw [← hr]; simp [r1, r2])
              clear ih hin
              go_enter Tryz.func73, Tryz.ntmps73
              go_wp2_with fail
              go_ret
              exact ⟨ret_bool HR.out, bel1 _ _⟩
            · have HR : Hid (false = r) := Lib.hid (by rw [← hr]; simp [r2])
              have r3 : decide (t.nn ≤ 1152921504606846976) = false := by simpa using r2
              clear ih hin
              go_enter Tryz.func73, Tryz.ntmps73
              go_wp2_with fail
              go_ret
              exact ⟨ret_bool HR.out, bel1 _ _⟩
          · have HR : Hid (false = r) := Lib.hid (by rw [← hr]; simp [r1])
            have r3 : decide (-1152921504606846976 ≤ t.nn) = false := by simpa using r1
            clear ih hin
            go_enter Tryz.func73, Tryz.ntmps73
            go_wp2_with fail
            go_ret
            exact ⟨ret_bool HR.out, bel1 _ _⟩
        · have x1 := toList_ne hx
          have x2 : t.tx.toList.isEmpty = false := by simpa using x1
          have HR : Hid (false = r) := Lib.hid (by rw [← hr]; simp [hx])
          clear ih hin
          go_enter Tryz.func73, Tryz.ntmps73
          go_wp2_with fail
          go_ret
          exact ⟨ret_bool HR.out, bel1 _ _⟩
      · have hke : t.ks.isEmpty = false := by cases h : t.ks with
                                              | nil => exact absurd (by rw [h]; rfl) hl
                                              | cons _ _ => rfl
        have HR : Hid (false = r) := Lib.hid (by rw [← hr, hke]; simp)
        have hl0 : 0 < t.ks.length := by omega
        clear ih hin
        go_enter Tryz.func73, Tryz.ntmps73
        go_wp2_with fail
        go_ret
        exact ⟨ret_bool HR.out, bel1 _ _⟩
    · rw [if_neg k0] at hr
      have g0 : (t.kd != 0) = true := by simpa using k0
      have b0 : (t.kd == 0) = false := by simpa using k0
      by_cases hnn : t.nn = 0
      · have gn : (t.nn != 0) = false := by simpa using hnn
        by_cases k3 : t.kd = 3
        · rw [if_neg (by omega), if_neg (by omega), if_pos k3, if_pos k3] at hr
          have g3 : (t.kd != 3) = false := by simpa using k3
          have b3 : (t.kd == 3) = true := by simpa using k3
          have g1 : (t.kd != 1) = true := by simp; omega
          have g2 : (t.kd != 2) = true := by simp; omega
          have b1 : (t.kd == 1) = false := by simp; omega
          have b2 : (t.kd == 2) = false := by simp; omega
          by_cases hx : t.tx.size = 0
          · have x1 := toList_nil hx
            have HR : Hid (fieldsL (t.ks.map T.form) = r) := Lib.hid (by rw [← hr]; simp [hnn, hx])
            obtain ⟨a, ha⟩ : ∃ a, t.ad = a := ⟨_, rfl⟩
            have HK : Hid (∀ W, Below w.heap.size w W → InL W a 0 t.ks) := Lib.hid fun W h => by rw [← ha]; exact (hin.below h).inL
            have HAD := Lib.hid ha
            have IH := Lib.hid ih
            have K0 := Lib.hid (Boxed.start w t)
            clear ha ih hin hr k0 k3 hnn hx HW HX
            go_enter Tryz.func73, Tryz.ntmps73
            go_wp2_with fail
            go_loopg [3] (t.ks.length) (fun m i wr => ∃ k : Nat, k ≤ t.ks.length ∧ m = t.ks.length - k ∧ i = .int .i64 k ∧ FldTo t.ks k ∧ Boxed w wr t)
            case atStart => exact ⟨0, by omega, by omega, rfl, fun j _ h => absurd h (by omega), K0.out⟩
            case round =>
              obtain ⟨k, hk, rfl, rfl, hf, hbx⟩ := hrel
              obtain ⟨c0, c1, c2, c3⟩ := box_cells hbx.1 HAD.out
              have HBX := Lib.hid hbx
              by_cases hlt : k < t.ks.length
              · obtain ⟨⟨b, o, rfl, hx0, hx1, hx2, hx3⟩, hink⟩ := (HK.out _ HBX.out.2).at k hlt
                have lb : b < wr.heap.size := World.block_lt_of_cell? _ _ hx0
                have hmk := List.getElem_mem hlt
                have HC := Lib.hid (IH.out t.ks[k] (by have := T.kid_lt hmk; omega) wr hink)
                cases hv : fieldsF t.ks[k].form with
                | true =>
                  rw [hv] at HC
                  have HS := Lib.hid (hf.step hlt hv)
                  clear hv hf hbx hink
                  go_wp2_with (go_at_call 73; refine HC.out.mono ?_; rintro e w2 ⟨rfl, hB⟩; have HB := Lib.hid hB; clear hB)
                  go_roundg (t.ks.length - (k + 1))
                  case measure => omega
                  case rel => exact ⟨k + 1, by omega, rfl, by go_num, HS.out, HBX.out.next HB.out⟩
                | false =>
                  rw [hv] at HC
                  have HS : Hid (false = r) := Lib.hid (by rw [← HR.out, FldTo.stop hlt hv])
                  clear hv hf hbx hink
                  go_wp2_with (go_at_call 73; refine HC.out.mono ?_; rintro e w2 ⟨rfl, hB⟩; have HB := Lib.hid hB; clear hB)
                  go_ret
                  exact ⟨ret_bool HS.out, (HBX.out.next HB.out).2⟩
              · have HS : Hid (true = r) := Lib.hid (by rw [← HR.out, hf.ends (by omega)])
                clear hf hbx
                go_wp2_with fail
                go_ret
                exact ⟨ret_bool HS.out, HBX.out.2⟩
          · have x1 := toList_ne hx
            have x2 : t.tx.toList.isEmpty = false := by simpa using x1
            have HR : Hid (false = r) := Lib.hid (by rw [← hr]; simp [hx])
            clear ih hin
            go_enter Tryz.func73, Tryz.ntmps73
            go_wp2_with fail
            go_ret
            exact ⟨ret_bool HR.out, bel1 _ _⟩
        · have g3 : (t.kd != 3) = true := by simpa using k3
          have b3 : (t.kd == 3) = false := by simpa using k3
          by_cases hl : t.ks.length = 0
          · have hke : t.ks.isEmpty = true := by simpa using List.length_eq_zero_iff.1 hl
            have hl0 : ¬ 0 < t.ks.length := by omega
            by_cases k1 : t.kd = 1
            · rw [if_pos k1, if_neg (by omega)] at hr
              have g1 : (t.kd != 1) = false := by simpa using k1
              have b1 : (t.kd == 1) = true := by simpa using k1
              have HR : Hid (wordB t.tx = r) := Lib.hid (by rw [← hr]; simp [hnn, hke])
              clear hr k0 k1 k3 hnn ih hin
              go_enter Tryz.func73, Tryz.ntmps73
              go_wp2_with (go_at_call 105; refine (HW.out _).mono ?_; rintro e w2 ⟨rfl, rfl⟩)
              go_ret
              exact ⟨ret_bool HR.out, bel1 _ _⟩
            · have g1 : (t.kd != 1) = true := by simpa using k1
              have b1 : (t.kd == 1) = false := by simpa using k1
              by_cases k2 : t.kd = 2
              · rw [if_neg k1, if_pos k2, if_neg (by omega)] at hr
                have g2 : (t.kd != 2) = false := by simpa using k2
                have b2 : (t.kd == 2) = true := by simpa using k2
                have HR : Hid (textB t.tx = r) := Lib.hid (by rw [← hr]; simp [hnn, hke])
                clear hr k0 k1 k2 k3 hnn ih hin
                go_enter Tryz.func73, Tryz.ntmps73
                go_wp2_with (go_at_call 106; refine (HX.out _).mono ?_; rintro e w2 ⟨rfl, rfl⟩)
                go_ret
                exact ⟨ret_bool HR.out, bel1 _ _⟩
              · have g2 : (t.kd != 2) = true := by simpa using k2
                have b2 : (t.kd == 2) = false := by simpa using k2
                have HR : Hid (false = r) := Lib.hid (by rw [← hr, if_neg k1, if_neg k2, if_neg k3]; simp)
                by_cases hx : t.tx.size = 0
                · have x1 := toList_nil hx
                  clear ih hin
                  go_enter Tryz.func73, Tryz.ntmps73
                  go_wp2_with fail
                  go_ret
                  exact ⟨ret_bool HR.out, bel1 _ _⟩
                · have x1 := toList_ne hx
                  have x2 : t.tx.toList.isEmpty = false := by simpa using x1
                  clear ih hin
                  go_enter Tryz.func73, Tryz.ntmps73
                  go_wp2_with fail
                  go_ret
                  exact ⟨ret_bool HR.out, bel1 _ _⟩
          · have hke : t.ks.isEmpty = false := by cases h : t.ks with
                                                  | nil => exact absurd (by rw [h]; rfl) hl
                                                  | cons _ _ => rfl
            have HR : Hid (false = r) := Lib.hid (by rw [← hr, hke, if_neg k3]; split <;> simp)
            have hl0 : 0 < t.ks.length := by omega
            clear ih hin
            go_enter Tryz.func73, Tryz.ntmps73
            go_wp2_with fail
            go_ret
            exact ⟨ret_bool HR.out, bel1 _ _⟩
      · have gn : (t.nn != 0) = true := by simpa using hnn
        have HR : Hid (false = r) := Lib.hid (by rw [← hr]; simp [hnn])
        clear ih hin
        go_enter Tryz.func73, Tryz.ntmps73
        go_wp2_with fail
        go_ret
        exact ⟨ret_bool HR.out, bel1 _ _⟩
theorem rfields_T (t : T) (w : World) (hin : In w t) : Calls Tryz.prog 73 #[t.val] w fun e w' => e = .returned (.bool (fieldsF t.form)) ∧ Below w.heap.size w w' :=
  rfields_any _ t (Nat.lt_succ_self _) w hin
theorem rsize_T (t : T) (w : World) (hin : In w t) (hb : szF t.form ≤ 4611686018427387903) : Calls Tryz.prog 107 #[t.val] w fun e w' => e = .returned (.int .i64 (szF t.form)) ∧ Below w.heap.size w w' :=
  rsize_any _ t (Nat.lt_succ_self _) w hin hb
theorem rdepth_T (t : T) (w : World) (hin : In w t) (hb : szF t.form ≤ 4611686018427387903) : Calls Tryz.prog 108 #[t.val] w fun e w' => e = .returned (.int .i64 (dpF t.form)) ∧ Below w.heap.size w w' :=
  rdepth_any _ t (Nat.lt_succ_self _) w hin hb
def smallF (f : Fm) : Bool := decide (szF f ≤ 20000) && decide (dpF f ≤ 100)
theorem rsmall_any (t : T) (w : World) (hin : In w t) (hb : szF t.form ≤ 4611686018427387903) :
    Calls Tryz.prog 74 #[t.val] w fun e w' => e = .returned (.bool (smallF t.form)) ∧ Below w.heap.size w w' := by
  have H1 := Lib.hid fun W (h : In W t) => rsize_T t W h hb
  have H2 := Lib.hid fun W (h : In W t) => rdepth_T t W h hb
  have HI := Lib.hid hin
  obtain ⟨r, hr⟩ : ∃ r, smallF t.form = r := ⟨_, rfl⟩
  rw [hr]
  unfold smallF at hr
  have hd := dpF_le_szF t.form
  generalize szF t.form = m at *
  generalize dpF t.form = q at *
  have hd2 : (q : Int) ≤ 4611686018427387903 := by omega
  clear hin hd
  by_cases h1 : m ≤ 20000
  · have g1 : (m : Int) ≤ 20000 := by omega
    by_cases h2 : q ≤ 100
    · have g2 : (q : Int) ≤ 100 := by omega
      have HR : Hid (true = r) := Lib.hid (by rw [← hr]; simp [h1, h2])
      clear hr h1 h2
      go_enter Tryz.func74, Tryz.ntmps74
      go_wp2_with (first
        | (go_at_call 107; refine (H1.out _ (HI.out.alloc _)).mono ?_; rintro e w2 ⟨rfl, hB⟩; obtain ⟨c0, c1, c2, c3⟩ := Box4.cells (w := w2) (b := w.heap.size) (t := t) ((hB.block _ (by simp)).trans (heap_alloc_new w _)); have HB := Lib.hid (up (bel1 _ _) hB); clear hB)
        | (go_at_call 108; refine (H2.out _ (HI.out.below HB.out)).mono ?_; rintro e w3 ⟨rfl, hB⟩; have HB3 := Lib.hid (up HB.out hB); clear hB))
      go_ret
      exact ⟨ret_bool HR.out, HB3.out⟩
    · have g2 : decide ((q : Int) ≤ 100) = false := by simp; omega
      have HR : Hid (false = r) := Lib.hid (by rw [← hr]; simp [h2])
      clear hr h1 h2
      go_enter Tryz.func74, Tryz.ntmps74
      go_wp2_with (first
        | (go_at_call 107; refine (H1.out _ (HI.out.alloc _)).mono ?_; rintro e w2 ⟨rfl, hB⟩; obtain ⟨c0, c1, c2, c3⟩ := Box4.cells (w := w2) (b := w.heap.size) (t := t) ((hB.block _ (by simp)).trans (heap_alloc_new w _)); have HB := Lib.hid (up (bel1 _ _) hB); clear hB)
        | (go_at_call 108; refine (H2.out _ (HI.out.below HB.out)).mono ?_; rintro e w3 ⟨rfl, hB⟩; have HB3 := Lib.hid (up HB.out hB); clear hB))
      go_ret
      exact ⟨ret_bool HR.out, HB3.out⟩
  · have g1 : ¬ (m : Int) ≤ 20000 := by omega
    have HR : Hid (false = r) := Lib.hid (by rw [← hr]; simp [h1])
    clear hr h1
    go_enter Tryz.func74, Tryz.ntmps74
    go_wp2_with (go_at_call 107; refine (H1.out _ (HI.out.alloc _)).mono ?_; rintro e w2 ⟨rfl, hB⟩; have HB := Lib.hid (up (bel1 _ _) hB); clear hB)
    go_ret
    exact ⟨ret_bool HR.out, HB.out⟩
theorem valid_small (f : Fm) : validF f = (fieldsF f && smallF f) := by
  unfold validF smallF
  cases fieldsF f <;> simp
theorem rvalid_any (t : T) (w : World) (hin : In w t) (hb : szF t.form ≤ 4611686018427387903) :
    Calls Tryz.prog 46 #[t.val] w fun e w' => e = .returned (.bool (validF t.form)) ∧ Below w.heap.size w w' := by
  have H1 := Lib.hid fun W (h : In W t) => rfields_T t W h
  have H2 := Lib.hid fun W (h : In W t) => rsmall_any t W h hb
  have HI := Lib.hid hin
  rw [valid_small]
  clear hin
  cases hf : fieldsF t.form with
  | false =>
    rw [hf] at H1
    clear hf
    go_enter Tryz.func46, Tryz.ntmps46
    go_wp2_with (go_at_call 73; refine (H1.out _ (HI.out.alloc _)).mono ?_; rintro e w2 ⟨rfl, hB⟩; have HB := Lib.hid (up (bel1 _ _) hB); clear hB)
    go_ret
    exact ⟨rfl, HB.out⟩
  | true =>
    rw [hf] at H1
    rw [Bool.true_and]
    clear hf
    obtain ⟨r, hr⟩ : ∃ r, smallF t.form = r := ⟨_, rfl⟩
    rw [hr] at H2 ⊢
    clear hr
    go_enter Tryz.func46, Tryz.ntmps46
    go_wp2_with (first
      | (go_at_call 73; refine (H1.out _ (HI.out.alloc _)).mono ?_; rintro e w2 ⟨rfl, hB⟩; obtain ⟨c0, c1, c2, c3⟩ := Box4.cells (w := w2) (b := w.heap.size) (t := t) ((hB.block _ (by simp)).trans (heap_alloc_new w _)); have HB := Lib.hid (up (bel1 _ _) hB); clear hB)
      | (go_at_call 74; refine (H2.out _ (HI.out.below HB.out)).mono ?_; rintro e w3 ⟨rfl, hB⟩; have HB3 := Lib.hid (up HB.out hB); clear hB))
    go_ret
    exact ⟨rfl, HB3.out⟩
end Go.Proofs.YtedabholcldgbaaGreatDoor
