/- The document's own Size and Depth. -/
import Derived.Test.YtedabholcldgbaaGreatDoorTxt
import Derived.Test.YtedabholcldgbaaGreatDoorBlk
namespace Go.Proofs.YtedabholcldgbaaGreatDoor
open Go.RowKit Go.Deep

theorem box_cells {W : World} {K : Nat} {t : T} {a : Option Addr} (h : Box4 W K t) (ha : t.ad = a) : W.cell? ⟨K, 0, none⟩ = some (.int .i64 t.kd) ∧ W.cell? ⟨K, 1, none⟩ = some (.int .i64 t.nn) ∧ W.cell? ⟨K, 2, none⟩ = some (.string t.tx) ∧ W.cell? ⟨K, 3, none⟩ = some (.slice a t.ks.length t.cp) := by
  subst ha; exact h.cells
theorem dpL_le_szL : ∀ l : List Fm, (∀ f ∈ l, dpF f ≤ szF f) → dpL l ≤ szL l
  | [], _ => by simp [dpL]
  | f :: fs, h => by
    have h1 := h f (by simp)
    have h2 := dpL_le_szL fs fun g hg => h g (by simp [hg])
    simp only [dpL, szL]; omega
theorem dpF_le_szF' (n : Nat) : ∀ f : Fm, SizeOf.sizeOf f < n → dpF f ≤ szF f := by
  induction n with
  | zero => intro f h; omega
  | succ n ih =>
    intro f h
    rw [dpF_eq, szF_eq]
    have := dpL_le_szL f.kids fun g hg => ih g (by have := Fm.kids_lt hg; omega)
    omega
theorem dpF_le_szF (f : Fm) : dpF f ≤ szF f := dpF_le_szF' _ f (Nat.lt_succ_self _)
theorem szL_next : ∀ (l : List Fm) (k : Nat) (h : k < l.length), szL (l.take (k + 1)) = szL (l.take k) + szF l[k]
  | f :: fs, 0, _ => by simp [szL]
  | f :: fs, k + 1, h => by
    have := szL_next fs k (by simpa using h)
    rw [List.take_succ_cons, List.take_succ_cons]
    simp only [szL, List.getElem_cons_succ]
    omega
theorem dpL_next : ∀ (l : List Fm) (k : Nat) (h : k < l.length), dpL (l.take (k + 1)) = max (dpL (l.take k)) (dpF l[k])
  | f :: fs, 0, _ => by simp [dpL]
  | f :: fs, k + 1, h => by
    have := dpL_next fs k (by simpa using h)
    rw [List.take_succ_cons, List.take_succ_cons]
    simp only [dpL, List.getElem_cons_succ]
    omega
theorem dpL_takes (l : List Fm) (k : Nat) : dpL (l.take k) ≤ dpL l := by
  induction l generalizing k with
  | nil => simp [dpL]
  | cons f fs ih => cases k with
    | zero => simp [dpL]
    | succ k => have := ih k; simp only [List.take_succ_cons, dpL]; omega
theorem szL_takesR (l : List Fm) (k : Nat) : szL (l.take k) ≤ szL l := by
  induction l generalizing k with
  | nil => simp [szL]
  | cons f fs ih => cases k with
    | zero => simp [szL]
    | succ k => have := ih k; simp only [List.take_succ_cons, szL]; omega
/-- The boxed form is there, and nothing old has turned. -/
def Boxed (w W : World) (t : T) : Prop := Box4 W w.heap.size t ∧ Below w.heap.size w W
theorem Boxed.start (w : World) (t : T) : Boxed w (w.alloc (.cells #[.int .i64 t.kd, .int .i64 t.nn, .string t.tx, .slice t.ad t.ks.length t.cp] 29)) t := ⟨heap_alloc_new w _, bel1 _ _⟩
theorem Boxed.next {w W W' : World} {t : T} (h : Boxed w W t) (hb : Below W.heap.size W W') : Boxed w W' t := ⟨(hb.block _ (lt_of_block h.1)).trans h.1, upB h.2 hb (Nat.le_refl _)⟩

set_option maxHeartbeats 2000000 in
theorem rsize_any (n : Nat) : ∀ t : T, SizeOf.sizeOf t < n → ∀ w, In w t → szF t.form ≤ 4611686018427387903 →
    Calls Tryz.prog 107 #[t.val] w fun e w' => e = .returned (.int .i64 (szF t.form)) ∧ Below w.heap.size w w' := by
  induction n with
  | zero => intro t h; omega
  | succ n ih =>
    intro t hn w hin hsz
    by_cases k3 : t.kd = 3
    · have b3 : (t.kd == 3) = true := by simpa using k3
      have hks : t.form.kids = t.ks.map T.form := by unfold Fm.kids; rw [T.form_kd, if_pos k3, T.form_ks]
      have hsf : szF t.form = 1 + szL (t.ks.map T.form) := by rw [szF_eq, hks]
      have n1 := Nat.le_trans hin.ok.le hin.ok.cp
      unfold maxLen at n1
      obtain ⟨a, ha⟩ : ∃ a, t.ad = a := ⟨_, rfl⟩
      have HK : Hid (∀ W, Below w.heap.size w W → InL W a 0 t.ks) := Lib.hid fun W h => by rw [← ha]; exact (hin.below h).inL
      have HAD := Lib.hid ha
      have IH := Lib.hid ih
      have HS : Hid (∀ k (h : k < t.ks.length), szL ((t.ks.map T.form).take (k + 1)) = szL ((t.ks.map T.form).take k) + szF t.ks[k].form) := Lib.hid fun k h => by
        have := szL_next (t.ks.map T.form) k (by simpa using h)
        simpa using this
      have HS2 : Hid (∀ k, szL ((t.ks.map T.form).take k) ≤ szL (t.ks.map T.form)) := Lib.hid fun k => szL_takesR _ _
      have HE : Hid (∀ k, t.ks.length ≤ k → szF t.form = 1 + szL ((t.ks.map T.form).take k)) := Lib.hid fun k h => by rw [List.take_of_length_le (by simpa using h)]; exact hsf
      have K0 := Lib.hid (Boxed.start w t)
      rw [hsf] at hsz
      clear ha ih hks hsf k3 hin
      go_enter Tryz.func107, Tryz.ntmps107
      go_wp2_with fail
      go_loopg [3, 4] (t.ks.length) (fun m s i wr => ∃ k x : Nat, k ≤ t.ks.length ∧ m = t.ks.length - k ∧ i = .int .i64 k ∧ s = .int .i64 x ∧ x = 1 + szL ((t.ks.map T.form).take k) ∧ Boxed w wr t)
      case atStart => exact ⟨0, 1, by omega, by omega, rfl, rfl, by simp [szL], K0.out⟩
      case round =>
        obtain ⟨k, x, hk, rfl, rfl, rfl, hx, hbx⟩ := hrel
        obtain ⟨c0, c1, c2, c3⟩ := box_cells hbx.1 HAD.out
        have HBX := Lib.hid hbx
        have hs2 := HS2.out k
        by_cases hlt : k < t.ks.length
        · obtain ⟨⟨b, o, rfl, hx0, hx1, hx2, hx3⟩, hink⟩ := (HK.out _ HBX.out.2).at k hlt
          have lb : b < wr.heap.size := World.block_lt_of_cell? _ _ hx0
          have hsk := HS.out k hlt
          have hs3 := HS2.out (k + 1)
          have hmk := List.getElem_mem hlt
          have HR := Lib.hid (IH.out t.ks[k] (by have := T.kid_lt hmk; omega) wr hink (by omega))
          have hb1 : (x : Int) + (szF t.ks[k].form : Int) ≤ 4611686018427387904 := by omega
          have HX : Hid (x + szF t.ks[k].form = 1 + szL ((t.ks.map T.form).take (k + 1))) := Lib.hid (by omega)
          clear hbx hx hsk hs3 hs2 hink
          go_wp2_with (go_at_call 107; refine HR.out.mono ?_; rintro e w2 ⟨rfl, hB⟩; have HB := Lib.hid hB; clear hB)
          go_roundg (t.ks.length - (k + 1))
          case measure => omega
          case rel => exact ⟨k + 1, x + szF t.ks[k].form, by omega, rfl, by go_num, by go_num, HX.out, HBX.out.next HB.out⟩
        · have HX : Hid (szF t.form = x) := Lib.hid (by rw [HE.out k (by omega)]; omega)
          clear hbx hx hs2
          go_wp2_with fail
          go_ret
          exact ⟨ret_int (by rw [HX.out]), HBX.out.2⟩
    · have b3 : (t.kd == 3) = false := by simpa using k3
      have hsf : szF t.form = 1 := by rw [szF_eq]; unfold Fm.kids; rw [T.form_kd, if_neg k3]; rfl
      rw [hsf]
      clear ih hsf k3 hsz
      go_enter Tryz.func107, Tryz.ntmps107
      go_wp2_with fail
      go_loopg [3, 4] (0) (fun m s i wr => m = 0 ∧ i = .int .i64 0 ∧ s = .int .i64 1 ∧ wr = w.alloc (.cells #[.int .i64 t.kd, .int .i64 t.nn, .string t.tx, .slice t.ad t.ks.length t.cp] 29))
      case atStart => exact ⟨rfl, rfl, rfl, rfl⟩
      case round =>
        obtain ⟨_, rfl, rfl, rfl⟩ := hrel
        go_wp2_with fail
        go_ret
        exact ⟨rfl, bel1 _ _⟩

set_option maxHeartbeats 2000000 in
theorem rdepth_any (n : Nat) : ∀ t : T, SizeOf.sizeOf t < n → ∀ w, In w t → szF t.form ≤ 4611686018427387903 →
    Calls Tryz.prog 108 #[t.val] w fun e w' => e = .returned (.int .i64 (dpF t.form)) ∧ Below w.heap.size w w' := by
  induction n with
  | zero => intro t h; omega
  | succ n ih =>
    intro t hn w hin hsz
    by_cases k3 : t.kd = 3
    · have b3 : (t.kd == 3) = true := by simpa using k3
      have hks : t.form.kids = t.ks.map T.form := by unfold Fm.kids; rw [T.form_kd, if_pos k3, T.form_ks]
      have hsf : szF t.form = 1 + szL (t.ks.map T.form) := by rw [szF_eq, hks]
      have hdf : dpF t.form = 1 + dpL (t.ks.map T.form) := by rw [dpF_eq, hks]
      have hds := dpL_le_szL (t.ks.map T.form) fun f _ => dpF_le_szF f
      have n1 := Nat.le_trans hin.ok.le hin.ok.cp
      unfold maxLen at n1
      obtain ⟨a, ha⟩ : ∃ a, t.ad = a := ⟨_, rfl⟩
      have HK : Hid (∀ W, Below w.heap.size w W → InL W a 0 t.ks) := Lib.hid fun W h => by rw [← ha]; exact (hin.below h).inL
      have HAD := Lib.hid ha
      have IH := Lib.hid ih
      have HS : Hid (∀ k (h : k < t.ks.length), dpL ((t.ks.map T.form).take (k + 1)) = max (dpL ((t.ks.map T.form).take k)) (dpF t.ks[k].form)) := Lib.hid fun k h => by
        have := dpL_next (t.ks.map T.form) k (by simpa using h)
        simpa using this
      have HS2 : Hid (∀ k, dpL ((t.ks.map T.form).take k) ≤ dpL (t.ks.map T.form)) := Lib.hid fun k => dpL_takes _ _
      have HSZ : Hid (∀ k (h : k < t.ks.length), szF t.ks[k].form ≤ szL (t.ks.map T.form)) := Lib.hid fun k h => szL_le (List.mem_map_of_mem (List.getElem_mem h))
      have HE : Hid (∀ k, t.ks.length ≤ k → dpF t.form = 1 + dpL ((t.ks.map T.form).take k)) := Lib.hid fun k h => by rw [List.take_of_length_le (by simpa using h)]; exact hdf
      have K0 := Lib.hid (Boxed.start w t)
      rw [hsf] at hsz
      clear ha ih hks hsf hdf k3 hin
      go_enter Tryz.func108, Tryz.ntmps108
      go_wp2_with fail
      go_loopg [3, 4] (t.ks.length) (fun m s i wr => ∃ k x : Nat, k ≤ t.ks.length ∧ m = t.ks.length - k ∧ i = .int .i64 k ∧ s = .int .i64 x ∧ x = dpL ((t.ks.map T.form).take k) ∧ Boxed w wr t)
      case atStart => exact ⟨0, 0, by omega, by omega, rfl, rfl, by simp [dpL], K0.out⟩
      case round =>
        obtain ⟨k, x, hk, rfl, rfl, rfl, hx, hbx⟩ := hrel
        obtain ⟨c0, c1, c2, c3⟩ := box_cells hbx.1 HAD.out
        have HBX := Lib.hid hbx
        have hs2 := HS2.out k
        have hx9 : (x : Int) ≤ 4611686018427387904 := by omega
        by_cases hlt : k < t.ks.length
        · obtain ⟨⟨b, o, rfl, hx0, hx1, hx2, hx3⟩, hink⟩ := (HK.out _ HBX.out.2).at k hlt
          have lb : b < wr.heap.size := World.block_lt_of_cell? _ _ hx0
          have hsk := HS.out k hlt
          have hsz3 := HSZ.out k hlt
          have hmk := List.getElem_mem hlt
          have HR := Lib.hid (IH.out t.ks[k] (by have := T.kid_lt hmk; omega) wr hink (by omega))
          have HX : Hid (max x (dpF t.ks[k].form) = dpL ((t.ks.map T.form).take (k + 1))) := Lib.hid (by omega)
          clear hbx hx hsk hs2 hink hsz3
          go_wp2_with (go_at_call 108; refine HR.out.mono ?_; rintro e w2 ⟨rfl, hB⟩; have HB := Lib.hid hB; clear hB)
          go_roundg (t.ks.length - (k + 1))
          case measure => omega
          case rel => exact ⟨k + 1, max x (dpF t.ks[k].form), by omega, rfl, by go_num, by go_num, HX.out, HBX.out.next HB.out⟩
        · have HX : Hid (dpF t.form = x + 1) := Lib.hid (by rw [HE.out k (by omega)]; omega)
          clear hbx hx hs2
          go_wp2_with fail
          go_ret
          exact ⟨ret_int (by rw [HX.out]; omega), HBX.out.2⟩
    · have b3 : (t.kd == 3) = false := by simpa using k3
      have hsf : dpF t.form = 1 := by rw [dpF_eq]; unfold Fm.kids; rw [T.form_kd, if_neg k3]; rfl
      rw [hsf]
      clear ih hsf k3 hsz
      go_enter Tryz.func108, Tryz.ntmps108
      go_wp2_with fail
      go_loopg [3, 4] (0) (fun m s i wr => m = 0 ∧ i = .int .i64 0 ∧ s = .int .i64 0 ∧ wr = w.alloc (.cells #[.int .i64 t.kd, .int .i64 t.nn, .string t.tx, .slice t.ad t.ks.length t.cp] 29))
      case atStart => exact ⟨rfl, rfl, rfl, rfl⟩
      case round =>
        obtain ⟨_, rfl, rfl, rfl⟩ := hrel
        go_wp2_with fail
        go_ret
        exact ⟨rfl, bel1 _ _⟩
end Go.Proofs.YtedabholcldgbaaGreatDoor
