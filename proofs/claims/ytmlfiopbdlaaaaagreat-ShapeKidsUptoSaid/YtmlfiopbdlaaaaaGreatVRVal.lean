/- The document's Valid, over XVal. -/
import Derived.Test.YtmlfiopbdlaaaaaGreatVal
namespace Go.Proofs.YtmlfiopbdlaaaaaGreat
open Go.RowKit Go.Deep
theorem box_cells {W : World} {K : Nat} {t : T} {a : Option Addr} (h : Box4 W K t) (ha : t.ad = a) : W.cell? ⟨K, 0, none⟩ = some (.int .i64 t.kd) ∧ W.cell? ⟨K, 1, none⟩ = some (.int .i64 t.nn) ∧ W.cell? ⟨K, 2, none⟩ = some (.string t.tx) ∧ W.cell? ⟨K, 3, none⟩ = some (.slice a t.ks.length t.cp) := by
  subst ha; exact h.cells
theorem dpL_le_szL : ∀ l : List Fm, (∀ f ∈ l, dpF f ≤ szF f) → dpL l ≤ szL l
  | [], _ => by simp [dpL]
  | f :: fs, h => by
    have h1 := h f (by simp)
    have h2 := dpL_le_szL fs fun g hg => h g (by simp [hg])
    simp only [dpL, szL]; omega
theorem dpF_le_szF' (n : Nat) : ∀ f : Fm, SizeOf.sizeOf f < n → dpF f ≤ szF f := by
  induction n with
  | zero => intro f h; omega
  | succ n ih =>
    intro f h
    rw [dpF_eq, szF_eq]
    have := dpL_le_szL f.kids fun g hg => ih g (by have := Fm.kids_lt hg; omega)
    omega
theorem dpF_le_szF (f : Fm) : dpF f ≤ szF f := dpF_le_szF' _ f (Nat.lt_succ_self _)
theorem szL_next : ∀ (l : List Fm) (k : Nat) (h : k < l.length), szL (l.take (k + 1)) = szL (l.take k) + szF l[k]
  | f :: fs, 0, _ => by simp [szL]
  | f :: fs, k + 1, h => by
    have := szL_next fs k (by simpa using h)
    rw [List.take_succ_cons, List.take_succ_cons]
    simp only [szL, List.getElem_cons_succ]
    omega
theorem dpL_next : ∀ (l : List Fm) (k : Nat) (h : k < l.length), dpL (l.take (k + 1)) = max (dpL (l.take k)) (dpF l[k])
  | f :: fs, 0, _ => by simp [dpL]
  | f :: fs, k + 1, h => by
    have := dpL_next fs k (by simpa using h)
    rw [List.take_succ_cons, List.take_succ_cons]
    simp only [dpL, List.getElem_cons_succ]
    omega
theorem dpL_takes (l : List Fm) (k : Nat) : dpL (l.take k) ≤ dpL l := by
  induction l generalizing k with
  | nil => simp [dpL]
  | cons f fs ih => cases k with
    | zero => simp [dpL]
    | succ k => have := ih k; simp only [List.take_succ_cons, dpL]; omega
theorem szL_takesR (l : List Fm) (k : Nat) : szL (l.take k) ≤ szL l := by
  induction l generalizing k with
  | nil => simp [szL]
  | cons f fs ih => cases k with
    | zero => simp [szL]
    | succ k => have := ih k; simp only [List.take_succ_cons, szL]; omega
def Boxed (w W : World) (t : T) : Prop := Box4 W w.heap.size t ∧ Below w.heap.size w W
theorem Boxed.start (w : World) (t : T) : Boxed w (w.alloc (.cells #[.int .i64 t.kd, .int .i64 t.nn, .string t.tx, .slice t.ad t.ks.length t.cp] 24)) t := ⟨heap_alloc_new w _, bel1 _ _⟩
theorem Boxed.next {w W W' : World} {t : T} (h : Boxed w W t) (hb : Below W.heap.size W W') : Boxed w W' t := ⟨(hb.block _ (lt_of_block h.1)).trans h.1, upB h.2 hb (Nat.le_refl _)⟩
set_option maxHeartbeats 2000000 in
theorem rsize_any (n : Nat) : ∀ t : T, SizeOf.sizeOf t < n → ∀ w, In w t → szF t.form ≤ 4611686018427387903 →
    Calls Tryz.prog 161 #[t.val] w fun e w' => e = .returned (.int .i64 (szF t.form)) ∧ Below w.heap.size w w' := by
  induction n with
  | zero => intro t h; omega
  | succ n ih =>
    intro t hn w hin hsz
    by_cases k3 : t.kd = 3
    · have b3 : (t.kd == 3) = true := by simpa using k3
      have hks : t.form.kids = t.ks.map T.form := by unfold Fm.kids; rw [T.form_kd, if_pos k3, T.form_ks]
      have hsf : szF t.form = 1 + szL (t.ks.map T.form) := by rw [szF_eq, hks]
      have n1 := Nat.le_trans hin.ok.le hin.ok.cp
      unfold maxLen at n1
      obtain ⟨a, ha⟩ : ∃ a, t.ad = a := ⟨_, rfl⟩
      have HK : Hid (∀ W, Below w.heap.size w W → InL W a 0 t.ks) := Lib.hid fun W h => by rw [← ha]; exact (hin.below h).inL
      have HAD := Lib.hid ha
      have IH := Lib.hid ih
      have HS : Hid (∀ k (h : k < t.ks.length), szL ((t.ks.map T.form).take (k + 1)) = szL ((t.ks.map T.form).take k) + szF t.ks[k].form) := Lib.hid fun k h => by
        have := szL_next (t.ks.map T.form) k (by simpa using h)
        simpa using this
      have HS2 : Hid (∀ k, szL ((t.ks.map T.form).take k) ≤ szL (t.ks.map T.form)) := Lib.hid fun k => szL_takesR _ _
      have HE : Hid (∀ k, t.ks.length ≤ k → szF t.form = 1 + szL ((t.ks.map T.form).take k)) := Lib.hid fun k h => by rw [List.take_of_length_le (by simpa using h)]; exact hsf
      have K0 := Lib.hid (Boxed.start w t)
      rw [hsf] at hsz
      clear ha ih hks hsf k3 hin
      go_enter Tryz.func161, Tryz.ntmps161
      go_wp2_with fail
      go_loopg [3, 4] (t.ks.length) (fun m s i wr => ∃ k x : Nat, k ≤ t.ks.length ∧ m = t.ks.length - k ∧ i = .int .i64 k ∧ s = .int .i64 x ∧ x = 1 + szL ((t.ks.map T.form).take k) ∧ Boxed w wr t)
      case atStart => exact ⟨0, 1, by omega, by omega, rfl, rfl, by simp [szL], K0.out⟩
      case round =>
        obtain ⟨k, x, hk, rfl, rfl, rfl, hx, hbx⟩ := hrel
        obtain ⟨c0, c1, c2, c3⟩ := box_cells hbx.1 HAD.out
        have HBX := Lib.hid hbx
        have hs2 := HS2.out k
        by_cases hlt : k < t.ks.length
        · obtain ⟨⟨b, o, rfl, hx0, hx1, hx2, hx3⟩, hink⟩ := (HK.out _ HBX.out.2).at k hlt
          have lb : b < wr.heap.size := World.block_lt_of_cell? _ _ hx0
          have hsk := HS.out k hlt
          have hs3 := HS2.out (k + 1)
          have hmk := List.getElem_mem hlt
          have HR := Lib.hid (IH.out t.ks[k] (by have := T.kid_lt hmk; omega) wr hink (by omega))
          have hb1 : (x : Int) + (szF t.ks[k].form : Int) ≤ 4611686018427387904 := by omega
          have HX : Hid (x + szF t.ks[k].form = 1 + szL ((t.ks.map T.form).take (k + 1))) := Lib.hid (by omega)
          clear hbx hx hsk hs3 hs2 hink
          go_wp2_with (go_at_call 161; refine HR.out.mono ?_; rintro e w2 ⟨rfl, hB⟩; have HB := Lib.hid hB; clear hB)
          go_roundg (t.ks.length - (k + 1))
          case measure => omega
          case rel => exact ⟨k + 1, x + szF t.ks[k].form, by omega, rfl, by go_num, by go_num, HX.out, HBX.out.next HB.out⟩
        · have HX : Hid (szF t.form = x) := Lib.hid (by rw [HE.out k (by omega)]; omega)
          clear hbx hx hs2
          go_wp2_with fail
          go_ret
          exact ⟨ret_int (by rw [HX.out]), HBX.out.2⟩
    · have b3 : (t.kd == 3) = false := by simpa using k3
      have hsf : szF t.form = 1 := by rw [szF_eq]; unfold Fm.kids; rw [T.form_kd, if_neg k3]; rfl
      rw [hsf]
      clear ih hsf k3 hsz
      go_enter Tryz.func161, Tryz.ntmps161
      go_wp2_with fail
      go_loopg [3, 4] (0) (fun m s i wr => m = 0 ∧ i = .int .i64 0 ∧ s = .int .i64 1 ∧ wr = w.alloc (.cells #[.int .i64 t.kd, .int .i64 t.nn, .string t.tx, .slice t.ad t.ks.length t.cp] 24))
      case atStart => exact ⟨rfl, rfl, rfl, rfl⟩
      case round =>
        obtain ⟨_, rfl, rfl, rfl⟩ := hrel
        go_wp2_with fail
        go_ret
        exact ⟨rfl, bel1 _ _⟩
set_option maxHeartbeats 2000000 in
theorem rdepth_any (n : Nat) : ∀ t : T, SizeOf.sizeOf t < n → ∀ w, In w t → szF t.form ≤ 4611686018427387903 →
    Calls Tryz.prog 162 #[t.val] w fun e w' => e = .returned (.int .i64 (dpF t.form)) ∧ Below w.heap.size w w' := by
  induction n with
  | zero => intro t h; omega
  | succ n ih =>
    intro t hn w hin hsz
    by_cases k3 : t.kd = 3
    · have b3 : (t.kd == 3) = true := by simpa using k3
      have hks : t.form.kids = t.ks.map T.form := by unfold Fm.kids; rw [T.form_kd, if_pos k3, T.form_ks]
      have hsf : szF t.form = 1 + szL (t.ks.map T.form) := by rw [szF_eq, hks]
      have hdf : dpF t.form = 1 + dpL (t.ks.map T.form) := by rw [dpF_eq, hks]
      have hds := dpL_le_szL (t.ks.map T.form) fun f _ => dpF_le_szF f
      have n1 := Nat.le_trans hin.ok.le hin.ok.cp
      unfold maxLen at n1
      obtain ⟨a, ha⟩ : ∃ a, t.ad = a := ⟨_, rfl⟩
      have HK : Hid (∀ W, Below w.heap.size w W → InL W a 0 t.ks) := Lib.hid fun W h => by rw [← ha]; exact (hin.below h).inL
      have HAD := Lib.hid ha
      have IH := Lib.hid ih
      have HS : Hid (∀ k (h : k < t.ks.length), dpL ((t.ks.map T.form).take (k + 1)) = max (dpL ((t.ks.map T.form).take k)) (dpF t.ks[k].form)) := Lib.hid fun k h => by
        have := dpL_next (t.ks.map T.form) k (by simpa using h)
        simpa using this
      have HS2 : Hid (∀ k, dpL ((t.ks.map T.form).take k) ≤ dpL (t.ks.map T.form)) := Lib.hid fun k => dpL_takes _ _
      have HSZ : Hid (∀ k (h : k < t.ks.length), szF t.ks[k].form ≤ szL (t.ks.map T.form)) := Lib.hid fun k h => szL_le (List.mem_map_of_mem (List.getElem_mem h))
      have HE : Hid (∀ k, t.ks.length ≤ k → dpF t.form = 1 + dpL ((t.ks.map T.form).take k)) := Lib.hid fun k h => by rw [List.take_of_length_le (by simpa using h)]; exact hdf
      have K0 := Lib.hid (Boxed.start w t)
      rw [hsf] at hsz
      clear ha ih hks hsf hdf k3 hin
      go_enter Tryz.func162, Tryz.ntmps162
      go_wp2_with fail
      go_loopg [3, 4] (t.ks.length) (fun m s i wr => ∃ k x : Nat, k ≤ t.ks.length ∧ m = t.ks.length - k ∧ i = .int .i64 k ∧ s = .int .i64 x ∧ x = dpL ((t.ks.map T.form).take k) ∧ Boxed w wr t)
      case atStart => exact ⟨0, 0, by omega, by omega, rfl, rfl, by simp [dpL], K0.out⟩
      case round =>
        obtain ⟨k, x, hk, rfl, rfl, rfl, hx, hbx⟩ := hrel
        obtain ⟨c0, c1, c2, c3⟩ := box_cells hbx.1 HAD.out
        have HBX := Lib.hid hbx
        have hs2 := HS2.out k
        have hx9 : (x : Int) ≤ 4611686018427387904 := by omega
        by_cases hlt : k < t.ks.length
        · obtain ⟨⟨b, o, rfl, hx0, hx1, hx2, hx3⟩, hink⟩ := (HK.out _ HBX.out.2).at k hlt
          have lb : b < wr.heap.size := World.block_lt_of_cell? _ _ hx0
          have hsk := HS.out k hlt
          have hsz3 := HSZ.out k hlt
          have hmk := List.getElem_mem hlt
          have HR := Lib.hid (IH.out t.ks[k] (by have := T.kid_lt hmk; omega) wr hink (by omega))
          have HX : Hid (max x (dpF t.ks[k].form) = dpL ((t.ks.map T.form).take (k + 1))) := Lib.hid (by omega)
          clear hbx hx hsk hs2 hink hsz3
          go_wp2_with (go_at_call 162; refine HR.out.mono ?_; rintro e w2 ⟨rfl, hB⟩; have HB := Lib.hid hB; clear hB)
          go_roundg (t.ks.length - (k + 1))
          case measure => omega
          case rel => exact ⟨k + 1, max x (dpF t.ks[k].form), by omega, rfl, by go_num, by go_num, HX.out, HBX.out.next HB.out⟩
        · have HX : Hid (dpF t.form = x + 1) := Lib.hid (by rw [HE.out k (by omega)]; omega)
          clear hbx hx hs2
          go_wp2_with fail
          go_ret
          exact ⟨ret_int (by rw [HX.out]; omega), HBX.out.2⟩
    · have b3 : (t.kd == 3) = false := by simpa using k3
      have hsf : dpF t.form = 1 := by rw [dpF_eq]; unfold Fm.kids; rw [T.form_kd, if_neg k3]; rfl
      rw [hsf]
      clear ih hsf k3 hsz
      go_enter Tryz.func162, Tryz.ntmps162
      go_wp2_with fail
      go_loopg [3, 4] (0) (fun m s i wr => m = 0 ∧ i = .int .i64 0 ∧ s = .int .i64 0 ∧ wr = w.alloc (.cells #[.int .i64 t.kd, .int .i64 t.nn, .string t.tx, .slice t.ad t.ks.length t.cp] 24))
      case atStart => exact ⟨rfl, rfl, rfl, rfl⟩
      case round =>
        obtain ⟨_, rfl, rfl, rfl⟩ := hrel
        go_wp2_with fail
        go_ret
        exact ⟨rfl, bel1 _ _⟩
theorem visible_ok : BOk 196 tokB := by
  intro b w
  by_cases h1 : 33 ≤ b
  · by_cases h2 : b ≤ 126
    · by_cases h3 : b = 40
      · subst h3
        go_enter Tryz.func196, Tryz.ntmps196
        go_wp2
        go_ret
        exact ⟨rfl, rfl⟩
      · by_cases h4 : b = 41
        · subst h4
          go_enter Tryz.func196, Tryz.ntmps196
          go_wp2
          go_ret
          exact ⟨rfl, rfl⟩
        · by_cases h5 : b = 34
          · subst h5
            go_enter Tryz.func196, Tryz.ntmps196
            go_wp2
            go_ret
            exact ⟨rfl, rfl⟩
          · by_cases h6 : b = 59
            · subst h6
              go_enter Tryz.func196, Tryz.ntmps196
              go_wp2
              go_ret
              exact ⟨rfl, rfl⟩
            · have e : tokB b = true := by simp [tokB, plainB, h1, h2, h3, h4, h5, h6]
              rw [e]
              have g3 : (b != 40) = true := by simpa using h3
              have g4 : (b != 41) = true := by simpa using h4
              have g5 : (b != 34) = true := by simpa using h5
              have g6 : (b != 59) = true := by simpa using h6
              clear h3 h4 h5 h6 e
              go_enter Tryz.func196, Tryz.ntmps196
              go_wp2
              go_ret
              exact ⟨rfl, rfl⟩
    · have e : tokB b = false := by simp [tokB, plainB, h2]
      rw [e]
      have h2' : decide (b ≤ 126) = false := by simpa using h2
      go_enter Tryz.func196, Tryz.ntmps196
      go_wp2
      go_ret
      exact ⟨rfl, rfl⟩
  · have e : tokB b = false := by simp [tokB, plainB, h1]
    rw [e]
    have h1' : decide (33 ≤ b) = false := by simpa using h1
    go_enter Tryz.func196, Tryz.ntmps196
    go_wp2
    go_ret
    exact ⟨rfl, rfl⟩
def digsB (d : ByteArray) : Bool := !(d.size == 0) && allB digB d
theorem extract_list (s : ByteArray) : (s.extract 1 s.size).data.toList = s.data.toList.drop 1 := by
  rw [ByteArray.data_extract, Array.toList_extract]
  simp [List.take_of_length_le]
theorem isEmpty_size (d : ByteArray) : d.data.toList.isEmpty = (d.size == 0) := by
  cases h : d.data.toList with
  | nil => have : d.size = 0 := by have := congrArg List.length h; simpa using this
           simp [this]
  | cons a r => have : d.size = r.length + 1 := by have := congrArg List.length h; simpa using this
                simp [this]
theorem numB_trim {s : ByteArray} (h : 1 < s.size) (h0 : s[0].toNat = 45) : numB s = digsB (s.extract 1 s.size) := by
  have hl : s.data.toList = s[0] :: s.data.toList.drop 1 := by
    exact List.drop_eq_getElem_cons (l := s.data.toList) (i := 0) (by simp; omega)
  have ht : Lib.trimPrefix s.data.toList [45] = s.data.toList.drop 1 := by
    have e : s[0] = 45 := by rw [← UInt8.toNat_inj]; simpa using h0
    unfold Lib.trimPrefix
    rw [if_pos]
    · rfl
    · rw [hl, e]; simp [Lib.hasPrefix]
  unfold numB numL digsB allB
  rw [ht, ← isEmpty_size, extract_list]
theorem numB_plain {s : ByteArray} (h : ¬ (1 < s.size ∧ ∃ h : 0 < s.size, (s[0]'h).toNat = 45)) : numB s = digsB s := by
  by_cases hp : ∃ h : 0 < s.size, (s[0]'h).toNat = 45
  · obtain ⟨h0, h1⟩ := hp
    have hs : s.size = 1 := by
      by_cases e : 1 < s.size
      · exact absurd ⟨e, h0, h1⟩ h
      · omega
    have e : s[0] = 45 := by rw [← UInt8.toNat_inj]; simpa using h1
    have hl : s.data.toList = [45] := by
      have := List.drop_eq_getElem_cons (l := s.data.toList) (i := 0) (by simp; omega)
      have h2 : s.data.toList.drop 1 = [] := List.drop_of_length_le (by simp; omega)
      simp only [List.drop_zero, Nat.zero_add] at this
      rw [h2] at this
      rw [this]
      have : s.data.toList[0]'(by simp; omega) = s[0] := rfl
      rw [this, e]
    unfold numB numL digsB allB
    rw [hl, hs]
    decide
  · have ht : Lib.trimPrefix s.data.toList [45] = s.data.toList := by
      unfold Lib.trimPrefix
      rw [if_neg]
      intro hpre
      apply hp
      cases hl : s.data.toList with
      | nil => rw [hl] at hpre; simp [Lib.hasPrefix] at hpre
      | cons a r =>
        rw [hl] at hpre
        have hz : 0 < s.size := by have := congrArg List.length hl; simp at this; omega
        refine ⟨hz, ?_⟩
        have e1 : s[0] = a := by
          have : s.data.toList[0]'(by simpa using hz) = a := by simp [hl]
          exact this
        rw [e1]
        simp [Lib.hasPrefix] at hpre
        rw [← hpre]
        rfl
    unfold numB numL digsB allB
    rw [ht, ← isEmpty_size]
set_option maxHeartbeats 1000000 in
theorem digits_any (s : ByteArray) (hs : s.size ≤ maxLen) (w : World) :
    Calls Tryz.prog 197 #[.string s] w fun e w' => e = .returned (.bool (numB s)) ∧ w = w' := by
  unfold maxLen at hs
  by_cases hp : 1 < s.size ∧ ∃ h : 0 < s.size, (s[0]'h).toNat = 45
  · obtain ⟨h1, h0, h2⟩ := hp
    obtain ⟨r, hr⟩ : ∃ r, digsB (s.extract 1 s.size) = r := ⟨_, rfl⟩
    rw [numB_trim h1 h2, hr]
    have HR := Lib.hid hr
    clear hr
    have g1 : (1 : Int) < (s.size : Int) := by omega
    have g2 : ((s[0].toNat : Int) == 45) = true := by simp; omega
    have hds : (s.extract 1 s.size).size = s.size - 1 := by simp
    have HD := Lib.hid hds
    clear h2 hds
    go_enter Tryz.func197, Tryz.ntmps197
    go_wp2_with fail
    generalize hdd : s.extract 1 s.size = d
    have hd2 : d.size ≤ 9223372036854775807 := by rw [← hdd, HD.out]; omega
    have HRD : Hid (digsB d = r) := Lib.hid (by rw [← hdd]; exact HR.out)
    clear hdd HD hs g1 g2 HR
    by_cases hz : d.size = 0
    · have z1 := toList_nil hz
      have HN : Hid (digsB d = false) := Lib.hid (by unfold digsB; simp [hz])
      go_loopg [3] (0) (fun m i wr => m = 0 ∧ i = .int .i64 0 ∧ w = wr)
      case atStart => exact ⟨rfl, rfl, rfl⟩
      case round =>
        obtain ⟨_, rfl, rfl⟩ := hrel
        have hz0 : ¬ 0 < d.size := by omega
        clear hz
        go_wp2_with fail
        go_ret
        exact ⟨ret_bool (by rw [← HRD.out, HN.out]), rfl⟩
    · have z1 := toList_ne hz
      have z2 : (d.toList.isEmpty) = false := by simpa using z1
      have z3 : (!d.toList.isEmpty) = true := by simpa using z1
      have HN : Hid (digsB d = allB digB d) := Lib.hid (by unfold digsB; simp [hz])
      go_loopg [3] (d.size) (fun m i wr => ∃ k : Nat, k ≤ d.size ∧ m = d.size - k ∧ i = .int .i64 k ∧ AllTo digB d k ∧ w = wr)
      case atStart => exact ⟨0, by omega, rfl, rfl, fun j _ h => absurd h (by omega), rfl⟩
      case round =>
        obtain ⟨k, hk, rfl, rfl, hL, rfl⟩ := hrel
        have HZ := Lib.hid hz
        have Z1 := Lib.hid z1
        clear hz z1
        by_cases hlt : k < d.size
        · by_cases b1 : d[k].toNat < 48
          · have g1 : decide ((d[k].toNat : Int) < 48) = true := by simp; omega
            have HS := Lib.hid (AllTo.stop hlt (p := digB) (by simp [digB]; omega))
            clear b1 hL
            go_wp2_with fail
            go_ret
            exact ⟨ret_bool (by rw [← HRD.out, HN.out, HS.out]), rfl⟩
          · have g1 : decide ((d[k].toNat : Int) < 48) = false := by simp; omega
            by_cases b2 : 57 < d[k].toNat
            · have g2 : decide ((57 : Int) < (d[k].toNat : Int)) = true := by simp; omega
              have HS := Lib.hid (AllTo.stop hlt (p := digB) (by simp [digB]; omega))
              clear b1 b2 hL
              go_wp2_with fail
              go_ret
              exact ⟨ret_bool (by rw [← HRD.out, HN.out, HS.out]), rfl⟩
            · have g2 : decide ((57 : Int) < (d[k].toNat : Int)) = false := by simp; omega
              have HS := Lib.hid (hL.step hlt (by simp [digB]; omega))
              clear b1 b2 hL
              go_wp2_with fail
              go_roundg (d.size - (k + 1))
              case measure => omega
              case rel => exact ⟨k + 1, by omega, rfl, by go_num, HS.out, rfl⟩
        · have HS := Lib.hid (hL.ends (by omega))
          clear hL
          go_wp2_with fail
          go_ret
          exact ⟨ret_bool (by rw [← HRD.out, HN.out, HS.out]), rfl⟩
  · obtain ⟨r, hr⟩ : ∃ r, digsB s = r := ⟨_, rfl⟩
    rw [numB_plain hp, hr]
    have HRD := Lib.hid hr
    clear hr
    by_cases h1 : 1 < s.size
    · have g1 : (1 : Int) < (s.size : Int) := by omega
      have g2 : ((s[0].toNat : Int) == 45) = false := by
        have : s[0].toNat ≠ 45 := fun e => hp ⟨h1, by omega, e⟩
        simp; omega
      clear hp
      go_enter Tryz.func197, Tryz.ntmps197
      go_wp2_with fail
      obtain ⟨d, rfl⟩ : ∃ d, d = s := ⟨_, rfl⟩
      have hd2 : d.size ≤ 9223372036854775807 := by omega
      clear hs g1 g2 h1
      by_cases hz : d.size = 0
      · have z1 := toList_nil hz
        have HN : Hid (digsB d = false) := Lib.hid (by unfold digsB; simp [hz])
        go_loopg [3] (0) (fun m i wr => m = 0 ∧ i = .int .i64 0 ∧ w = wr)
        case atStart => exact ⟨rfl, rfl, rfl⟩
        case round =>
          obtain ⟨_, rfl, rfl⟩ := hrel
          have hz0 : ¬ 0 < d.size := by omega
          clear hz
          go_wp2_with fail
          all_goals
            go_ret
            exact ⟨ret_bool (by rw [← HRD.out, HN.out]), rfl⟩
      · have z1 := toList_ne hz
        have z2 : (d.toList.isEmpty) = false := by simpa using z1
        have z3 : (!d.toList.isEmpty) = true := by simpa using z1
        have HN : Hid (digsB d = allB digB d) := Lib.hid (by unfold digsB; simp [hz])
        go_loopg [3] (d.size) (fun m i wr => ∃ k : Nat, k ≤ d.size ∧ m = d.size - k ∧ i = .int .i64 k ∧ AllTo digB d k ∧ w = wr)
        case atStart => exact ⟨0, by omega, rfl, rfl, fun j _ h => absurd h (by omega), rfl⟩
        case round =>
          obtain ⟨k, hk, rfl, rfl, hL, rfl⟩ := hrel
          have HZ := Lib.hid hz
          have Z1 := Lib.hid z1
          clear hz z1
          by_cases hlt : k < d.size
          · by_cases b1 : d[k].toNat < 48
            · have g1 : decide ((d[k].toNat : Int) < 48) = true := by simp; omega
              have HS := Lib.hid (AllTo.stop hlt (p := digB) (by simp [digB]; omega))
              clear b1 hL
              go_wp2_with fail
              go_ret
              exact ⟨ret_bool (by rw [← HRD.out, HN.out, HS.out]), rfl⟩
            · have g1 : decide ((d[k].toNat : Int) < 48) = false := by simp; omega
              by_cases b2 : 57 < d[k].toNat
              · have g2 : decide ((57 : Int) < (d[k].toNat : Int)) = true := by simp; omega
                have HS := Lib.hid (AllTo.stop hlt (p := digB) (by simp [digB]; omega))
                clear b1 b2 hL
                go_wp2_with fail
                go_ret
                exact ⟨ret_bool (by rw [← HRD.out, HN.out, HS.out]), rfl⟩
              · have g2 : decide ((57 : Int) < (d[k].toNat : Int)) = false := by simp; omega
                have HS := Lib.hid (hL.step hlt (by simp [digB]; omega))
                clear b1 b2 hL
                go_wp2_with fail
                go_roundg (d.size - (k + 1))
                case measure => omega
                case rel => exact ⟨k + 1, by omega, rfl, by go_num, HS.out, rfl⟩
          · have HS := Lib.hid (hL.ends (by omega))
            clear hL
            go_wp2_with fail
            go_ret
            exact ⟨ret_bool (by rw [← HRD.out, HN.out, HS.out]), rfl⟩
    · have g1 : ¬ (1 : Int) < (s.size : Int) := by omega
      clear hp
      go_enter Tryz.func197, Tryz.ntmps197
      go_wp2_with fail
      obtain ⟨d, rfl⟩ : ∃ d, d = s := ⟨_, rfl⟩
      have hd2 : d.size ≤ 9223372036854775807 := by omega
      clear hs g1 h1
      by_cases hz : d.size = 0
      · have z1 := toList_nil hz
        have HN : Hid (digsB d = false) := Lib.hid (by unfold digsB; simp [hz])
        go_loopg [3] (0) (fun m i wr => m = 0 ∧ i = .int .i64 0 ∧ w = wr)
        case atStart => exact ⟨rfl, rfl, rfl⟩
        case round =>
          obtain ⟨_, rfl, rfl⟩ := hrel
          have hz0 : ¬ 0 < d.size := by omega
          clear hz
          go_wp2_with fail
          go_ret
          exact ⟨ret_bool (by rw [← HRD.out, HN.out]), rfl⟩
      · have z1 := toList_ne hz
        have z2 : (d.toList.isEmpty) = false := by simpa using z1
        have z3 : (!d.toList.isEmpty) = true := by simpa using z1
        have HN : Hid (digsB d = allB digB d) := Lib.hid (by unfold digsB; simp [hz])
        go_loopg [3] (d.size) (fun m i wr => ∃ k : Nat, k ≤ d.size ∧ m = d.size - k ∧ i = .int .i64 k ∧ AllTo digB d k ∧ w = wr)
        case atStart => exact ⟨0, by omega, rfl, rfl, fun j _ h => absurd h (by omega), rfl⟩
        case round =>
          obtain ⟨k, hk, rfl, rfl, hL, rfl⟩ := hrel
          have HZ := Lib.hid hz
          have Z1 := Lib.hid z1
          clear hz z1
          by_cases hlt : k < d.size
          · by_cases b1 : d[k].toNat < 48
            · have g1 : decide ((d[k].toNat : Int) < 48) = true := by simp; omega
              have HS := Lib.hid (AllTo.stop hlt (p := digB) (by simp [digB]; omega))
              clear b1 hL
              go_wp2_with fail
              go_ret
              exact ⟨ret_bool (by rw [← HRD.out, HN.out, HS.out]), rfl⟩
            · have g1 : decide ((d[k].toNat : Int) < 48) = false := by simp; omega
              by_cases b2 : 57 < d[k].toNat
              · have g2 : decide ((57 : Int) < (d[k].toNat : Int)) = true := by simp; omega
                have HS := Lib.hid (AllTo.stop hlt (p := digB) (by simp [digB]; omega))
                clear b1 b2 hL
                go_wp2_with fail
                go_ret
                exact ⟨ret_bool (by rw [← HRD.out, HN.out, HS.out]), rfl⟩
              · have g2 : decide ((57 : Int) < (d[k].toNat : Int)) = false := by simp; omega
                have HS := Lib.hid (hL.step hlt (by simp [digB]; omega))
                clear b1 b2 hL
                go_wp2_with fail
                go_roundg (d.size - (k + 1))
                case measure => omega
                case rel => exact ⟨k + 1, by omega, rfl, by go_num, HS.out, rfl⟩
          · have HS := Lib.hid (hL.ends (by omega))
            clear hL
            go_wp2_with fail
            go_ret
            exact ⟨ret_bool (by rw [← HRD.out, HN.out, HS.out]), rfl⟩
set_option maxHeartbeats 1000000 in
theorem rword_any (s : ByteArray) (hs : s.size ≤ maxLen) (w : World) :
    Calls Tryz.prog 159 #[.string s] w fun e w' => e = .returned (.bool (wordB s)) ∧ w = w' := by
  have HD := Lib.hid (digits_any s hs)
  unfold maxLen at hs
  obtain ⟨r, hr⟩ : ∃ r, wordB s = r := ⟨_, rfl⟩
  rw [hr]
  have HR := Lib.hid hr
  clear hr
  go_enter Tryz.func159, Tryz.ntmps159
  go_wp2_with fail
  go_loopg [3] (s.size) (fun m i wr => ∃ k : Nat, k ≤ s.size ∧ m = s.size - k ∧ i = .int .i64 k ∧ AllTo tokB s k ∧ w = wr)
  case atStart => exact ⟨0, by omega, rfl, rfl, fun j _ h => absurd h (by omega), rfl⟩
  case round =>
    obtain ⟨k, hk, rfl, rfl, hL, rfl⟩ := hrel
    by_cases hlt : k < s.size
    · have HP := Lib.hid (visible_ok (s[k].toNat : Int) w)
      cases hp : tokB (s[k].toNat : Int) with
      | true =>
        rw [hp] at HP
        have HS := Lib.hid (hL.step hlt hp)
        clear hp hL
        go_wp2_with (go_at_call 196; refine (HP.out).mono ?_; rintro e w2 ⟨rfl, rfl⟩)
        go_roundg (s.size - (k + 1))
        case measure => omega
        case rel => exact ⟨k + 1, by omega, rfl, by go_num, HS.out, rfl⟩
      | false =>
        rw [hp] at HP
        have HS : Hid (false = r) := Lib.hid (by rw [← HR.out]; unfold wordB; rw [AllTo.stop hlt hp]; simp)
        clear hp hL
        go_wp2_with (go_at_call 196; refine (HP.out).mono ?_; rintro e w2 ⟨rfl, rfl⟩)
        go_ret
        exact ⟨ret_bool HS.out, rfl⟩
    · have ha := hL.ends (by omega)
      have HN := HR.out
      unfold wordB at HN
      rw [ha] at HN
      clear hL ha
      by_cases z1 : 1 ≤ s.size
      · by_cases z2 : s.size ≤ 30
        · have HS : Hid ((!numB s) = r) := Lib.hid (by rw [← HN]; simp [z1, z2])
          have z3 : (s.size : Int) ≤ 30 := by omega
          have z4 : (1 : Int) ≤ (s.size : Int) := by omega
          clear HN
          go_wp2_with (go_at_call 197; refine (HD.out _).mono ?_; rintro e w2 ⟨rfl, rfl⟩)
          go_ret
          exact ⟨ret_bool HS.out, rfl⟩
        · have HS : Hid (false = r) := Lib.hid (by rw [← HN]; simp [z2])
          have z3 : ¬ (s.size : Int) ≤ 30 := by omega
          have z4 : (1 : Int) ≤ (s.size : Int) := by omega
          clear HN
          go_wp2_with fail
          go_ret
          exact ⟨ret_bool HS.out, rfl⟩
      · have HS : Hid (false = r) := Lib.hid (by rw [← HN]; simp [z1])
        have z4 : ¬ (1 : Int) ≤ (s.size : Int) := by omega
        clear HN
        go_wp2_with fail
        go_ret
        exact ⟨ret_bool HS.out, rfl⟩
set_option maxHeartbeats 1000000 in
theorem rtext_ok (s : ByteArray) (hs : s.size ≤ maxLen) (w : World) :
    Calls Tryz.prog 160 #[.string s] w fun e w' => e = .returned (.bool (textB s)) ∧ w = w' := by
  unfold maxLen at hs
  obtain ⟨r, hr⟩ : ∃ r, textB s = r := ⟨_, rfl⟩
  rw [hr]
  have HR := Lib.hid hr
  clear hr
  go_enter Tryz.func160, Tryz.ntmps160
  go_wp2_with fail
  go_loopg [3] (s.size) (fun m i wr => ∃ k : Nat, k ≤ s.size ∧ m = s.size - k ∧ i = .int .i64 k ∧ AllTo txtB s k ∧ w = wr)
  case atStart => exact ⟨0, by omega, rfl, rfl, fun j _ h => absurd h (by omega), rfl⟩
  case round =>
    obtain ⟨k, hk, rfl, rfl, hL, rfl⟩ := hrel
    by_cases hlt : k < s.size
    · by_cases b0 : s[k].toNat = 10
      · have g0 : ((s[k].toNat : Int) != 10) = false := by simp; omega
        have HS := Lib.hid (hL.step hlt (by simp [txtB, b0]))
        clear b0 hL
        go_wp2_with fail
        go_roundg (s.size - (k + 1))
        case measure => omega
        case rel => exact ⟨k + 1, by omega, rfl, by go_num, HS.out, rfl⟩
      · have g0 : ((s[k].toNat : Int) != 10) = true := by simp; omega
        by_cases b1 : s[k].toNat < 32
        · have g1 : decide ((s[k].toNat : Int) < 32) = true := by simp; omega
          have HS : Hid (false = r) := Lib.hid (by rw [← HR.out]; unfold textB; rw [AllTo.stop hlt (p := txtB) (by simp [txtB, plainB]; omega)]; simp)
          clear b0 b1 hL
          go_wp2_with fail
          go_ret
          exact ⟨ret_bool HS.out, rfl⟩
        · have g1 : decide ((s[k].toNat : Int) < 32) = false := by simp; omega
          by_cases b2 : 126 < s[k].toNat
          · have g2 : decide ((126 : Int) < (s[k].toNat : Int)) = true := by simp; omega
            have HS : Hid (false = r) := Lib.hid (by rw [← HR.out]; unfold textB; rw [AllTo.stop hlt (p := txtB) (by simp [txtB, plainB]; omega)]; simp)
            clear b0 b1 b2 hL
            go_wp2_with fail
            go_ret
            exact ⟨ret_bool HS.out, rfl⟩
          · have g2 : decide ((126 : Int) < (s[k].toNat : Int)) = false := by simp; omega
            have HS := Lib.hid (hL.step hlt (by simp [txtB, plainB]; omega))
            clear b0 b1 b2 hL
            go_wp2_with fail
            go_roundg (s.size - (k + 1))
            case measure => omega
            case rel => exact ⟨k + 1, by omega, rfl, by go_num, HS.out, rfl⟩
    · have ha := hL.ends (by omega)
      have HN := HR.out
      unfold textB at HN
      rw [ha, Bool.and_true] at HN
      clear hL ha
      by_cases z2 : s.size ≤ 2000
      · have HS : Hid (true = r) := Lib.hid (by rw [← HN]; simp [z2])
        have z3 : (s.size : Int) ≤ 2000 := by omega
        clear HN
        go_wp2_with fail
        go_ret
        exact ⟨ret_bool HS.out, rfl⟩
      · have HS : Hid (false = r) := Lib.hid (by rw [← HN]; simp [z2])
        have z3 : ¬ (s.size : Int) ≤ 2000 := by omega
        clear HN
        go_wp2_with fail
        go_ret
        exact ⟨ret_bool HS.out, rfl⟩
def FldTo (ks : List T) (k : Nat) : Prop := ∀ j (h : j < ks.length), j < k → fieldsF ks[j].form = true
theorem FldTo.step {ks : List T} {k : Nat} (h : FldTo ks k) (hk : k < ks.length) (hv : fieldsF ks[k].form = true) : FldTo ks (k + 1) := by
  intro j hj hlt
  by_cases e : j = k
  · subst e; exact hv
  · exact h j hj (by omega)
theorem fieldsL_all : ∀ l : List Fm, fieldsL l = l.all fieldsF
  | [] => by simp [fieldsL]
  | f :: fs => by simp [fieldsL, fieldsL_all fs]
theorem FldTo.ends {ks : List T} {k : Nat} (h : FldTo ks k) (hk : ks.length ≤ k) : fieldsL (ks.map T.form) = true := by
  rw [fieldsL_all, List.all_eq_true]
  intro f hf
  obtain ⟨t, ht, rfl⟩ := List.mem_map.1 hf
  obtain ⟨j, hj, rfl⟩ := List.getElem_of_mem ht
  exact h j hj (by omega)
theorem FldTo.stop {ks : List T} {k : Nat} (hk : k < ks.length) (hv : fieldsF ks[k].form = false) : fieldsL (ks.map T.form) = false := by
  rw [fieldsL_all, List.all_eq_false]
  exact ⟨ks[k].form, List.mem_map_of_mem (List.getElem_mem hk), by rw [hv]; simp⟩
theorem fieldsT (t : T) : fieldsF t.form = (aloneF t.form && (if t.kd = 3 then fieldsL (t.ks.map T.form) else true)) := by
  rw [fieldsF_eq]
  unfold Fm.kids
  rw [T.form_kd, T.form_ks]
  split <;> simp [fieldsL]
set_option maxHeartbeats 4000000 in
theorem rfields_any (n : Nat) : ∀ t : T, SizeOf.sizeOf t < n → ∀ w, In w t →
    Calls Tryz.prog 100 #[t.val] w fun e w' => e = .returned (.bool (fieldsF t.form)) ∧ Below w.heap.size w w' := by
  induction n with
  | zero => intro t h; omega
  | succ n ih =>
    intro t hn w hin
    have HW := Lib.hid (rword_any t.tx hin.ok.tx)
    have HX := Lib.hid (rtext_ok t.tx hin.ok.tx)
    obtain ⟨r, hr⟩ : ∃ r, fieldsF t.form = r := ⟨_, rfl⟩
    rw [hr]
    have n1 := Nat.le_trans hin.ok.le hin.ok.cp
    unfold maxLen at n1
    rw [fieldsT, aloneT] at hr
    by_cases k0 : t.kd = 0
    · rw [if_pos k0, if_neg (by omega), Bool.and_true] at hr
      by_cases hl : t.ks.length = 0
      · have hke : t.ks.isEmpty = true := by simpa using List.length_eq_zero_iff.1 hl
        rw [hke, Bool.and_true] at hr
        by_cases hx : t.tx.size = 0
        · have x1 := toList_nil hx
          simp only [hx, rangeB] at hr
          by_cases r1 : -1152921504606846976 ≤ t.nn
          · by_cases r2 : t.nn ≤ 1152921504606846976
            · have HR : Hid (true = r) := Lib.hid (by rw [← hr]; simp [r1, r2])
              clear ih hin
              go_enter Tryz.func100, Tryz.ntmps100
              go_wp2_with fail
              go_ret
              exact ⟨ret_bool HR.out, bel1 _ _⟩
            · have HR : Hid (false = r) := Lib.hid (by rw [← hr]; simp [r2])
              have r3 : decide (t.nn ≤ 1152921504606846976) = false := by simpa using r2
              clear ih hin
              go_enter Tryz.func100, Tryz.ntmps100
              go_wp2_with fail
              go_ret
              exact ⟨ret_bool HR.out, bel1 _ _⟩
          · have HR : Hid (false = r) := Lib.hid (by rw [← hr]; simp [r1])
            have r3 : decide (-1152921504606846976 ≤ t.nn) = false := by simpa using r1
            clear ih hin
            go_enter Tryz.func100, Tryz.ntmps100
            go_wp2_with fail
            go_ret
            exact ⟨ret_bool HR.out, bel1 _ _⟩
        · have x1 := toList_ne hx
          have x2 : t.tx.toList.isEmpty = false := by simpa using x1
          have HR : Hid (false = r) := Lib.hid (by rw [← hr]; simp [hx])
          clear ih hin
          go_enter Tryz.func100, Tryz.ntmps100
          go_wp2_with fail
          go_ret
          exact ⟨ret_bool HR.out, bel1 _ _⟩
      · have hke : t.ks.isEmpty = false := by cases h : t.ks with
                                              | nil => exact absurd (by rw [h]; rfl) hl
                                              | cons _ _ => rfl
        have HR : Hid (false = r) := Lib.hid (by rw [← hr, hke]; simp)
        have hl0 : 0 < t.ks.length := by omega
        clear ih hin
        go_enter Tryz.func100, Tryz.ntmps100
        go_wp2_with fail
        go_ret
        exact ⟨ret_bool HR.out, bel1 _ _⟩
    · rw [if_neg k0] at hr
      have g0 : (t.kd != 0) = true := by simpa using k0
      have b0 : (t.kd == 0) = false := by simpa using k0
      by_cases hnn : t.nn = 0
      · have gn : (t.nn != 0) = false := by simpa using hnn
        by_cases k3 : t.kd = 3
        · rw [if_neg (by omega), if_neg (by omega), if_pos k3, if_pos k3] at hr
          have g3 : (t.kd != 3) = false := by simpa using k3
          have b3 : (t.kd == 3) = true := by simpa using k3
          have g1 : (t.kd != 1) = true := by simp; omega
          have g2 : (t.kd != 2) = true := by simp; omega
          have b1 : (t.kd == 1) = false := by simp; omega
          have b2 : (t.kd == 2) = false := by simp; omega
          by_cases hx : t.tx.size = 0
          · have x1 := toList_nil hx
            have HR : Hid (fieldsL (t.ks.map T.form) = r) := Lib.hid (by rw [← hr]; simp [hnn, hx])
            obtain ⟨a, ha⟩ : ∃ a, t.ad = a := ⟨_, rfl⟩
            have HK : Hid (∀ W, Below w.heap.size w W → InL W a 0 t.ks) := Lib.hid fun W h => by rw [← ha]; exact (hin.below h).inL
            have HAD := Lib.hid ha
            have IH := Lib.hid ih
            have K0 := Lib.hid (Boxed.start w t)
            clear ha ih hin hr k0 k3 hnn hx HW HX
            go_enter Tryz.func100, Tryz.ntmps100
            go_wp2_with fail
            go_loopg [3] (t.ks.length) (fun m i wr => ∃ k : Nat, k ≤ t.ks.length ∧ m = t.ks.length - k ∧ i = .int .i64 k ∧ FldTo t.ks k ∧ Boxed w wr t)
            case atStart => exact ⟨0, by omega, by omega, rfl, fun j _ h => absurd h (by omega), K0.out⟩
            case round =>
              obtain ⟨k, hk, rfl, rfl, hf, hbx⟩ := hrel
              obtain ⟨c0, c1, c2, c3⟩ := box_cells hbx.1 HAD.out
              have HBX := Lib.hid hbx
              by_cases hlt : k < t.ks.length
              · obtain ⟨⟨b, o, rfl, hx0, hx1, hx2, hx3⟩, hink⟩ := (HK.out _ HBX.out.2).at k hlt
                have lb : b < wr.heap.size := World.block_lt_of_cell? _ _ hx0
                have hmk := List.getElem_mem hlt
                have HC := Lib.hid (IH.out t.ks[k] (by have := T.kid_lt hmk; omega) wr hink)
                cases hv : fieldsF t.ks[k].form with
                | true =>
                  rw [hv] at HC
                  have HS := Lib.hid (hf.step hlt hv)
                  clear hv hf hbx hink
                  go_wp2_with (go_at_call 100; refine HC.out.mono ?_; rintro e w2 ⟨rfl, hB⟩; have HB := Lib.hid hB; clear hB)
                  go_roundg (t.ks.length - (k + 1))
                  case measure => omega
                  case rel => exact ⟨k + 1, by omega, rfl, by go_num, HS.out, HBX.out.next HB.out⟩
                | false =>
                  rw [hv] at HC
                  have HS : Hid (false = r) := Lib.hid (by rw [← HR.out, FldTo.stop hlt hv])
                  clear hv hf hbx hink
                  go_wp2_with (go_at_call 100; refine HC.out.mono ?_; rintro e w2 ⟨rfl, hB⟩; have HB := Lib.hid hB; clear hB)
                  go_ret
                  exact ⟨ret_bool HS.out, (HBX.out.next HB.out).2⟩
              · have HS : Hid (true = r) := Lib.hid (by rw [← HR.out, hf.ends (by omega)])
                clear hf hbx
                go_wp2_with fail
                go_ret
                exact ⟨ret_bool HS.out, HBX.out.2⟩
          · have x1 := toList_ne hx
            have x2 : t.tx.toList.isEmpty = false := by simpa using x1
            have HR : Hid (false = r) := Lib.hid (by rw [← hr]; simp [hx])
            clear ih hin
            go_enter Tryz.func100, Tryz.ntmps100
            go_wp2_with fail
            go_ret
            exact ⟨ret_bool HR.out, bel1 _ _⟩
        · have g3 : (t.kd != 3) = true := by simpa using k3
          have b3 : (t.kd == 3) = false := by simpa using k3
          by_cases hl : t.ks.length = 0
          · have hke : t.ks.isEmpty = true := by simpa using List.length_eq_zero_iff.1 hl
            have hl0 : ¬ 0 < t.ks.length := by omega
            by_cases k1 : t.kd = 1
            · rw [if_pos k1, if_neg (by omega)] at hr
              have g1 : (t.kd != 1) = false := by simpa using k1
              have b1 : (t.kd == 1) = true := by simpa using k1
              have HR : Hid (wordB t.tx = r) := Lib.hid (by rw [← hr]; simp [hnn, hke])
              clear hr k0 k1 k3 hnn ih hin
              go_enter Tryz.func100, Tryz.ntmps100
              go_wp2_with (go_at_call 159; refine (HW.out _).mono ?_; rintro e w2 ⟨rfl, rfl⟩)
              go_ret
              exact ⟨ret_bool HR.out, bel1 _ _⟩
            · have g1 : (t.kd != 1) = true := by simpa using k1
              have b1 : (t.kd == 1) = false := by simpa using k1
              by_cases k2 : t.kd = 2
              · rw [if_neg k1, if_pos k2, if_neg (by omega)] at hr
                have g2 : (t.kd != 2) = false := by simpa using k2
                have b2 : (t.kd == 2) = true := by simpa using k2
                have HR : Hid (textB t.tx = r) := Lib.hid (by rw [← hr]; simp [hnn, hke])
                clear hr k0 k1 k2 k3 hnn ih hin
                go_enter Tryz.func100, Tryz.ntmps100
                go_wp2_with (go_at_call 160; refine (HX.out _).mono ?_; rintro e w2 ⟨rfl, rfl⟩)
                go_ret
                exact ⟨ret_bool HR.out, bel1 _ _⟩
              · have g2 : (t.kd != 2) = true := by simpa using k2
                have b2 : (t.kd == 2) = false := by simpa using k2
                have HR : Hid (false = r) := Lib.hid (by rw [← hr, if_neg k1, if_neg k2, if_neg k3]; simp)
                by_cases hx : t.tx.size = 0
                · have x1 := toList_nil hx
                  clear ih hin
                  go_enter Tryz.func100, Tryz.ntmps100
                  go_wp2_with fail
                  go_ret
                  exact ⟨ret_bool HR.out, bel1 _ _⟩
                · have x1 := toList_ne hx
                  have x2 : t.tx.toList.isEmpty = false := by simpa using x1
                  clear ih hin
                  go_enter Tryz.func100, Tryz.ntmps100
                  go_wp2_with fail
                  go_ret
                  exact ⟨ret_bool HR.out, bel1 _ _⟩
          · have hke : t.ks.isEmpty = false := by cases h : t.ks with
                                                  | nil => exact absurd (by rw [h]; rfl) hl
                                                  | cons _ _ => rfl
            have HR : Hid (false = r) := Lib.hid (by rw [← hr, hke, if_neg k3]; split <;> simp)
            have hl0 : 0 < t.ks.length := by omega
            clear ih hin
            go_enter Tryz.func100, Tryz.ntmps100
            go_wp2_with fail
            go_ret
            exact ⟨ret_bool HR.out, bel1 _ _⟩
      · have gn : (t.nn != 0) = true := by simpa using hnn
        have HR : Hid (false = r) := Lib.hid (by rw [← hr]; simp [hnn])
        clear ih hin
        go_enter Tryz.func100, Tryz.ntmps100
        go_wp2_with fail
        go_ret
        exact ⟨ret_bool HR.out, bel1 _ _⟩
theorem rfields_T (t : T) (w : World) (hin : In w t) : Calls Tryz.prog 100 #[t.val] w fun e w' => e = .returned (.bool (fieldsF t.form)) ∧ Below w.heap.size w w' :=
  rfields_any _ t (Nat.lt_succ_self _) w hin
theorem rsize_T (t : T) (w : World) (hin : In w t) (hb : szF t.form ≤ 4611686018427387903) : Calls Tryz.prog 161 #[t.val] w fun e w' => e = .returned (.int .i64 (szF t.form)) ∧ Below w.heap.size w w' :=
  rsize_any _ t (Nat.lt_succ_self _) w hin hb
theorem rdepth_T (t : T) (w : World) (hin : In w t) (hb : szF t.form ≤ 4611686018427387903) : Calls Tryz.prog 162 #[t.val] w fun e w' => e = .returned (.int .i64 (dpF t.form)) ∧ Below w.heap.size w w' :=
  rdepth_any _ t (Nat.lt_succ_self _) w hin hb
def smallF (f : Fm) : Bool := decide (szF f ≤ 20000) && decide (dpF f ≤ 100)
theorem rsmall_any (t : T) (w : World) (hin : In w t) (hb : szF t.form ≤ 4611686018427387903) :
    Calls Tryz.prog 101 #[t.val] w fun e w' => e = .returned (.bool (smallF t.form)) ∧ Below w.heap.size w w' := by
  have H1 := Lib.hid fun W (h : In W t) => rsize_T t W h hb
  have H2 := Lib.hid fun W (h : In W t) => rdepth_T t W h hb
  have HI := Lib.hid hin
  obtain ⟨r, hr⟩ : ∃ r, smallF t.form = r := ⟨_, rfl⟩
  rw [hr]
  unfold smallF at hr
  have hd := dpF_le_szF t.form
  generalize szF t.form = m at *
  generalize dpF t.form = q at *
  have hd2 : (q : Int) ≤ 4611686018427387903 := by omega
  clear hin hd
  by_cases h1 : m ≤ 20000
  · have g1 : (m : Int) ≤ 20000 := by omega
    by_cases h2 : q ≤ 100
    · have g2 : (q : Int) ≤ 100 := by omega
      have HR : Hid (true = r) := Lib.hid (by rw [← hr]; simp [h1, h2])
      clear hr h1 h2
      go_enter Tryz.func101, Tryz.ntmps101
      go_wp2_with (first
        | (go_at_call 161; refine (H1.out _ (HI.out.alloc _)).mono ?_; rintro e w2 ⟨rfl, hB⟩; obtain ⟨c0, c1, c2, c3⟩ := Box4.cells (w := w2) (b := w.heap.size) (t := t) ((hB.block _ (by simp)).trans (heap_alloc_new w _)); have HB := Lib.hid (up (bel1 _ _) hB); clear hB)
        | (go_at_call 162; refine (H2.out _ (HI.out.below HB.out)).mono ?_; rintro e w3 ⟨rfl, hB⟩; have HB3 := Lib.hid (up HB.out hB); clear hB))
      go_ret
      exact ⟨ret_bool HR.out, HB3.out⟩
    · have g2 : decide ((q : Int) ≤ 100) = false := by simp; omega
      have HR : Hid (false = r) := Lib.hid (by rw [← hr]; simp [h2])
      clear hr h1 h2
      go_enter Tryz.func101, Tryz.ntmps101
      go_wp2_with (first
        | (go_at_call 161; refine (H1.out _ (HI.out.alloc _)).mono ?_; rintro e w2 ⟨rfl, hB⟩; obtain ⟨c0, c1, c2, c3⟩ := Box4.cells (w := w2) (b := w.heap.size) (t := t) ((hB.block _ (by simp)).trans (heap_alloc_new w _)); have HB := Lib.hid (up (bel1 _ _) hB); clear hB)
        | (go_at_call 162; refine (H2.out _ (HI.out.below HB.out)).mono ?_; rintro e w3 ⟨rfl, hB⟩; have HB3 := Lib.hid (up HB.out hB); clear hB))
      go_ret
      exact ⟨ret_bool HR.out, HB3.out⟩
  · have g1 : ¬ (m : Int) ≤ 20000 := by omega
    have HR : Hid (false = r) := Lib.hid (by rw [← hr]; simp [h1])
    clear hr h1
    go_enter Tryz.func101, Tryz.ntmps101
    go_wp2_with (go_at_call 161; refine (H1.out _ (HI.out.alloc _)).mono ?_; rintro e w2 ⟨rfl, hB⟩; have HB := Lib.hid (up (bel1 _ _) hB); clear hB)
    go_ret
    exact ⟨ret_bool HR.out, HB.out⟩
theorem valid_small (f : Fm) : validF f = (fieldsF f && smallF f) := by
  unfold validF smallF
  cases fieldsF f <;> simp
theorem rvalid_any (t : T) (w : World) (hin : In w t) (hb : szF t.form ≤ 4611686018427387903) :
    Calls Tryz.prog 60 #[t.val] w fun e w' => e = .returned (.bool (validF t.form)) ∧ Below w.heap.size w w' := by
  have H1 := Lib.hid fun W (h : In W t) => rfields_T t W h
  have H2 := Lib.hid fun W (h : In W t) => rsmall_any t W h hb
  have HI := Lib.hid hin
  rw [valid_small]
  clear hin
  cases hf : fieldsF t.form with
  | false =>
    rw [hf] at H1
    clear hf
    go_enter Tryz.func60, Tryz.ntmps60
    go_wp2_with (go_at_call 100; refine (H1.out _ (HI.out.alloc _)).mono ?_; rintro e w2 ⟨rfl, hB⟩; have HB := Lib.hid (up (bel1 _ _) hB); clear hB)
    go_ret
    exact ⟨rfl, HB.out⟩
  | true =>
    rw [hf] at H1
    rw [Bool.true_and]
    clear hf
    obtain ⟨r, hr⟩ : ∃ r, smallF t.form = r := ⟨_, rfl⟩
    rw [hr] at H2 ⊢
    clear hr
    go_enter Tryz.func60, Tryz.ntmps60
    go_wp2_with (first
      | (go_at_call 100; refine (H1.out _ (HI.out.alloc _)).mono ?_; rintro e w2 ⟨rfl, hB⟩; obtain ⟨c0, c1, c2, c3⟩ := Box4.cells (w := w2) (b := w.heap.size) (t := t) ((hB.block _ (by simp)).trans (heap_alloc_new w _)); have HB := Lib.hid (up (bel1 _ _) hB); clear hB)
      | (go_at_call 101; refine (H2.out _ (HI.out.below HB.out)).mono ?_; rintro e w3 ⟨rfl, hB⟩; have HB3 := Lib.hid (up HB.out hB); clear hB))
    go_ret
    exact ⟨rfl, HB3.out⟩
end Go.Proofs.YtmlfiopbdlaaaaaGreat
