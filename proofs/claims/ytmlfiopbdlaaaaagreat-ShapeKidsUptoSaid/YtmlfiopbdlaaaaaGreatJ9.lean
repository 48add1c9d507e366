/- Several texts, one behind the other. -/
import Derived.Test.YtmlfiopbdlaaaaaGreatJ6
import Derived.Test.YtmlfiopbdlaaaaaGreatVReC
import Derived.Test.YtmlfiopbdlaaaaaGreatVRVal
import Derived.Deep.AppendLies
namespace Go.Proofs.YtmlfiopbdlaaaaaGreat
open Go.RowKit Go.Deep
def AnsR (P : Prop) (w : World) (e : Ending) (w' : World) : Prop := ∃ q : Int, e = .returned (.int .i64 q) ∧ (q = 0 ↔ P) ∧ Below w.heap.size w w'
theorem AnsR.yes {P : Prop} {w w' : World} {e : Ending} (h : AnsR P w e w') (hP : P) : e = .returned (.int .i64 0) ∧ Below w.heap.size w w' := by
  obtain ⟨q, h1, h2, h3⟩ := h
  obtain rfl := h2.2 hP
  exact ⟨h1, h3⟩
theorem AnsR.no {P : Prop} {w w' : World} {e : Ending} (h : AnsR P w e w') (hP : ¬ P) : ∃ q : Int, q ≠ 0 ∧ (q == 0) = false ∧ (q != 0) = true ∧ e = .returned (.int .i64 q) ∧ Below w.heap.size w w' := by
  obtain ⟨q, h1, h2, h3⟩ := h
  have hq : q ≠ 0 := fun e => hP (h2.1 e)
  exact ⟨q, hq, by simpa using hq, by simpa using hq, h1, h3⟩
theorem AnsR.of0 {P : Prop} {w w' : World} (hP : P) (hB : Below w.heap.size w w') : AnsR P w (.returned (.int .i64 0)) w' := ⟨0, rfl, by simp [hP], hB⟩
theorem AnsR.ofNo {P : Prop} {w w' : World} {q : Int} (hq : q ≠ 0) (hP : ¬ P) (hB : Below w.heap.size w w') : AnsR P w (.returned (.int .i64 q)) w' := ⟨q, rfl, by simp [hP, hq], hB⟩
theorem AnsR.iff {P Q : Prop} {w w' : World} {e : Ending} (h : AnsR P w e w') (hpq : P ↔ Q) : AnsR Q w e w' := by
  obtain ⟨q, h1, h2, h3⟩ := h; exact ⟨q, h1, h2.trans hpq, h3⟩
theorem AnsR.up {P : Prop} {w w1 w' : World} {e : Ending} (h : AnsR P w1 e w') (hB : Below w.heap.size w w1) : AnsR P w e w' := by
  obtain ⟨q, h1, h2, h3⟩ := h; exact ⟨q, h1, h2, Go.Proofs.YtmlfiopbdlaaaaaGreat.up hB h3⟩
def UpTo (P : T → Prop) (l : List T) (k : Nat) : Prop := ∀ j (h : j < l.length), j < k → P l[j]
theorem UpTo.start (P : T → Prop) (l : List T) : UpTo P l 0 := fun j _ h => absurd h (by omega)
theorem UpTo.step {P : T → Prop} {l : List T} {k : Nat} (h : UpTo P l k) (hk : k < l.length) (hv : P l[k]) : UpTo P l (k + 1) := fun j hj hj2 => by
  by_cases e : j = k
  · subst e; exact hv
  · exact h j hj (by omega)
theorem UpTo.ends {P : T → Prop} {l : List T} {k : Nat} (h : UpTo P l k) (hk : l.length ≤ k) : ∀ u ∈ l, P u := fun u hu => by
  obtain ⟨j, hj, rfl⟩ := List.getElem_of_mem hu
  exact h j hj (by omega)
set_option maxHeartbeats 1000000 in
theorem rhead_any (t : T) (w : World) (hin : In w t) :
    Calls Tryz.prog 31 #[t.val] w fun e w' => e = .returned (.string (headF t.form)) ∧ Below w.heap.size w w' := by
  by_cases k3 : t.kd = 3
  · have b3 : (t.kd != 3) = false := by simpa using k3
    have hks : t.form.kids = t.ks.map T.form := by unfold Fm.kids; rw [T.form_kd, if_pos k3, T.form_ks]
    have n1 := Nat.le_trans hin.ok.le hin.ok.cp
    unfold maxLen at n1
    obtain ⟨l, hl⟩ : ∃ l, t.ks = l := ⟨_, rfl⟩
    rcases l with _ | ⟨x, r⟩
    · have hv : t.val = .agg #[.int .i64 t.kd, .int .i64 t.nn, .string t.tx, .slice t.ad 0 t.cp] := by rw [T.val, hl, List.length_nil]
      rw [headF_nil (by rw [hks, hl]; rfl), hv]
      clear hks hl hv k3 hin n1
      go_enter Tryz.func31, Tryz.ntmps31
      go_wp2_with fail
      go_ret
      exact ⟨rfl, bel1 _ _⟩
    · obtain ⟨⟨b, o, had, hc⟩, -⟩ := hin.inL.at 0 (by rw [hl]; simp)
      have e0 : t.ks[0]'(by rw [hl]; simp) = x := by simp [hl]
      rw [e0] at hc
      simp only [Nat.zero_mul, Nat.add_zero] at hc
      obtain ⟨c0, c1, c2, c3⟩ := hc
      have lb : b < w.heap.size := World.block_lt_of_cell? _ _ c0
      obtain ⟨n, hn⟩ : ∃ n, t.ks.length = n + 1 := ⟨r.length, by rw [hl]; rfl⟩
      have hh : headF t.form = if x.kd = 1 then x.tx else ⟨#[]⟩ := by
        rw [headF_cons (k := x.form) (r := r.map T.form) (by rw [hks, hl]; rfl), T.form_kd, T.form_tx]
      have hv : t.val = .agg #[.int .i64 t.kd, .int .i64 t.nn, .string t.tx, .slice (some ⟨b, o, none⟩) (n + 1) t.cp] := by rw [T.val, had, hn]
      have hn0 : (((n : Int) + 1) == 0) = false := by simp; omega
      have hn1 : (0 : Int) < (n : Int) + 1 := by omega
      rw [hn] at n1
      rw [hh, hv]
      clear hks hl hv k3 hin e0 had hn hh
      by_cases h1 : x.kd = 1
      · rw [if_pos h1]
        have g1 : (x.kd != 1) = false := by simpa using h1
        clear h1
        go_enter Tryz.func31, Tryz.ntmps31
        go_wp2_with fail
        go_ret
        exact ⟨rfl, bel1 _ _⟩
      · rw [if_neg h1]
        have g1 : (x.kd != 1) = true := by simpa using h1
        clear h1
        go_enter Tryz.func31, Tryz.ntmps31
        go_wp2_with fail
        go_ret
        exact ⟨rfl, bel1 _ _⟩
  · have b3 : (t.kd != 3) = true := by simpa using k3
    rw [headF_nil (by unfold Fm.kids; rw [T.form_kd, if_neg k3])]
    clear k3 hin
    go_enter Tryz.func31, Tryz.ntmps31
    go_wp2_with fail
    go_ret
    exact ⟨rfl, bel1 _ _⟩
theorem rnamed_any (t : T) (w : World) (hin : In w t) :
    Calls Tryz.prog 67 #[t.val] w fun e w' => e = .returned (.bool (nameF t.form)) ∧ Below w.heap.size w w' := by
  have HN := Lib.hid fun (W : World) => rIsName_any t.tx hin.tx_le W
  by_cases hk : t.kd = 1
  · have e : nameF t.form = nameB t.tx := by simp [nameF, T.form_kd, T.form_tx, hk]
    have hv : t.val = .agg #[.int .i64 1, .int .i64 t.nn, .string t.tx, .slice t.ad t.ks.length t.cp] := by rw [← hk]
    rw [e, hv]
    clear e hv hk hin
    go_enter Tryz.func67, Tryz.ntmps67
    go_wp2_with (go_at_call 118; refine (HN.out _).mono ?_; rintro e w2 ⟨rfl, rfl⟩)
    go_ret
    exact ⟨rfl, bel1 _ _⟩
  · have e : nameF t.form = false := by simp [nameF, T.form_kd, hk]
    have g : (t.kd == 1) = false := by simpa using hk
    rw [e]
    clear e hk hin
    go_enter Tryz.func67, Tryz.ntmps67
    go_wp2_with fail
    go_ret
    exact ⟨rfl, bel1 _ _⟩
theorem rtyped_any (t : T) (w : World) :
    Calls Tryz.prog 124 #[t.val] w fun e w' => e = .returned (.bool (typeF t.form)) ∧ Below w.heap.size w w' := by
  by_cases h1 : t.kd = 1
  · have e : typeF t.form = true := by simp [typeF, T.form_kd, h1]
    have g1 : (t.kd == 1) = true := by simpa using h1
    rw [e]; clear e h1
    go_enter Tryz.func124, Tryz.ntmps124
    go_wp2_with fail
    go_ret
    exact ⟨rfl, bel1 _ _⟩
  · have e : typeF t.form = (t.kd == 3) := by simp [typeF, T.form_kd, h1]; rfl
    have g1 : (t.kd == 1) = false := by simpa using h1
    rw [e]; clear e h1
    go_enter Tryz.func124, Tryz.ntmps124
    go_wp2_with fail
    go_ret
    exact ⟨rfl, bel1 _ _⟩
theorem rtarget_any (t : T) (w : World) (hin : In w t) :
    Calls Tryz.prog 199 #[t.val, .bool false] w fun e w' => e = .returned (.bool (nameF t.form)) ∧ Below w.heap.size w w' := by
  have HN := Lib.hid fun (W : World) (h : Below w.heap.size w W) => rnamed_any t W (hin.below h)
  obtain ⟨r, hr⟩ : ∃ r, nameF t.form = r := ⟨_, rfl⟩
  rw [hr] at HN ⊢
  clear hin hr
  cases r with
  | true =>
    go_enter Tryz.func199, Tryz.ntmps199
    go_wp2_with (go_at_call 67; refine (HN.out _ (bel1 _ _)).mono ?_; rintro e w2 ⟨rfl, hB⟩; have HB := Lib.hid (up (bel1 _ _) hB); clear hB)
    go_ret
    exact ⟨rfl, HB.out⟩
  | false =>
    go_enter Tryz.func199, Tryz.ntmps199
    go_wp2_with (go_at_call 67; refine (HN.out _ (bel1 _ _)).mono ?_; rintro e w2 ⟨rfl, hB⟩; have HB := Lib.hid (up (bel1 _ _) hB); clear hB)
    go_ret
    exact ⟨rfl, HB.out⟩
theorem truth_any (b : Bool) (w : World) : Calls Tryz.prog 102 #[.bool b] w fun e w' => e = .returned (.int .i64 (if b then 0 else 4)) ∧ w = w' := by
  cases b
  all_goals
    go_enter Tryz.func102, Tryz.ntmps102
    go_wp2
    go_ret
    exact ⟨rfl, rfl⟩
theorem dup_any (b : Bool) (w : World) : Calls Tryz.prog 129 #[.bool b] w fun e w' => e = .returned (.int .i64 (if b then 7 else 0)) ∧ w = w' := by
  cases b
  all_goals
    go_enter Tryz.func129, Tryz.ntmps129
    go_wp2
    go_ret
    exact ⟨rfl, rfl⟩
theorem first_any (a b : Int) (w : World) : Calls Tryz.prog 126 #[.int .i64 a, .int .i64 b] w fun e w' => e = .returned (.int .i64 (if a = 0 then b else a)) ∧ w = w' := by
  by_cases h : a = 0
  · subst h
    rw [if_pos rfl]
    go_enter Tryz.func126, Tryz.ntmps126
    go_wp2
    go_ret
    exact ⟨rfl, rfl⟩
  · have g : (a != 0) = true := by simpa using h
    rw [if_neg h]
    clear h
    go_enter Tryz.func126, Tryz.ntmps126
    go_wp2
    go_ret
    exact ⟨rfl, rfl⟩
instance (lo hi : Int) (f : Fm) : Decidable (NumP lo hi f) := by unfold NumP; infer_instance
set_option linter.unusedSimpArgs false in
theorem rnumber_any (t : T) (lo hi : Int) (w : World) :
    Calls Tryz.prog 167 #[t.val, .int .i64 lo, .int .i64 hi] w fun e w' => e = .returned (.bool (decide (NumP lo hi t.form))) ∧ Below w.heap.size w w' := by
  have e : decide (NumP lo hi t.form) = (decide (t.kd = 0) && (decide (lo ≤ t.nn) && decide (t.nn ≤ hi))) := by
    rw [Bool.eq_iff_iff, decide_eq_true_iff]; unfold NumP; rw [T.form_kd, T.form_nn]; simp
  rw [e]
  clear e
  by_cases h0 : t.kd = 0
  · have g0 : (t.kd == 0) = true := by simpa using h0
    by_cases h1 : lo ≤ t.nn
    · by_cases h2 : t.nn ≤ hi
      · go_enter Tryz.func167, Tryz.ntmps167
        go_wp2_with fail
        go_ret
        exact ⟨by simp [h0, h1, h2], bel1 _ _⟩
      · have g2 : decide (t.nn ≤ hi) = false := by simpa using h2
        go_enter Tryz.func167, Tryz.ntmps167
        go_wp2_with fail
        go_ret
        exact ⟨by simp [h0, h1, h2], bel1 _ _⟩
    · have g1 : decide (lo ≤ t.nn) = false := by simpa using h1
      go_enter Tryz.func167, Tryz.ntmps167
      go_wp2_with fail
      go_ret
      exact ⟨by simp [h0, h1], bel1 _ _⟩
  · have g0 : (t.kd == 0) = false := by simpa using h0
    go_enter Tryz.func167, Tryz.ntmps167
    go_wp2_with fail
    go_ret
    exact ⟨by simp [h0], bel1 _ _⟩
end Go.Proofs.YtmlfiopbdlaaaaaGreat

namespace Go.Proofs.YtmlfiopbdlaaaaaGreat
open Go.RowKit Go.Deep
set_option maxHeartbeats 1000000 in
theorem rnames_any (t : T) (w : World) (hin : In w t) : Calls Tryz.prog 177 #[t.val, .bool false] w fun e w' => AnsR (Names t.form) w e w' := by
  by_cases k3 : t.kd = 3
  · have b3 : (t.kd != 3) = false := by simpa using k3
    have n1 := Nat.le_trans hin.ok.le hin.ok.cp
    unfold maxLen at n1
    obtain ⟨a, ha⟩ : ∃ a, t.ad = a := ⟨_, rfl⟩
    have HK : Hid (∀ W, Below w.heap.size w W → InL W a 0 t.ks) := Lib.hid fun W h => by rw [← ha]; exact (hin.below h).inL
    have HAD := Lib.hid ha
    have K0 := Lib.hid (Boxed.start w t)
    have HP : Hid (Names t.form ↔ ∀ u ∈ t.ks, nameF u.form = true) := Lib.hid (by
      unfold Names; rw [T.form_kd, T.form_ks]; simp [k3])
    clear ha k3 hin
    go_enter Tryz.func177, Tryz.ntmps177
    go_wp2_with fail
    go_loopg [5] (t.ks.length) (fun m i wr => ∃ k : Nat, k ≤ t.ks.length ∧ m = t.ks.length - k ∧ i = .int .i64 k ∧ UpTo (fun u => nameF u.form = true) t.ks k ∧ Boxed w wr t)
    case atStart => exact ⟨0, by omega, by omega, rfl, UpTo.start _ _, K0.out⟩
    case round =>
      obtain ⟨k, hk, rfl, rfl, hU, hbx⟩ := hrel
      obtain ⟨c0, c1, c2, c3⟩ := box_cells hbx.1 HAD.out
      have HBX := Lib.hid hbx
      have HU := Lib.hid hU
      clear hbx hU
      by_cases hlt : k < t.ks.length
      · obtain ⟨⟨b, o, rfl, hx0, hx1, hx2, hx3⟩, hink⟩ := (HK.out _ HBX.out.2).at k hlt
        have lb : b < wr.heap.size := World.block_lt_of_cell? _ _ hx0
        have HR := Lib.hid (rtarget_any t.ks[k] wr hink)
        clear hink
        cases hp : nameF t.ks[k].form with
        | true =>
          rw [hp] at HR
          have HS := Lib.hid (HU.out.step hlt hp)
          clear hp
          go_wp2_with (go_at_call 199; refine HR.out.mono ?_; rintro e w2 ⟨rfl, hB⟩; have HB := Lib.hid hB; clear hB)
          go_roundg (t.ks.length - (k + 1))
          case measure => omega
          case rel => exact ⟨k + 1, by omega, rfl, by go_num, HS.out, HBX.out.next HB.out⟩
        | false =>
          rw [hp] at HR
          have HN : Hid (¬ Names t.form) := Lib.hid fun h => by
            have := HP.out.1 h _ (List.getElem_mem hlt)
            rw [hp] at this; cases this
          clear hp
          go_wp2_with (go_at_call 199; refine HR.out.mono ?_; rintro e w2 ⟨rfl, hB⟩; have HB := Lib.hid hB; clear hB)
          go_ret
          exact AnsR.ofNo (by decide) HN.out (up HBX.out.2 HB.out)
      · have HS := Lib.hid (HP.out.2 (HU.out.ends (by omega)))
        go_wp2_with fail
        go_ret
        exact AnsR.of0 HS.out HBX.out.2
  · have b3 : (t.kd != 3) = true := by simpa using k3
    have HN : Hid (¬ Names t.form) := Lib.hid fun h => k3 (by rw [← T.form_kd]; exact h.1)
    clear k3 hin
    go_enter Tryz.func177, Tryz.ntmps177
    go_wp2_with fail
    go_ret
    exact AnsR.ofNo (by decide) HN.out (bel1 _ _)
def HExp (n : Nat) (E : Fm → Bool) : Prop := ∀ (t : T) (W : World), In W t → Asked n t → Calls Tryz.prog 61 #[t.val] W fun e w' => AnsR (E t.form = true) W e w'
set_option maxHeartbeats 1000000 in
theorem rexprs_any (n : Nat) (E : Fm → Bool) (hE : HExp n E) (a : Option Addr) (c : Nat) (l : List T) (w : World) (hk : InL w a 0 l) (hlen : l.length ≤ 1000000) (hq : ∀ u ∈ l, Asked n u) :
    Calls Tryz.prog 104 #[.slice a l.length c] w fun e w' => AnsR (AllE E (l.map T.form)) w e w' := by
  have HK : Hid (∀ W, Below w.heap.size w W → InL W a 0 l) := Lib.hid fun W h => hk.below h
  have HE := Lib.hid hE
  have HQ := Lib.hid hq
  have HP : Hid (AllE E (l.map T.form) ↔ ∀ u ∈ l, E u.form = true) := Lib.hid (by unfold AllE; simp)
  clear hk hE hq
  go_enter Tryz.func104, Tryz.ntmps104
  go_wp2_with fail
  go_loopg [3] (l.length) (fun m i wr => ∃ k : Nat, k ≤ l.length ∧ m = l.length - k ∧ i = .int .i64 k ∧ UpTo (fun u => E u.form = true) l k ∧ Below w.heap.size w wr)
  case atStart => exact ⟨0, by omega, by omega, rfl, UpTo.start _ _, Below.refl _ _⟩
  case round =>
    obtain ⟨k, hk, rfl, rfl, hU, hB⟩ := hrel
    have HBX := Lib.hid hB
    have HU := Lib.hid hU
    clear hB hU
    by_cases hlt : k < l.length
    · obtain ⟨⟨b, o, rfl, hx0, hx1, hx2, hx3⟩, hink⟩ := (HK.out _ HBX.out).at k hlt
      have lb : b < wr.heap.size := World.block_lt_of_cell? _ _ hx0
      have HR := Lib.hid (HE.out l[k] wr hink (HQ.out _ (List.getElem_mem hlt)))
      clear hink
      cases hp : E l[k].form with
      | true =>
        have HS := Lib.hid (HU.out.step hlt hp)
        have HP2 := Lib.hid hp
        clear hp
        go_wp2_with (go_at_call 61; refine HR.out.mono ?_; intro e w2 hA; obtain ⟨rfl, hB⟩ := hA.yes HP2.out; have HB := Lib.hid hB; clear hB hA)
        go_roundg (l.length - (k + 1))
        case measure => omega
        case rel => exact ⟨k + 1, by omega, rfl, by go_num, HS.out, up HBX.out HB.out⟩
      | false =>
        have HN : Hid (¬ AllE E (l.map T.form)) := Lib.hid fun h => by
          have := HP.out.1 h _ (List.getElem_mem hlt)
          rw [hp] at this; cases this
        have HP2 : Hid (¬ E l[k].form = true) := Lib.hid (by rw [hp]; simp)
        clear hp
        go_wp2_with (go_at_call 61; refine HR.out.mono ?_; intro e w2 hA; obtain ⟨q, hq0, hq1, hq2, rfl, hB⟩ := hA.no HP2.out; have HQ0 := Lib.hid hq0; have HB := Lib.hid hB; clear hB hA hq0)
        go_ret
        exact AnsR.ofNo HQ0.out HN.out (up HBX.out HB.out)
    · have HS := Lib.hid (HP.out.2 (HU.out.ends (by omega)))
      go_wp2_with fail
      go_ret
      exact AnsR.of0 HS.out HBX.out
def Diff (l : List T) (i : Nat) : Prop := ∀ x y (hx : x < l.length) (hy : y < l.length), x < y → y < i → l[x].tx ≠ l[y].tx
def DiffAt (l : List T) (i k : Nat) : Prop := ∀ x (hx : x < l.length) (hi : i < l.length), x < k → l[x].tx ≠ l[i].tx
theorem Diff.step {l : List T} {i : Nat} (h : Diff l i) (hi : DiffAt l i i) : Diff l (i + 1) := fun x y hx hy hxy hyi => by
  by_cases e : y = i
  · subst e; exact hi x hx hy hxy
  · exact h x y hx hy hxy (by omega)
theorem nodup_diff (l : List T) : (texts (l.map T.form)).Nodup ↔ Diff l l.length := by
  unfold texts List.Nodup Diff
  rw [List.pairwise_iff_getElem]
  simp only [List.length_map, List.getElem_map, T.form_tx]
  constructor
  · intro h x y hx hy hxy _ e
    exact h x y hx hy hxy (by rw [e])
  · intro h x y hx hy hxy e
    exact h x y hx hy hxy hy (beq_bytes e)
set_option maxHeartbeats 2000000 in
theorem rtwice_any (a : Option Addr) (c : Nat) (l : List T) (w : World) (hk : InL w a 0 l) (hlen : l.length ≤ 1000000) (r : Bool) (hr : r = true ↔ (texts (l.map T.form)).Nodup) :
    Calls Tryz.prog 130 #[.slice a l.length c] w fun e w' => e = .returned (.bool !r) ∧ Below w.heap.size w w' := by
  rw [nodup_diff] at hr
  have HK : Hid (∀ W, Below w.heap.size w W → InL W a 0 l) := Lib.hid fun W h => hk.below h
  have HR := Lib.hid hr
  clear hk hr
  have mixed : Tryz.prog.follows .mixedOrders = true := by kernel_rfl
  go_enter Tryz.func130, Tryz.ntmps130
  go_wp2_with fail
  go_loopg [3] (l.length) (fun m i wr => ∃ k : Nat, k ≤ l.length ∧ m = l.length - k ∧ i = .int .i64 k ∧ Diff l k ∧ Below w.heap.size w wr)
  case atStart => exact ⟨0, by omega, by omega, rfl, fun x y _ _ _ h => absurd h (by omega), Below.refl _ _⟩
  case round =>
    obtain ⟨i, hi, rfl, rfl, hD, hB⟩ := hrel
    have HD := Lib.hid hD
    have HBO := Lib.hid hB
    clear hD hB
    by_cases hlt : i < l.length
    · go_wp2_with fail
      go_loopg [4] (i) (fun m k w2 => ∃ j : Nat, j ≤ i ∧ m = i - j ∧ k = .int .i64 j ∧ DiffAt l i j ∧ Below w.heap.size w w2)
      case atStart => exact ⟨0, by omega, by omega, rfl, fun x _ _ h => absurd h (by omega), HBO.out⟩
      case round =>
        obtain ⟨j, hj, rfl, rfl, hA, hB⟩ := hrel
        have HA := Lib.hid hA
        have HB := Lib.hid hB
        clear hA hB
        by_cases hji : j < i
        · obtain ⟨⟨b, o, rfl, hx0, hx1, hx2, hx3⟩, -⟩ := (HK.out _ HB.out).at i hlt
          obtain ⟨⟨b', o', hbo, hy0, hy1, hy2, hy3⟩, -⟩ := (HK.out _ HB.out).at j (by omega)
          have lb : b < wr.heap.size := World.block_lt_of_cell? _ _ hx0
          injection hbo with hbo
          injection hbo with e1 e2 e3
          subst e1 e2
          have hjl : j < l.length := by omega
          obtain ⟨tj, htj⟩ : ∃ tj, l[j].tx = tj := ⟨_, rfl⟩
          obtain ⟨ti, hti⟩ : ∃ ti, l[i].tx = ti := ⟨_, rfl⟩
          have HTJ := Lib.hid htj
          have HTI := Lib.hid hti
          rw [htj] at hy2
          rw [hti] at hx2
          clear htj hti hx0 hx1 hx3 hy0 hy1 hy3
          by_cases he : ti = tj
          · have g := eqT he
            have HN : Hid (r = false) := Lib.hid (by
              cases hr : r with
              | false => rfl
              | true => exact absurd (by rw [HTI.out, HTJ.out]; exact he.symm) (HR.out.1 hr j i hjl hlt hji hlt))
            clear he
            go_wp2_with fail
            go_big_region_o
            all_goals go_wp2
            go_ret
            exact ⟨by rw [HN.out]; rfl, HB.out.drew⟩
          · have g := eqF he
            have HS : Hid (DiffAt l i (j + 1)) := Lib.hid fun x hx hi' hxj => by
              by_cases e : x = j
              · subst e; rw [HTI.out, HTJ.out]; exact fun e => he e.symm
              · exact HA.out x hx hi' (by omega)
            clear he
            go_wp2_with fail
            go_big_region_o
            all_goals go_wp2
            go_roundg (i - (j + 1))
            case measure => omega
            case rel => exact ⟨j + 1, by omega, rfl, by go_num, HS.out, HB.out.drew⟩
        · have HS : Hid (Diff l (i + 1)) := Lib.hid (HD.out.step fun x hx hi' hxi => HA.out x hx hi' (by omega))
          go_wp2_with fail
          go_roundg (l.length - (i + 1))
          case measure => omega
          case rel => exact ⟨i + 1, by omega, rfl, by go_num, HS.out, HB.out⟩
    · have HS : Hid (r = true) := Lib.hid (HR.out.2 fun x y hx hy hxy _ => HD.out x y hx hy hxy (by omega))
      go_wp2_with fail
      go_ret
      exact ⟨by rw [HS.out]; rfl, HBO.out⟩
end Go.Proofs.YtmlfiopbdlaaaaaGreat

namespace Go.Proofs.YtmlfiopbdlaaaaaGreat
open Go.RowKit Go.Deep
theorem InL_tail {w : World} {b o : Nat} {x : T} {r : List T} (h : InL w (some ⟨b, o, none⟩) 0 (x :: r)) : InL w (some ⟨b, o + 4, none⟩) 0 r := InL_mk fun j hj => by
  obtain ⟨⟨b', o', e, hc⟩, hi⟩ := InL_get h (j + 1) (by simpa using hj)
  injection e with e; injection e with e1 e2 e3; subst e1 e2
  exact ⟨⟨b, o + 4, rfl, by simpa [Nat.add_mul, Nat.add_assoc, Nat.add_comm, Nat.add_left_comm] using hc⟩, by simpa using hi⟩
theorem InL_nil {w : World} {a : Option Addr} {i : Nat} {r : List T} (h : r.length = 0) : InL w a i r := by
  have : r = [] := List.length_eq_zero_iff.1 h
  subst this; simp [InL]
set_option maxHeartbeats 1000000 in
theorem rsome_any (n : Nat) (E : Fm → Bool) (hE : HExp n E) (a : Option Addr) (c : Nat) (l : List T) (lo hi : Nat) (w : World) (hk : InL w a 0 l) (hlen : l.length ≤ 1000000) (hq : ∀ u ∈ l, Asked n u) :
    Calls Tryz.prog 103 #[.slice a l.length c, .int .i64 lo, .int .i64 hi] w fun e w' => AnsR (lo ≤ (l.map T.form).length ∧ (l.map T.form).length ≤ hi ∧ AllE E (l.map T.form)) w e w' := by
  have HX := Lib.hid (rexprs_any n E hE a c l w hk hlen hq)
  rw [List.length_map]
  obtain ⟨m, hm⟩ : ∃ m, l.length = m := ⟨_, rfl⟩
  rw [hm] at HX hlen ⊢
  clear hk hq hE hm
  by_cases h1 : m < lo
  · have g1 : (m : Int) < (lo : Int) := by omega
    have HN : Hid (¬ (lo ≤ m ∧ m ≤ hi ∧ AllE E (l.map T.form))) := Lib.hid fun h => by omega
    go_enter Tryz.func103, Tryz.ntmps103
    go_wp2_with fail
    go_ret
    exact AnsR.ofNo (by decide) HN.out (Below.refl _ _)
  · have g1 : decide ((m : Int) < (lo : Int)) = false := by simp; omega
    have g1' : decide (m < lo) = false := by simp; omega
    by_cases h2 : hi < m
    · have g2 : (hi : Int) < (m : Int) := by omega
      have HN : Hid (¬ (lo ≤ m ∧ m ≤ hi ∧ AllE E (l.map T.form))) := Lib.hid fun h => by omega
      go_enter Tryz.func103, Tryz.ntmps103
      go_wp2_with fail
      go_ret
      exact AnsR.ofNo (by decide) HN.out (Below.refl _ _)
    · have g2 : decide ((hi : Int) < (m : Int)) = false := by simp; omega
      have g2' : decide (hi < m) = false := by simp; omega
      have HP : Hid (AllE E (l.map T.form) ↔ (lo ≤ m ∧ m ≤ hi ∧ AllE E (l.map T.form))) := Lib.hid ⟨fun h => ⟨by omega, by omega, h⟩, fun h => h.2.2⟩
      clear h1 h2
      go_enter Tryz.func103, Tryz.ntmps103
      go_wp2_with (go_at_call 104; refine HX.out.mono ?_; intro e w2 hA; obtain ⟨q, rfl, hq, hB⟩ := hA; have HA := Lib.hid hq; have HB := Lib.hid hB; clear hB hq)
      go_ret
      exact ⟨_, rfl, HA.out.trans HP.out, HB.out⟩
set_option maxHeartbeats 1000000 in
theorem rbehind_any (n : Nat) (E : Fm → Bool) (hE : HExp n E) (a : Option Addr) (c : Nat) (x : T) (r : List T) (w : World) (hk : InL w a 0 (x :: r)) (hlen : r.length ≤ 1000000) (hc : r.length + 1 ≤ c) (hq : ∀ u ∈ r, Asked n u) :
    Calls Tryz.prog 128 #[.slice a (r.length + 1) c, .int .i64 1] w fun e w' => AnsR (AllE E (r.map T.form)) w e w' := by
  obtain ⟨⟨b, o, rfl, -⟩, -⟩ := hk.at 0 (by simp)
  have HX := Lib.hid fun (a' : Option Addr) (c' : Nat) (hi : InL w a' 0 r) => rexprs_any n E hE a' c' r w hi hlen hq
  have HI := Lib.hid (InL_tail hk)
  obtain ⟨m, hm⟩ : ∃ m, r.length = m := ⟨_, rfl⟩
  have HM := Lib.hid hm
  rw [hm] at HX hlen hc ⊢
  clear hk hq hE hm
  have g1 : decide ((m : Int) + 1 < 1) = false := by simp; omega
  go_enter Tryz.func128, Tryz.ntmps128
  go_wp2_with (go_at_call 104; refine (HX.out _ _ (by first | exact HI.out | exact InL_nil (by have := HM.out; omega))).mono ?_; intro e w2 hA; obtain ⟨q, rfl, hq, hB⟩ := hA; have HA := Lib.hid hq; have HB := Lib.hid hB; clear hB hq)
  all_goals
    go_ret
    exact ⟨_, rfl, HA.out, HB.out⟩
end Go.Proofs.YtmlfiopbdlaaaaaGreat

namespace Go.Proofs.YtmlfiopbdlaaaaaGreat
open Go.RowKit Go.Deep
abbrev boxO (t : T) : Obj := boxT t
def cellsT (ts : List T) : List Value := ts.flatMap fun t => [.int .i64 t.kd, .int .i64 t.nn, .string t.tx, .slice t.ad t.ks.length t.cp]
theorem cellsT_append (xs ys : List T) : cellsT (xs ++ ys) = cellsT xs ++ cellsT ys := by simp [cellsT]
theorem cellsT_get : ∀ (xs : List T) (j : Nat) (h : j < xs.length), (cellsT xs)[j * 4]? = some (.int .i64 xs[j].kd) ∧ (cellsT xs)[j * 4 + 1]? = some (.int .i64 xs[j].nn) ∧ (cellsT xs)[j * 4 + 2]? = some (.string xs[j].tx) ∧ (cellsT xs)[j * 4 + 3]? = some (.slice xs[j].ad xs[j].ks.length xs[j].cp)
  | x :: xs, 0, _ => by simp [cellsT]
  | x :: xs, j + 1, h => by
    have ih := cellsT_get xs j (by simpa using h)
    have e : cellsT (x :: xs) = [.int .i64 x.kd, .int .i64 x.nn, .string x.tx, .slice x.ad x.ks.length x.cp] ++ cellsT xs := by simp [cellsT]
    rw [e]
    refine ⟨?_, ?_, ?_, ?_⟩
    · rw [List.getElem?_append_right (by simp; omega), show (j + 1) * 4 - List.length [Value.int .i64 x.kd, .int .i64 x.nn, .string x.tx, .slice x.ad x.ks.length x.cp] = j * 4 by simp; omega]; simpa using ih.1
    · rw [List.getElem?_append_right (by simp; omega), show (j + 1) * 4 + 1 - List.length [Value.int .i64 x.kd, .int .i64 x.nn, .string x.tx, .slice x.ad x.ks.length x.cp] = j * 4 + 1 by simp; omega]; simpa using ih.2.1
    · rw [List.getElem?_append_right (by simp; omega), show (j + 1) * 4 + 2 - List.length [Value.int .i64 x.kd, .int .i64 x.nn, .string x.tx, .slice x.ad x.ks.length x.cp] = j * 4 + 2 by simp; omega]; simpa using ih.2.2.1
    · rw [List.getElem?_append_right (by simp; omega), show (j + 1) * 4 + 3 - List.length [Value.int .i64 x.kd, .int .i64 x.nn, .string x.tx, .slice x.ad x.ks.length x.cp] = j * 4 + 3 by simp; omega]; simpa using ih.2.2.2
theorem info27 : (Tryz.prog.info? 24).map (fun i => (i.zero, i.size, i.bytes)) = some (some (.agg #[.int .i64 0, .int .i64 0, .string ⟨#[]⟩, .slice none 0 0]), 4, 56) := by kernel_rfl
structure Own4 (B : Nat) (w0 w : World) (v : Value) (us : List T) : Prop where
  own : w.ownsRow B 24 4 v us.length (cellsT us)
  below : Below B w0 w
  le : B ≤ w.heap.size
theorem Own4.start {B : Nat} {w : World} (h : B ≤ w.heap.size) : Own4 B w w (.slice none 0 0) [] := ⟨World.ownsRow_nil _ _ _ _, Below.refl _ _, h⟩
theorem Own4.next {B : Nat} {w0 w w' : World} {v : Value} {us : List T} (h : Own4 B w0 w v us) (hb : Below w.heap.size w w') : Own4 B w0 w' v us :=
  ⟨own_same h.own fun k hk => hb.block k (h.own.lt k hk).2, h.below.trans (hb.mono h.le), Nat.le_trans h.le hb.size⟩
theorem cellsT_oneC (ts : List T) : ∀ u ∈ cellsT ts, u.oneCell' = true := by
  intro u h
  simp only [cellsT, List.mem_flatMap] at h
  obtain ⟨t, _, h⟩ := h
  simp only [List.mem_cons, List.not_mem_nil, or_false] at h
  rcases h with rfl | rfl | rfl | rfl <;> rfl
theorem own4_push {ops : Array Oper} {rest : List Oper} {o : Oper} {a : Act} {Q : Exit → Act → World → Prop} (hgd : o.guard = none) (s x : Operand) (t : TypeId)
    (ho : o.op = .call { callee := .builtin .append, args := #[s, x], argTypes := #[t, t] }) (ht : Tryz.prog.underlying t = some (.slice 24))
    {B : Nat} {w0 w : World} {v : Value} {us : List T} (hs : a.eval s = v) (hb : Own4 B w0 w v us) (u : T) (c A : Nat)
    (hx : a.eval x = .slice (some ⟨A, 0, none⟩) 1 c) (hA : w.heap.size = A) (hlen : us.length ≤ 1000000)
    (h : ∀ v' w', Own4 B w0 w' v' (us ++ [u]) → (w.alloc (boxO u)).grownBy w' v.ownBlock → (v'.ownBlock = v.ownBlock ∨ ∀ g, v'.ownBlock = some g → w.heap.size < g) → wpList Tryz.prog ops Q rest (a.put o.dst v') w') : wpList Tryz.prog ops Q (o :: rest) a (w.alloc (boxO u)) := by
  subst hA
  obtain ⟨i0, hi0, hz0, hz1, hz2⟩ := info_parts info27
  have hown := hb.own.alloc (boxO u)
  have hl : (us ++ [u]).length = us.length + 1 := by simp
  refine wpList_append_lies _ hgd s x t ho B 24 i0 _ 4 56 ht hi0 hz0 hz1 hz2 rfl (by decide) v us.length (cellsT us) hs hown ⟨w.heap.size, 0, none⟩ 1 c (cellsT [u]) hx (by simp [cellsT])
    (fun j y hy => World.news_of_block (cs := #[.int .i64 u.kd, .int .i64 u.nn, .string u.tx, .slice u.ad u.ks.length u.cp]) (t := 24) (fr := (0, 0)) (heap_alloc_new w _) j y (by simpa [cellsT] using hy)) (cellsT_oneC [u]) (by omega) (by unfold maxLen; omega) (by omega) (by simp; have := hb.le; omega) (w.heap.size + 1) (by simp) ?_
  intro g cap w' ho' hg hat hlt
  refine h _ w' ⟨?_, ?_, ?_⟩ hg ?_
  · rw [hl, cellsT_append]; exact ho'
  · exact (hb.below.alloc hb.le _).grown hg (by simp; have := hb.le; omega) fun k hk => (hb.own.lt k hk).1
  · have := hg.size; have := hb.le; simp at *; omega
  · rcases hat with hat | hat
    · exact .inl (by rw [hat]; rfl)
    · exact .inr fun g' hg' => by simp [Value.ownBlock] at hg'; omega
end Go.Proofs.YtmlfiopbdlaaaaaGreat
