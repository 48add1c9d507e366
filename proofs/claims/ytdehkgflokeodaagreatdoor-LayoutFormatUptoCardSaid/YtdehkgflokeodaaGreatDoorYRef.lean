/- The document's own lines of a form: blanks and lines. -/
import Derived.Test.YtdehkgflokeodaaGreatDoorRef4
import Derived.Test.YtdehkgflokeodaaGreatDoorYPure
namespace Go.Proofs.YtdehkgflokeodaaGreatDoor.Y
open Go.RowKit Go.Deep

theorem ba_list {d : ByteArray} {l : List UInt8} (h : d.data.toList = l) : d = ⟨l.toArray⟩ := by
  subst h; cases d; rfl
theorem ba_size {d : ByteArray} {l : List UInt8} (h : d.data.toList = l) : d.size = l.length := by rw [← h]; simp
theorem ba_app (a b : ByteArray) : (a ++ b).data.toList = a.data.toList ++ b.data.toList := by
  simp [ByteArray.data_append]
theorem blk_next (k : Nat) : blk (k + 1) = blk k ++ [32] := by unfold blk; rw [List.replicate_succ']
set_option maxHeartbeats 1000000 in
theorem blanks_any (n : Nat) (hn : n ≤ 1000) (w : World) :
    Calls Tryz.prog 75 #[.int .i64 n] w fun e w' => e = .returned (.string ⟨(blk n).toArray⟩) ∧ w = w' := by
  have hn0 : (n : Int) ≤ 1000 := by omega
  go_enter Tryz.func75, Tryz.ntmps75
  go_wp2_with fail
  go_loopg [3, 4] (n) (fun m s i wr => ∃ (k : Nat) (d : ByteArray), k ≤ n ∧ m = n - k ∧ i = .int .i64 k ∧ s = .string d ∧ d.data.toList = blk k ∧ w = wr)
  case atStart => exact ⟨0, ⟨#[]⟩, by omega, rfl, rfl, rfl, rfl, rfl⟩
  case round =>
    obtain ⟨k, d, hk, rfl, rfl, rfl, hd, rfl⟩ := hrel
    have hz : d.size ≤ 1000 := by rw [ba_size hd]; simp [blk]; omega
    have HD := Lib.hid hd
    clear hd
    by_cases hlt : k < n
    · have HN : Hid ((d ++ ⟨#[32]⟩).data.toList = blk (k + 1)) := Lib.hid (by rw [ba_app, HD.out, blk_next])
      go_wp2_with fail
      go_roundg (n - (k + 1))
      case measure => omega
      case rel => exact ⟨k + 1, _, by omega, rfl, by go_num, rfl, HN.out, rfl⟩
    · have HE : Hid (d = ⟨(blk n).toArray⟩) := Lib.hid (by rw [show n = k by omega]; exact ba_list HD.out)
      go_wp2_with fail
      go_ret
      exact ⟨by rw [HE.out]; rfl, rfl⟩

/-- A text as a result. -/
def StrEnd (w w' : World) (l : List UInt8) (e : Ending) : Prop := ∃ d : ByteArray, e = .returned (.string d) ∧ d.data.toList = l ∧ Below w.heap.size w w'
theorem strEnd_of {w w' : World} {l : List UInt8} {e : Ending} (h : e = .returned (.string ⟨l.toArray⟩) ∧ Below w.heap.size w w') : StrEnd w w' l e := ⟨_, h.1, rfl, h.2⟩
theorem kd_word {f : Fm} (_ : fieldsF f = true) (h1 : f.kd = 1) : txF f = f.tx.data.toList := by rw [txF_eq, if_neg (by omega), if_pos h1]
/-- The three fronts. -/
theorem front_cases {ks : List Fm} (hne : ks ≠ []) : (∃ a r, ks = a :: r ∧ a.kd ≠ 1 ∧ frN ks = 0) ∨ (∃ a, ks = [a] ∧ a.kd = 1 ∧ frN ks = 1) ∨ (∃ a b r, ks = a :: b :: r ∧ a.kd = 1 ∧ b.kd = 3 ∧ frN ks = 1) ∨ (∃ a b r, ks = a :: b :: r ∧ a.kd = 1 ∧ b.kd ≠ 3 ∧ frN ks = 2) := by
  cases ks with
  | nil => exact absurd rfl hne
  | cons a r =>
    by_cases h1 : a.kd = 1
    · cases r with
      | nil => exact .inr (.inl ⟨a, rfl, h1, by simp [frN, h1]⟩)
      | cons b r =>
        by_cases h3 : b.kd = 3
        · exact .inr (.inr (.inl ⟨a, b, r, rfl, h1, h3, by simp [frN, h1, h3]⟩))
        · exact .inr (.inr (.inr ⟨a, b, r, rfl, h1, h3, by simp [frN, h1, h3]⟩))
    · exact .inl ⟨a, r, rfl, h1, by simp [frN, h1]⟩
/-- The lines ahead of the loop over the Kids behind the front. -/
theorem lin_start {f : Fm} {c w k : Nat} {d : List UInt8} (hx : ¬ (c + (txF f).length + k ≤ w ∨ f.kd ≠ 3 ∨ f.ks = [])) (hd : d = 40 :: joinB ((f.ks.take (frN f.ks)).map txF)) :
    linF f c w k = d ++ (linL (f.ks.drop (frN f.ks)) (frN f.ks) (frN f.ks) (c + indN f.ks) w k ++ [41]) := by
  rw [linF_eq, if_neg hx, hd, linL_skip (frN f.ks) f.ks (frN f.ks) 0 _ _ _ (by omega) (frN_le _).1, Nat.zero_add]
  simp

/-- The loop over the Kids. -/
structure LinRel (w0 wr : World) (t : T) (R : List UInt8) (fr inn w k i : Nat) (d : ByteArray) : Prop where
  ge : fr ≤ i
  le : i ≤ t.ks.length
  eq : R = d.data.toList ++ (linL ((t.ks.map T.form).drop i) fr i inn w k ++ [41])
  box : Boxed w0 wr t
theorem LinRel.size {w0 wr : World} {t : T} {R : List UInt8} {fr inn w k i : Nat} {d : ByteArray} (h : LinRel w0 wr t R fr inn w k i d) : d.size ≤ R.length := by
  have := congrArg List.length h.eq
  rw [List.length_append] at this
  have e : d.size = d.data.toList.length := by simp
  omega
theorem LinRel.next {w0 wr w2 : World} {t : T} {R : List UInt8} {fr inn w k i : Nat} {d d' : ByteArray} (h : LinRel w0 wr t R fr inn w k i d) (hi : i < t.ks.length) (hb : Below wr.heap.size wr w2)
    (hd : d'.data.toList = d.data.toList ++ ((if 0 < i then 10 :: blk inn else []) ++ linF t.ks[i].form inn w (if i + 1 = t.ks.length then k + 1 else 0))) : LinRel w0 w2 t R fr inn w k (i + 1) d' := by
  refine ⟨by have := h.ge; omega, hi, ?_, h.box.next hb⟩
  rw [h.eq, linL_next (by simpa using hi) h.ge, hd]
  simp
theorem LinRel.fin {w0 wr : World} {t : T} {R : List UInt8} {fr inn w k i : Nat} {d : ByteArray} (h : LinRel w0 wr t R fr inn w k i d) (hi : t.ks.length ≤ i) : (d ++ ⟨#[41]⟩).data.toList = R := by
  rw [h.eq, linL_end (by simpa using hi), ba_app]
  rfl

set_option linter.unusedSimpArgs false in
set_option maxHeartbeats 8000000 in
set_option maxRecDepth 100000 in
theorem rlin_any (n : Nat) : ∀ t : T, SizeOf.sizeOf t < n → ∀ (c wd k : Nat) (w : World), In w t → validF t.form = true → c + 2 * dpF t.form ≤ 400 → wd ≤ 200 → k + dpF t.form ≤ 1000 → Tab w.heap.size w →
    Calls Tryz.prog 47 #[t.val, .int .i64 c, .int .i64 wd, .int .i64 k] w fun e w' => StrEnd w w' (linF t.form c wd k) e := by
  induction n with
  | zero => intro t h; omega
  | succ n ih =>
    intro t hn c wd k w hin hv hc hwd hk htab
    have hvp := valid_parts hv
    have HW := Lib.hid ((rwrite_any t (w.alloc (.cells #[.int .i64 t.kd, .int .i64 t.nn, .string t.tx, .slice t.ad t.ks.length t.cp] 29)) (hin.alloc _) (by omega) (htab.next (bel1 _ _))).mono fun e w' hh => (by rw [wrF_yes hv] at hh; exact strEnd_of hh))
    obtain ⟨R, hR⟩ : ∃ R, linF t.form c wd k = R := ⟨_, rfl⟩
    have hRl := linF_len hv c wd k hc
    rw [hR] at hRl ⊢
    have K0 := Lib.hid (Boxed.start w t)
    have hsl : (txF t.form).length ≤ 80200000 := by have := txF_len hvp.2.2; omega
    have n1 := Nat.le_trans hin.ok.le hin.ok.cp
    unfold maxLen at n1
    obtain ⟨a, ha⟩ : ∃ a, t.ad = a := ⟨_, rfl⟩
    have HAD := Lib.hid ha
    have cc0 : (0 : Int) ≤ (c : Int) := by omega
    have cc1 : (c : Int) ≤ 400 := by omega
    have cc2 : (wd : Int) ≤ 200 := by omega
    have cc3 : (k : Int) ≤ 1000 := by omega
    by_cases h1 : c + (txF t.form).length + k ≤ wd
    · have HR : Hid (txF t.form = R) := Lib.hid (by rw [← hR, linF_eq, if_pos (.inl h1)])
      clear hR ih ha
      go_enter Tryz.func47, Tryz.ntmps47
      go_wp2_with (go_at_call 32; refine HW.out.mono ?_; rintro e w2 ⟨d, rfl, hd, hB⟩; have hdz := ba_size hd; have g1 : (c : Int) + (d.size : Int) + (k : Int) ≤ (wd : Int) := (by omega); have g2 : (d.size : Int) ≤ 80200000 := (by omega); have HB := Lib.hid hB; have HD := Lib.hid hd; clear hd hB hdz)
      go_ret
      exact ⟨_, rfl, by rw [HD.out, HR.out], up (bel1 _ _) HB.out⟩
    · by_cases h3 : t.kd = 3
      · have b3 : (t.kd != 3) = false := by simpa using h3
        by_cases he : t.ks = []
        · have HR : Hid (txF t.form = R) := Lib.hid (by rw [← hR, linF_eq, if_pos (.inr (.inr (by rw [T.form_ks, he]; rfl)))])
          have HL0 : Hid (t.ks.length = 0) := Lib.hid (by rw [he]; rfl)
          clear hR ih ha he h3
          go_enter Tryz.func47, Tryz.ntmps47
          go_wp2_with (go_at_call 32; (with_reducible refine HW.out.mono ?_); rintro e w2 ⟨d, rfl, hd, hB⟩; have hdz := ba_size hd; have g1 : ¬ (c : Int) + (d.size : Int) + (k : Int) ≤ (wd : Int) := (by omega); have g2 : (d.size : Int) ≤ 80200000 := (by omega); obtain ⟨c0, c1, c2, c3⟩ := Box4.cells (w := w2) (b := w.heap.size) (t := t) ((K0.out.next hB).1); rw [HL0.out] at c3; have HB := Lib.hid hB; have HD := Lib.hid hd; clear hd hB hdz)
          go_ret
          exact ⟨_, rfl, by rw [HD.out, HR.out], up (bel1 _ _) HB.out⟩
        · have hpos : 0 < t.ks.length := List.length_pos_iff.2 he
          have hx : ¬ (c + (txF t.form).length + k ≤ wd ∨ t.form.kd ≠ 3 ∨ t.form.ks = []) := by
            rw [T.form_kd, T.form_ks]
            intro h
            rcases h with h | h | h
            · exact h1 h
            · exact h h3
            · exact he (List.map_eq_nil_iff.1 h)
          have hkv : ∀ i (h : i < t.ks.length), validF t.ks[i].form = true ∧ szF t.ks[i].form < szF t.form ∧ dpF t.ks[i].form < dpF t.form := fun i h =>
            valid_kid hv (by rw [T.form_kd]; exact h3) (by rw [T.form_ks]; exact List.mem_map_of_mem (List.getElem_mem h))
          have HK : Hid (∀ W, Below w.heap.size w W → InL W a 0 t.ks) := Lib.hid fun W h => by rw [← ha]; exact (hin.below h).inL
          have HST : Hid (∀ (d : ByteArray) wr, d.data.toList = 40 :: joinB ((t.form.ks.take (frN t.form.ks)).map txF) → Boxed w wr t → LinRel w wr t R (frN t.form.ks) (c + indN t.form.ks) wd k (frN t.form.ks) d) := Lib.hid fun d wr hd hb => by
            refine ⟨Nat.le_refl _, Nat.le_trans (frN_le t.form.ks).1 (by rw [T.form_ks, List.length_map]; exact Nat.le_refl _), ?_, hb⟩
            rw [← hR, lin_start hx hd, T.form_ks]
          have HIH : Hid (∀ i (h : i < t.ks.length) (x y : Int) (kk : Nat) W, x = ((c + indN t.form.ks : Nat) : Int) → y = (kk : Int) → kk ≤ k + 1 → Below w.heap.size w W → Calls Tryz.prog 47 #[t.ks[i].val, .int .i64 x, .int .i64 wd, .int .i64 y] W fun e w' => StrEnd W w' (linF t.ks[i].form (c + indN t.form.ks) wd kk) e) :=
            Lib.hid fun i h x y kk W ex ey hkk hB => by
              subst ex ey
              have hq := hkv i h
              have hind : indN t.form.ks ≤ 2 := by unfold indN; split <;> omega
              exact ih t.ks[i] (by have := T.kid_lt (List.getElem_mem h); omega) _ wd kk W ((HK.out W hB).at i h).2 hq.1 (by omega) hwd (by omega) (Tab.mono (htab.on hB) hB.size)
          have HW2 : Hid (∀ i (h : i < t.ks.length) W, Below w.heap.size w W → Calls Tryz.prog 32 #[t.ks[i].val] W fun e w' => StrEnd W w' (txF t.ks[i].form) e) := Lib.hid fun i h W hB => by
            have hq := hkv i h
            exact (rwrite_any t.ks[i] W ((HK.out W hB).at i h).2 (by omega) (Tab.mono (htab.on hB) hB.size)).mono fun e w' hh => (by rw [wrF_yes hq.1] at hh; exact strEnd_of hh)
          have HKL : Hid (∀ i (h : i < t.ks.length), (txF t.ks[i].form).length ≤ 80200000 ∧ (t.ks[i].kd = 1 → txF t.ks[i].form = t.ks[i].tx.data.toList)) := Lib.hid fun i h => by
            have hq := valid_parts (hkv i h).1
            have := txF_len hq.2.2
            exact ⟨by omega, fun h1 => by have := kd_word hq.2.2 (by rw [T.form_kd]; exact h1); rw [T.form_tx] at this; exact this⟩
          have hfr := front_cases (ks := t.form.ks) (by rw [T.form_ks]; intro e; exact he (List.map_eq_nil_iff.1 e))
          obtain ⟨b, o, rfl⟩ : ∃ b o, a = some ⟨b, o, none⟩ := by
            obtain ⟨⟨b, o, e, _⟩, _⟩ := (HK.out w (Below.refl _ _)).at 0 hpos
            exact ⟨b, o, e⟩
          have HKC : Hid (∀ W, Below w.heap.size w W → ∀ i (h : i < t.ks.length), Cells4 W b (o + i * 4) t.ks[i] ∧ b < W.heap.size) := Lib.hid fun W hB i h => by
            obtain ⟨⟨b', o', e, hc⟩, _⟩ := (HK.out W hB).at i h
            injection e with e
            injection e with e1 e2 e3
            subst e1 e2
            exact ⟨hc, World.block_lt_of_cell? _ _ hc.1⟩
          have HLL : Hid (∀ i (h : i < t.ks.length) kk, (linF t.ks[i].form (c + indN t.form.ks) wd kk).length ≤ 96600000) := Lib.hid fun i h kk => by
            have hq := hkv i h
            have hind : indN t.form.ks ≤ 2 := by unfold indN; split <;> omega
            exact linF_len hq.1 _ _ _ (by omega)
          have hms : t.form.ks = t.ks.map T.form := T.form_ks t
          clear hx hkv ha
          have b0 : ((t.ks.length : Int) == 0) = false := by simp; exact he
          clear he h3 hv hvp ih hR
          rcases hfr with ⟨fa, r, hks, hk1, hfn⟩ | ⟨fa, hks, hk1, hfn⟩ | ⟨fa, fb, r, hks, hk1, hk3, hfn⟩ | ⟨fa, fb, r, hks, hk1, hk3, hfn⟩
          · have e0 : t.ks[0].form = fa := by
              have h := hms.symm.trans hks
              have := congrArg (fun l => l[0]?) h
              simpa [List.getElem?_eq_getElem hpos] using this
            have ek0 : t.ks[0].kd = fa.kd := by rw [← e0, T.form_kd]
            have g0k : (t.ks[0].kd == 1) = false := by rw [ek0]; simpa using hk1
            have HJ : Hid (joinB ((t.form.ks.take 0).map txF) = []) := Lib.hid (by simp [joinB])
            obtain ⟨db, hdb⟩ : ∃ db : ByteArray, db = ⟨(blk (c + 1)).toArray⟩ := ⟨_, rfl⟩
            have hdb9 : db.size ≤ 1000 := by
              rw [hdb]
              show (blk (c + 1)).toArray.size ≤ 1000
              simp [blk]; omega
            have HDB : Hid (db.data.toList = blk (c + 1)) := Lib.hid (by rw [hdb])
            have HBL : Hid (∀ W, Calls Tryz.prog 75 #[.int .i64 ((c : Int) + 1)] W fun e w' => e = .returned (.string db) ∧ W = w') := Lib.hid fun W => by
              have := blanks_any (c + 1) (by omega) W
              rw [← hdb] at this
              simpa using this
            have hiN : indN t.form.ks = 1 := by unfold indN; rw [hfn]; rfl
            rw [hfn] at HST
            rw [hiN] at HST HIH HLL
            clear hdb hiN hfn
            clear e0 ek0 hks hk1 hms
            go_enter Tryz.func47, Tryz.ntmps47
            go_wp2_with (go_at_call 32; (with_reducible refine HW.out.mono ?_); rintro e w2 ⟨d, rfl, hd, hB⟩; have hdz := ba_size hd; have g1 : ¬ (c : Int) + (d.size : Int) + (k : Int) ≤ (wd : Int) := (by omega); have g2 : (d.size : Int) ≤ 80200000 := (by omega); obtain ⟨c0, c1, c2, c3⟩ := box_cells (K0.out.next hB).1 HAD.out; obtain ⟨⟨x0, x1, x2, x3⟩, lb⟩ := HKC.out w2 (up (bel1 _ _) hB) 0 hpos; simp only [Nat.zero_mul, Nat.add_zero] at x0 x1 x2 x3; have KB := Lib.hid (K0.out.next hB); clear hd hB hdz)
            go_loopg [10, 13] (t.ks.length - 0) (fun m u i wr => ∃ (i0 : Nat) (d : ByteArray), m = t.ks.length - i0 ∧ i = .int .i64 i0 ∧ u = .string d ∧ LinRel w wr t R 0 (c + 1) wd k i0 d)
            case atStart => exact ⟨0, _, rfl, rfl, rfl, HST.out _ _ (by rw [HJ.out]) KB.out⟩
            case round =>
              obtain ⟨i, d0, rfl, rfl, rfl, hrl⟩ := hrel
              obtain ⟨c0, c1, c2, c3⟩ := box_cells hrl.box.1 HAD.out
              have hdz := hrl.size
              have hil := hrl.le
              have HRL := Lib.hid hrl
              clear hrl
              by_cases hlt : i < t.ks.length
              · obtain ⟨⟨x0, x1, x2, x3⟩, lb⟩ := HKC.out _ HRL.out.box.2 i hlt
                have gi : (i : Int) < (t.ks.length : Int) := by omega
                have gi2 : (0 : Int) ≤ (i : Int) := by omega
                by_cases hl : i + 1 = t.ks.length
                · have g1 : ((i : Int) + 1 == (t.ks.length : Int)) = true := by simp; omega
                  have HC := Lib.hid fun W hB => HIH.out i hlt ((c : Int) + 1) ((k : Int) + 1) (k + 1) W (by simp) (by simp) (Nat.le_refl _) hB
                  by_cases h0 : 0 < i
                  · have g0 : (0 : Int) < (i : Int) := by omega
                    have HNX : Hid (∀ (d' : ByteArray) w2, Below _ _ w2 → d'.data.toList = d0.data.toList ++ ((10 :: blk (c + 1)) ++ linF t.ks[i].form (c + 1) wd (k + 1)) → LinRel w w2 t R 0 (c + 1) wd k (i + 1) d') := Lib.hid fun d' w2 hb hd => HRL.out.next hlt hb (by rw [if_pos h0, if_pos hl]; exact hd)
                    clear hl h0
                    go_wp2_with (first
                      | (go_at_call 75; refine (HBL.out _).mono ?_; rintro e w5 ⟨rfl, rfl⟩)
                      | (go_at_call 47; refine (HC.out _ HRL.out.box.2).mono ?_; rintro e w6 ⟨dk, rfl, hdk, hB⟩; have hdkz := ba_size hdk; have hdk9 : dk.size ≤ 96600000 := (by rw [ba_size hdk]; exact HLL.out i hlt _); have HB := Lib.hid hB; have HDK := Lib.hid hdk; clear hB hdk))
                    go_roundg (t.ks.length - (i + 1))
                    case measure => omega
                    case rel => exact ⟨i + 1, _, rfl, by go_num, rfl, HNX.out _ _ HB.out (by rw [ba_app, ba_app, ba_app, HDB.out, HDK.out]; simp)⟩
                  · have hi0 : i = 0 := by omega
                    have g0 : ¬ (0 : Int) < (i : Int) := by omega
                    have HNX : Hid (∀ (d' : ByteArray) w2, Below _ _ w2 → d'.data.toList = d0.data.toList ++ linF t.ks[i].form (c + 1) wd (k + 1) → LinRel w w2 t R 0 (c + 1) wd k (i + 1) d') := Lib.hid fun d' w2 hb hd => HRL.out.next hlt hb (by rw [if_neg (by omega), if_pos hl]; exact hd)
                    clear hl h0 hi0
                    go_wp2_with (first
                      | (go_at_call 47; refine (HC.out _ HRL.out.box.2).mono ?_; rintro e w6 ⟨dk, rfl, hdk, hB⟩; have hdkz := ba_size hdk; have hdk9 : dk.size ≤ 96600000 := (by rw [ba_size hdk]; exact HLL.out i hlt _); have HB := Lib.hid hB; have HDK := Lib.hid hdk; clear hB hdk))
                    go_roundg (t.ks.length - (i + 1))
                    case measure => omega
                    case rel => exact ⟨i + 1, _, rfl, by go_num, rfl, HNX.out _ _ HB.out (by rw [ba_app, HDK.out])⟩
                · have g1 : ((i : Int) + 1 == (t.ks.length : Int)) = false := by simp; omega
                  have HC := Lib.hid fun W hB => HIH.out i hlt ((c : Int) + 1) 0 0 W (by simp) rfl (Nat.zero_le _) hB
                  by_cases h0 : 0 < i
                  · have g0 : (0 : Int) < (i : Int) := by omega
                    have HNX : Hid (∀ (d' : ByteArray) w2, Below _ _ w2 → d'.data.toList = d0.data.toList ++ ((10 :: blk (c + 1)) ++ linF t.ks[i].form (c + 1) wd 0) → LinRel w w2 t R 0 (c + 1) wd k (i + 1) d') := Lib.hid fun d' w2 hb hd => HRL.out.next hlt hb (by rw [if_pos h0, if_neg hl]; exact hd)
                    clear hl h0
                    go_wp2_with (first
                      | (go_at_call 75; refine (HBL.out _).mono ?_; rintro e w5 ⟨rfl, rfl⟩)
                      | (go_at_call 47; refine (HC.out _ HRL.out.box.2).mono ?_; rintro e w6 ⟨dk, rfl, hdk, hB⟩; have hdkz := ba_size hdk; have hdk9 : dk.size ≤ 96600000 := (by rw [ba_size hdk]; exact HLL.out i hlt _); have HB := Lib.hid hB; have HDK := Lib.hid hdk; clear hB hdk))
                    go_roundg (t.ks.length - (i + 1))
                    case measure => omega
                    case rel => exact ⟨i + 1, _, rfl, by go_num, rfl, HNX.out _ _ HB.out (by rw [ba_app, ba_app, ba_app, HDB.out, HDK.out]; simp)⟩
                  · have hi0 : i = 0 := by omega
                    have g0 : ¬ (0 : Int) < (i : Int) := by omega
                    have HNX : Hid (∀ (d' : ByteArray) w2, Below _ _ w2 → d'.data.toList = d0.data.toList ++ linF t.ks[i].form (c + 1) wd 0 → LinRel w w2 t R 0 (c + 1) wd k (i + 1) d') := Lib.hid fun d' w2 hb hd => HRL.out.next hlt hb (by rw [if_neg (by omega), if_neg hl]; exact hd)
                    clear hl h0 hi0
                    go_wp2_with (first
                      | (go_at_call 47; refine (HC.out _ HRL.out.box.2).mono ?_; rintro e w6 ⟨dk, rfl, hdk, hB⟩; have hdkz := ba_size hdk; have hdk9 : dk.size ≤ 96600000 := (by rw [ba_size hdk]; exact HLL.out i hlt _); have HB := Lib.hid hB; have HDK := Lib.hid hdk; clear hB hdk))
                    go_roundg (t.ks.length - (i + 1))
                    case measure => omega
                    case rel => exact ⟨i + 1, _, rfl, by go_num, rfl, HNX.out _ _ HB.out (by rw [ba_app, HDK.out])⟩
              · have gi : ¬ (i : Int) < (t.ks.length : Int) := by omega
                have HF := Lib.hid (HRL.out.fin (by omega))
                go_wp2_with fail
                go_ret
                exact ⟨_, rfl, HF.out, HRL.out.box.2⟩
          · have e0 : t.ks[0].form = fa := by
              have h := hms.symm.trans hks
              have := congrArg (fun l => l[0]?) h
              simpa [List.getElem?_eq_getElem hpos] using this
            have ek0 : t.ks[0].kd = fa.kd := by rw [← e0, T.form_kd]
            have g0k : (t.ks[0].kd == 1) = true := by rw [ek0, hk1]; rfl
            have hk0 := HKL.out 0 hpos
            have hw0 : txF t.ks[0].form = t.ks[0].tx.data.toList := hk0.2 (by rw [ek0, hk1])
            have hw9 : t.ks[0].tx.size ≤ 80200000 := by have h1 := hk0.1; rw [hw0] at h1; simpa using h1
            have hl1 : t.ks.length = 1 := by have h := congrArg List.length (hms.symm.trans hks); simpa using h
            have g2l : ¬ (1 : Int) < (t.ks.length : Int) := by omega
            have HJ : Hid (joinB ((t.form.ks.take 1).map txF) = t.ks[0].tx.data.toList) := Lib.hid (by rw [hks, ← hw0, e0]; simp [joinB])
            obtain ⟨db, hdb⟩ : ∃ db : ByteArray, db = ⟨(blk (c + 2)).toArray⟩ := ⟨_, rfl⟩
            have hdb9 : db.size ≤ 1000 := by
              rw [hdb]
              show (blk (c + 2)).toArray.size ≤ 1000
              simp [blk]; omega
            have HDB : Hid (db.data.toList = blk (c + 2)) := Lib.hid (by rw [hdb])
            have HBL : Hid (∀ W, Calls Tryz.prog 75 #[.int .i64 ((c : Int) + 2)] W fun e w' => e = .returned (.string db) ∧ W = w') := Lib.hid fun W => by
              have := blanks_any (c + 2) (by omega) W
              rw [← hdb] at this
              simpa using this
            have hiN : indN t.form.ks = 2 := by unfold indN; rw [hfn]; rfl
            rw [hfn] at HST
            rw [hiN] at HST HIH HLL
            clear hdb hiN hfn
            have HL1 := Lib.hid hl1
            clear e0 ek0 hks hk1 hms hk0 hw0 hl1
            go_enter Tryz.func47, Tryz.ntmps47
            go_wp2_with (go_at_call 32; (with_reducible refine HW.out.mono ?_); rintro e w2 ⟨d, rfl, hd, hB⟩; have hdz := ba_size hd; have g1 : ¬ (c : Int) + (d.size : Int) + (k : Int) ≤ (wd : Int) := (by omega); have g2 : (d.size : Int) ≤ 80200000 := (by omega); obtain ⟨c0, c1, c2, c3⟩ := box_cells (K0.out.next hB).1 HAD.out; obtain ⟨⟨x0, x1, x2, x3⟩, lb⟩ := HKC.out w2 (up (bel1 _ _) hB) 0 hpos; simp only [Nat.zero_mul, Nat.add_zero] at x0 x1 x2 x3; have KB := Lib.hid (K0.out.next hB); clear hd hB hdz)
            go_loopg [10, 13] (t.ks.length - 1) (fun m u i wr => ∃ (i0 : Nat) (d : ByteArray), m = t.ks.length - i0 ∧ i = .int .i64 i0 ∧ u = .string d ∧ LinRel w wr t R 1 (c + 2) wd k i0 d)
            case atStart => exact ⟨1, _, rfl, rfl, rfl, HST.out _ _ (by rw [HJ.out, ba_app]; rfl) KB.out⟩
            case round =>
              obtain ⟨i, d0, rfl, rfl, rfl, hrl⟩ := hrel
              obtain ⟨c0, c1, c2, c3⟩ := box_cells hrl.box.1 HAD.out
              have hdz := hrl.size
              have hil := hrl.le
              have HRL := Lib.hid hrl
              clear hrl
              by_cases hlt : i < t.ks.length
              · exact absurd HRL.out.ge (by have := HL1.out; omega)
              · have gi : ¬ (i : Int) < (t.ks.length : Int) := by omega
                have HF := Lib.hid (HRL.out.fin (by omega))
                go_wp2_with fail
                go_ret
                exact ⟨_, rfl, HF.out, HRL.out.box.2⟩
          · have e0 : t.ks[0].form = fa := by
              have h := hms.symm.trans hks
              have := congrArg (fun l => l[0]?) h
              simpa [List.getElem?_eq_getElem hpos] using this
            have ek0 : t.ks[0].kd = fa.kd := by rw [← e0, T.form_kd]
            have g0k : (t.ks[0].kd == 1) = true := by rw [ek0, hk1]; rfl
            have hk0 := HKL.out 0 hpos
            have hw0 : txF t.ks[0].form = t.ks[0].tx.data.toList := hk0.2 (by rw [ek0, hk1])
            have hw9 : t.ks[0].tx.size ≤ 80200000 := by have h1 := hk0.1; rw [hw0] at h1; simpa using h1
            have hl2 : t.ks.length = r.length + 2 := by
              have h := congrArg List.length (hms.symm.trans hks)
              simpa using h
            have h1l : 1 < t.ks.length := by omega
            have g2l : (1 : Int) < (t.ks.length : Int) := by omega
            have e1 : t.ks[1].form = fb := by
              have h := hms.symm.trans hks
              have := congrArg (fun l => l[1]?) h
              simpa [List.getElem?_eq_getElem h1l] using this
            have g1k : (t.ks[1].kd != 3) = false := by rw [show t.ks[1].kd = fb.kd by rw [← e1, T.form_kd], hk3]; rfl
            have HJ : Hid (joinB ((t.form.ks.take 1).map txF) = t.ks[0].tx.data.toList) := Lib.hid (by rw [hks, ← hw0, e0]; simp [joinB])
            obtain ⟨db, hdb⟩ : ∃ db : ByteArray, db = ⟨(blk (c + 2)).toArray⟩ := ⟨_, rfl⟩
            have hdb9 : db.size ≤ 1000 := by
              rw [hdb]
              show (blk (c + 2)).toArray.size ≤ 1000
              simp [blk]; omega
            have HDB : Hid (db.data.toList = blk (c + 2)) := Lib.hid (by rw [hdb])
            have HBL : Hid (∀ W, Calls Tryz.prog 75 #[.int .i64 ((c : Int) + 2)] W fun e w' => e = .returned (.string db) ∧ W = w') := Lib.hid fun W => by
              have := blanks_any (c + 2) (by omega) W
              rw [← hdb] at this
              simpa using this
            have hiN : indN t.form.ks = 2 := by unfold indN; rw [hfn]; rfl
            rw [hfn] at HST
            rw [hiN] at HST HIH HLL
            clear hdb hiN hfn
            clear e0 e1 ek0 hks hk1 hk3 hms hk0 hw0 hl2
            go_enter Tryz.func47, Tryz.ntmps47
            go_wp2_with (go_at_call 32; (with_reducible refine HW.out.mono ?_); rintro e w2 ⟨d, rfl, hd, hB⟩; have hdz := ba_size hd; have g1 : ¬ (c : Int) + (d.size : Int) + (k : Int) ≤ (wd : Int) := (by omega); have g2 : (d.size : Int) ≤ 80200000 := (by omega); obtain ⟨c0, c1, c2, c3⟩ := box_cells (K0.out.next hB).1 HAD.out; obtain ⟨⟨x0, x1, x2, x3⟩, lb⟩ := HKC.out w2 (up (bel1 _ _) hB) 0 hpos; simp only [Nat.zero_mul, Nat.add_zero] at x0 x1 x2 x3; obtain ⟨⟨y0, y1, y2, y3⟩, _⟩ := HKC.out w2 (up (bel1 _ _) hB) 1 h1l; simp only [Nat.one_mul] at y0 y1 y2 y3; have KB := Lib.hid (K0.out.next hB); clear hd hB hdz)
            go_loopg [10, 13] (t.ks.length - 1) (fun m u i wr => ∃ (i0 : Nat) (d : ByteArray), m = t.ks.length - i0 ∧ i = .int .i64 i0 ∧ u = .string d ∧ LinRel w wr t R 1 (c + 2) wd k i0 d)
            case atStart => exact ⟨1, _, rfl, rfl, rfl, HST.out _ _ (by rw [HJ.out, ba_app]; rfl) KB.out⟩
            case round =>
              obtain ⟨i, d0, rfl, rfl, rfl, hrl⟩ := hrel
              obtain ⟨c0, c1, c2, c3⟩ := box_cells hrl.box.1 HAD.out
              have hdz := hrl.size
              have hil := hrl.le
              have HRL := Lib.hid hrl
              clear hrl
              by_cases hlt : i < t.ks.length
              · obtain ⟨⟨x0, x1, x2, x3⟩, lb⟩ := HKC.out _ HRL.out.box.2 i hlt
                have gi : (i : Int) < (t.ks.length : Int) := by omega
                have gi2 : (0 : Int) ≤ (i : Int) := by omega
                by_cases hl : i + 1 = t.ks.length
                · have g1 : ((i : Int) + 1 == (t.ks.length : Int)) = true := by simp; omega
                  have HC := Lib.hid fun W hB => HIH.out i hlt ((c : Int) + 2) ((k : Int) + 1) (k + 1) W (by simp) (by simp) (Nat.le_refl _) hB
                  by_cases h0 : 0 < i
                  · have g0 : (0 : Int) < (i : Int) := by omega
                    have HNX : Hid (∀ (d' : ByteArray) w2, Below _ _ w2 → d'.data.toList = d0.data.toList ++ ((10 :: blk (c + 2)) ++ linF t.ks[i].form (c + 2) wd (k + 1)) → LinRel w w2 t R 1 (c + 2) wd k (i + 1) d') := Lib.hid fun d' w2 hb hd => HRL.out.next hlt hb (by rw [if_pos h0, if_pos hl]; exact hd)
                    clear hl h0
                    go_wp2_with (first
                      | (go_at_call 75; refine (HBL.out _).mono ?_; rintro e w5 ⟨rfl, rfl⟩)
                      | (go_at_call 47; refine (HC.out _ HRL.out.box.2).mono ?_; rintro e w6 ⟨dk, rfl, hdk, hB⟩; have hdkz := ba_size hdk; have hdk9 : dk.size ≤ 96600000 := (by rw [ba_size hdk]; exact HLL.out i hlt _); have HB := Lib.hid hB; have HDK := Lib.hid hdk; clear hB hdk))
                    go_roundg (t.ks.length - (i + 1))
                    case measure => omega
                    case rel => exact ⟨i + 1, _, rfl, by go_num, rfl, HNX.out _ _ HB.out (by rw [ba_app, ba_app, ba_app, HDB.out, HDK.out]; simp)⟩
                  · exact absurd HRL.out.ge (by omega)
                · have g1 : ((i : Int) + 1 == (t.ks.length : Int)) = false := by simp; omega
                  have HC := Lib.hid fun W hB => HIH.out i hlt ((c : Int) + 2) 0 0 W (by simp) rfl (Nat.zero_le _) hB
                  by_cases h0 : 0 < i
                  · have g0 : (0 : Int) < (i : Int) := by omega
                    have HNX : Hid (∀ (d' : ByteArray) w2, Below _ _ w2 → d'.data.toList = d0.data.toList ++ ((10 :: blk (c + 2)) ++ linF t.ks[i].form (c + 2) wd 0) → LinRel w w2 t R 1 (c + 2) wd k (i + 1) d') := Lib.hid fun d' w2 hb hd => HRL.out.next hlt hb (by rw [if_pos h0, if_neg hl]; exact hd)
                    clear hl h0
                    go_wp2_with (first
                      | (go_at_call 75; refine (HBL.out _).mono ?_; rintro e w5 ⟨rfl, rfl⟩)
                      | (go_at_call 47; refine (HC.out _ HRL.out.box.2).mono ?_; rintro e w6 ⟨dk, rfl, hdk, hB⟩; have hdkz := ba_size hdk; have hdk9 : dk.size ≤ 96600000 := (by rw [ba_size hdk]; exact HLL.out i hlt _); have HB := Lib.hid hB; have HDK := Lib.hid hdk; clear hB hdk))
                    go_roundg (t.ks.length - (i + 1))
                    case measure => omega
                    case rel => exact ⟨i + 1, _, rfl, by go_num, rfl, HNX.out _ _ HB.out (by rw [ba_app, ba_app, ba_app, HDB.out, HDK.out]; simp)⟩
                  · exact absurd HRL.out.ge (by omega)
              · have gi : ¬ (i : Int) < (t.ks.length : Int) := by omega
                have HF := Lib.hid (HRL.out.fin (by omega))
                go_wp2_with fail
                go_ret
                exact ⟨_, rfl, HF.out, HRL.out.box.2⟩
          · have e0 : t.ks[0].form = fa := by
              have h := hms.symm.trans hks
              have := congrArg (fun l => l[0]?) h
              simpa [List.getElem?_eq_getElem hpos] using this
            have ek0 : t.ks[0].kd = fa.kd := by rw [← e0, T.form_kd]
            have g0k : (t.ks[0].kd == 1) = true := by rw [ek0, hk1]; rfl
            have hk0 := HKL.out 0 hpos
            have hw0 : txF t.ks[0].form = t.ks[0].tx.data.toList := hk0.2 (by rw [ek0, hk1])
            have hw9 : t.ks[0].tx.size ≤ 80200000 := by have h1 := hk0.1; rw [hw0] at h1; simpa using h1
            have hl2 : t.ks.length = r.length + 2 := by
              have h := congrArg List.length (hms.symm.trans hks)
              simpa using h
            have h1l : 1 < t.ks.length := by omega
            have g2l : (1 : Int) < (t.ks.length : Int) := by omega
            have e1 : t.ks[1].form = fb := by
              have h := hms.symm.trans hks
              have := congrArg (fun l => l[1]?) h
              simpa [List.getElem?_eq_getElem h1l] using this
            have g1k : (t.ks[1].kd != 3) = true := by rw [show t.ks[1].kd = fb.kd by rw [← e1, T.form_kd]]; simpa using hk3
            have HJ : Hid (joinB ((t.form.ks.take 2).map txF) = t.ks[0].tx.data.toList ++ 32 :: txF t.ks[1].form) := Lib.hid (by rw [hks, ← hw0, e0, e1]; simp [joinB])
            have hk19 := (HKL.out 1 h1l).1
            obtain ⟨db, hdb⟩ : ∃ db : ByteArray, db = ⟨(blk (c + 2)).toArray⟩ := ⟨_, rfl⟩
            have hdb9 : db.size ≤ 1000 := by
              rw [hdb]
              show (blk (c + 2)).toArray.size ≤ 1000
              simp [blk]; omega
            have HDB : Hid (db.data.toList = blk (c + 2)) := Lib.hid (by rw [hdb])
            have HBL : Hid (∀ W, Calls Tryz.prog 75 #[.int .i64 ((c : Int) + 2)] W fun e w' => e = .returned (.string db) ∧ W = w') := Lib.hid fun W => by
              have := blanks_any (c + 2) (by omega) W
              rw [← hdb] at this
              simpa using this
            have hiN : indN t.form.ks = 2 := by unfold indN; rw [hfn]; rfl
            rw [hfn] at HST
            rw [hiN] at HST HIH HLL
            clear hdb hiN hfn
            clear e0 e1 ek0 hks hk1 hk3 hms hk0 hw0 hl2
            go_enter Tryz.func47, Tryz.ntmps47
            go_wp2_with (first
              | (go_at_call 32; (with_reducible refine HW.out.mono ?_); rintro e w2 ⟨d, rfl, hd, hB⟩; have hdz := ba_size hd; have g1 : ¬ (c : Int) + (d.size : Int) + (k : Int) ≤ (wd : Int) := (by omega); have g2 : (d.size : Int) ≤ 80200000 := (by omega); obtain ⟨c0, c1, c2, c3⟩ := box_cells (K0.out.next hB).1 HAD.out; obtain ⟨⟨x0, x1, x2, x3⟩, lb⟩ := HKC.out w2 (up (bel1 _ _) hB) 0 hpos; simp only [Nat.zero_mul, Nat.add_zero] at x0 x1 x2 x3; obtain ⟨⟨y0, y1, y2, y3⟩, _⟩ := HKC.out w2 (up (bel1 _ _) hB) 1 h1l; simp only [Nat.one_mul] at y0 y1 y2 y3; have KB := Lib.hid (K0.out.next hB); clear hd hB hdz)
              | (go_at_call 32; have KW := HW2.out 1 h1l _ KB.out.2; (with_reducible refine KW.mono ?_); rintro e w3 ⟨d2, rfl, hd2, hB⟩; have hd29 : d2.size ≤ 80200000 := (by rw [ba_size hd2]; exact hk19); have KC := Lib.hid (KB.out.next hB); have HD2 := Lib.hid hd2; clear hd2 hB))
            go_loopg [10, 13] (t.ks.length - 2) (fun m u i wr => ∃ (i0 : Nat) (d : ByteArray), m = t.ks.length - i0 ∧ i = .int .i64 i0 ∧ u = .string d ∧ LinRel w wr t R 2 (c + 2) wd k i0 d)
            case atStart => exact ⟨2, _, rfl, rfl, rfl, HST.out _ _ (by rw [HJ.out, ba_app, ba_app, ba_app, HD2.out]; simp) KC.out⟩
            case round =>
              obtain ⟨i, d0, rfl, rfl, rfl, hrl⟩ := hrel
              obtain ⟨c0, c1, c2, c3⟩ := box_cells hrl.box.1 HAD.out
              have hdz := hrl.size
              have hil := hrl.le
              have HRL := Lib.hid hrl
              clear hrl
              by_cases hlt : i < t.ks.length
              · obtain ⟨⟨x0, x1, x2, x3⟩, lb⟩ := HKC.out _ HRL.out.box.2 i hlt
                have gi : (i : Int) < (t.ks.length : Int) := by omega
                have gi2 : (0 : Int) ≤ (i : Int) := by omega
                by_cases hl : i + 1 = t.ks.length
                · have g1 : ((i : Int) + 1 == (t.ks.length : Int)) = true := by simp; omega
                  have HC := Lib.hid fun W hB => HIH.out i hlt ((c : Int) + 2) ((k : Int) + 1) (k + 1) W (by simp) (by simp) (Nat.le_refl _) hB
                  by_cases h0 : 0 < i
                  · have g0 : (0 : Int) < (i : Int) := by omega
                    have HNX : Hid (∀ (d' : ByteArray) w2, Below _ _ w2 → d'.data.toList = d0.data.toList ++ ((10 :: blk (c + 2)) ++ linF t.ks[i].form (c + 2) wd (k + 1)) → LinRel w w2 t R 2 (c + 2) wd k (i + 1) d') := Lib.hid fun d' w2 hb hd => HRL.out.next hlt hb (by rw [if_pos h0, if_pos hl]; exact hd)
                    clear hl h0
                    go_wp2_with (first
                      | (go_at_call 75; refine (HBL.out _).mono ?_; rintro e w5 ⟨rfl, rfl⟩)
                      | (go_at_call 47; refine (HC.out _ HRL.out.box.2).mono ?_; rintro e w6 ⟨dk, rfl, hdk, hB⟩; have hdkz := ba_size hdk; have hdk9 : dk.size ≤ 96600000 := (by rw [ba_size hdk]; exact HLL.out i hlt _); have HB := Lib.hid hB; have HDK := Lib.hid hdk; clear hB hdk))
                    go_roundg (t.ks.length - (i + 1))
                    case measure => omega
                    case rel => exact ⟨i + 1, _, rfl, by go_num, rfl, HNX.out _ _ HB.out (by rw [ba_app, ba_app, ba_app, HDB.out, HDK.out]; simp)⟩
                  · exact absurd HRL.out.ge (by omega)
                · have g1 : ((i : Int) + 1 == (t.ks.length : Int)) = false := by simp; omega
                  have HC := Lib.hid fun W hB => HIH.out i hlt ((c : Int) + 2) 0 0 W (by simp) rfl (Nat.zero_le _) hB
                  by_cases h0 : 0 < i
                  · have g0 : (0 : Int) < (i : Int) := by omega
                    have HNX : Hid (∀ (d' : ByteArray) w2, Below _ _ w2 → d'.data.toList = d0.data.toList ++ ((10 :: blk (c + 2)) ++ linF t.ks[i].form (c + 2) wd 0) → LinRel w w2 t R 2 (c + 2) wd k (i + 1) d') := Lib.hid fun d' w2 hb hd => HRL.out.next hlt hb (by rw [if_pos h0, if_neg hl]; exact hd)
                    clear hl h0
                    go_wp2_with (first
                      | (go_at_call 75; refine (HBL.out _).mono ?_; rintro e w5 ⟨rfl, rfl⟩)
                      | (go_at_call 47; refine (HC.out _ HRL.out.box.2).mono ?_; rintro e w6 ⟨dk, rfl, hdk, hB⟩; have hdkz := ba_size hdk; have hdk9 : dk.size ≤ 96600000 := (by rw [ba_size hdk]; exact HLL.out i hlt _); have HB := Lib.hid hB; have HDK := Lib.hid hdk; clear hB hdk))
                    go_roundg (t.ks.length - (i + 1))
                    case measure => omega
                    case rel => exact ⟨i + 1, _, rfl, by go_num, rfl, HNX.out _ _ HB.out (by rw [ba_app, ba_app, ba_app, HDB.out, HDK.out]; simp)⟩
                  · exact absurd HRL.out.ge (by omega)
              · have gi : ¬ (i : Int) < (t.ks.length : Int) := by omega
                have HF := Lib.hid (HRL.out.fin (by omega))
                go_wp2_with fail
                go_ret
                exact ⟨_, rfl, HF.out, HRL.out.box.2⟩
      · have b3 : (t.kd != 3) = true := by simpa using h3
        have HR : Hid (txF t.form = R) := Lib.hid (by rw [← hR, linF_eq, if_pos (.inr (.inl (by rw [T.form_kd]; exact h3)))])
        clear hR ih ha
        go_enter Tryz.func47, Tryz.ntmps47
        go_wp2_with (go_at_call 32; refine HW.out.mono ?_; rintro e w2 ⟨d, rfl, hd, hB⟩; have hdz := ba_size hd; have g1 : ¬ (c : Int) + (d.size : Int) + (k : Int) ≤ (wd : Int) := (by omega); have g2 : (d.size : Int) ≤ 80200000 := (by omega); obtain ⟨c0, c1, c2, c3⟩ := Box4.cells (w := w2) (b := w.heap.size) (t := t) ((K0.out.next hB).1); have HB := Lib.hid hB; have HD := Lib.hid hd; clear hd hB hdz)
        go_ret
        exact ⟨_, rfl, by rw [HD.out, HR.out], up (bel1 _ _) HB.out⟩
end Go.Proofs.YtdehkgflokeodaaGreatDoor.Y
