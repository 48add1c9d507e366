/- Size, Depth, Valid, Head. -/
import Derived.Test.YtedabholcldgbaaGreatDoorAlone
namespace Go.Proofs.YtedabholcldgbaaGreatDoor
open Go.RowKit Go.Deep

mutual
def fieldsF : Fm → Bool
  | .mk k n s ks => aloneF (.mk k n s ks) && (if k = 3 then fieldsL ks else true)
def fieldsL : List Fm → Bool
  | [] => true
  | f :: fs => fieldsF f && fieldsL fs
end
theorem fieldsF_eq (f : Fm) : fieldsF f = (aloneF f && fieldsL f.kids) := by
  cases f with
  | mk k n s ks => unfold fieldsF Fm.kids; simp only [Fm.kd, Fm.ks]; by_cases h : k = 3 <;> simp [h, fieldsL]
def visValid : Int → Fm → Int → Int × Bool := fun x f d => (x + 1, decide (x + 1 ≤ 20000) && decide (d ≤ 100) && aloneF f)
theorem visValid_tame : Tame visValid := ⟨fun x _ _ h _ => by simp only [visValid]; omega, fun x _ d => by simp only [visValid]; omega⟩
def validF (f : Fm) : Bool := decide (szF f ≤ 20000) && decide (dpF f ≤ 100) && fieldsF f

def WV (f : Fm) (d x : Int) : Prop := ((walkF visValid f d x).2 = true ↔ x + szF f ≤ 20000 ∧ d + dpF f - 1 ≤ 100 ∧ fieldsF f = true) ∧ ((walkF visValid f d x).2 = true → (walkF visValid f d x).1 = x + szF f)
theorem walkL_valid : ∀ (l : List Fm) (d x : Int), (∀ f ∈ l, ∀ x, WV f d x) → x ≤ 20000 → d - 1 ≤ 100 →
    ((walkL visValid l d x).2 = true ↔ x + szL l ≤ 20000 ∧ d + dpL l - 1 ≤ 100 ∧ fieldsL l = true) ∧ ((walkL visValid l d x).2 = true → (walkL visValid l d x).1 = x + szL l)
  | [], d, x, _, hx, hd => by simp only [walkL, szL, dpL, fieldsL]; simp; omega
  | f :: fs, d, x, h, hx, hd => by
    obtain ⟨h1, h2⟩ := h f (by simp) x
    simp only [walkL, szL, dpL, fieldsL, Bool.and_eq_true]
    by_cases hv : (walkF visValid f d x).2 = true
    · rw [if_pos hv]
      obtain ⟨a, b, c⟩ := h1.1 hv
      have e := h2 hv
      rw [e]
      obtain ⟨g1, g2⟩ := walkL_valid fs d (x + szF f) (fun g hg => h g (by simp [hg])) a hd
      refine ⟨?_, fun q => ?_⟩
      · rw [g1]
        constructor
        · rintro ⟨q1, q2, q3⟩; exact ⟨by omega, by omega, c, q3⟩
        · rintro ⟨q1, q2, _, q3⟩; exact ⟨by omega, by omega, q3⟩
      · rw [g2 q]; omega
    · rw [if_neg hv]
      refine ⟨⟨fun q => by simp at q, ?_⟩, fun q => by simp at q⟩
      rintro ⟨q1, q2, q3, _⟩
      exact absurd (h1.2 ⟨by omega, by omega, q3⟩) hv
theorem walkF_valid' (n : Nat) : ∀ f : Fm, SizeOf.sizeOf f < n → ∀ d x, WV f d x := by
  induction n with
  | zero => intro f h; omega
  | succ n ih =>
    intro f hf d x
    unfold WV
    rw [walkF_eq, szF_eq, dpF_eq, fieldsF_eq]
    by_cases hv : (visValid x f d).2 = true
    · rw [if_pos hv]
      simp only [visValid, Bool.and_eq_true, decide_eq_true_eq] at hv
      obtain ⟨⟨v1, v2⟩, v3⟩ := hv
      obtain ⟨g1, g2⟩ := walkL_valid f.kids (d + 1) (x + 1) (fun g hg y => ih g (by have := Fm.kids_lt hg; omega) (d + 1) y) v1 (by omega)
      rw [show (visValid x f d).1 = x + 1 from rfl]
      refine ⟨?_, fun q => ?_⟩
      · rw [g1, Bool.and_eq_true]
        constructor
        · rintro ⟨q1, q2, q3⟩; exact ⟨by omega, by omega, v3, q3⟩
        · rintro ⟨q1, q2, _, q3⟩; exact ⟨by omega, by omega, q3⟩
      · rw [g2 q]; omega
    · rw [if_neg hv]
      refine ⟨⟨fun q => by simp at q, ?_⟩, fun q => by simp at q⟩
      rintro ⟨q1, q2, q3⟩
      rw [Bool.and_eq_true] at q3
      exact absurd (by simp only [visValid, Bool.and_eq_true, decide_eq_true_eq]; exact ⟨⟨by omega, by omega⟩, q3.1⟩) hv
theorem walkF_valid (f : Fm) : (walkF visValid f 1 0).2 = validF f := by
  have h := (walkF_valid' _ f (Nat.lt_succ_self _) 1 0).1
  rw [Bool.eq_iff_iff, h]
  unfold validF
  simp only [Bool.and_eq_true, decide_eq_true_eq]
  constructor
  · rintro ⟨a, b, c⟩; exact ⟨⟨by omega, by omega⟩, c⟩
  · rintro ⟨⟨a, b⟩, c⟩; exact ⟨by omega, by omega, c⟩

theorem Only.upw {P : Nat} {w w' w'' : World} (h : Only P w w') (hb : Below w'.heap.size w' w'') : Only P w w'' := h.trans (Only.of hb)
set_option maxHeartbeats 1000000 in
theorem visValid_ok : VisOk 58 visValid := by
  intro t d x P w hin hno hc x0 x1 d0 d1
  have c := hc.cell
  have f := hc.free
  have l := hc.lt
  have HC := Lib.hid hc
  have HA := Lib.hid (alone_any t hin.ok)
  clear hc
  obtain ⟨r, hr⟩ : ∃ r, (visValid x t.form d).2 = r := ⟨_, rfl⟩
  rw [hr, show (visValid x t.form d).1 = x + 1 from rfl]
  by_cases h1 : x + 1 ≤ 20000
  · by_cases h2 : d ≤ 100
    · have e : aloneF t.form = r := by rw [← hr]; simp [visValid, h1, h2]
      rw [e] at HA
      clear hr e
      go_enter Tryz.func58, Tryz.ntmps58
      go_wp2_with (go_at_call 59; refine (HA.out _).mono ?_; rintro e w2 ⟨rfl, hB⟩)
      go_ret
      exact ⟨rfl, ((HC.out.set _).alloc _).below hB, (((Only.refl _ _).set _).alloc _).upw hB⟩
    · obtain rfl : false = r := by rw [← hr]; simp [visValid, h2]
      have h2' : decide (d ≤ 100) = false := by simpa using h2
      clear hr h2
      go_enter Tryz.func58, Tryz.ntmps58
      go_wp2_with fail
      go_ret
      exact ⟨rfl, (HC.out.set _).alloc _, ((Only.refl _ _).set _).alloc _⟩
  · obtain rfl : false = r := by rw [← hr]; simp [visValid, h1]
    have h1' : decide (x + 1 ≤ 20000) = false := by simpa using h1
    clear hr h1
    go_enter Tryz.func58, Tryz.ntmps58
    go_wp2_with fail
    go_ret
    exact ⟨rfl, (HC.out.set _).alloc _, ((Only.refl _ _).set _).alloc _⟩

set_option maxHeartbeats 1000000 in
set_option maxRecDepth 100000 in
/-- walk, handed the visit visDepth. -/
theorem walk_visDepth (P : Nat) (n : Nat) : ∀ t : T, SizeOf.sizeOf t < n → ∀ (d x : Int) (w : World), In w t → ¬ On t P → Cell1 w P x →
    0 ≤ x → 0 ≤ d → max x d + szF t.form ≤ 4611686018427387904 →
    Calls Tryz.prog 57 #[t.val, .int .i64 d, .func (.func 70) #[] #[.pointer (some ⟨P, 0, none⟩)]] w
      fun e w' => e = .returned (.bool (walkF visDepth t.form d x).2) ∧ Cell1 w' P (walkF visDepth t.form d x).1 ∧ Only P w w' := by
  induction n with
  | zero => intro t h; omega
  | succ n ih =>
    intro t hn d x w hin hno hc x0 d0 hb
    have HV := Lib.hid (visDepth_ok t d x P)
    have HE := walkF_eq visDepth t.form d x
    have IH := Lib.hid ih
    have HB := Lib.hid hb
    have hb1 : x ≤ 4611686018427387904 := by omega
    have hb2 : d ≤ 4611686018427387904 := by omega
    have hP := hc.lt
    have HC := Lib.hid hc
    clear ih hb hc
    obtain ⟨y, hy⟩ : ∃ y, (visDepth x t.form d).1 = y := ⟨_, rfl⟩
    rw [hy] at HE HV
    have HY := Lib.hid hy
    clear hy
    cases hv : (visDepth x t.form d).2 with
    | false =>
      rw [hv] at HV HE
      rw [if_neg (by simp)] at HE
      rw [HE]
      clear hv HE
      go_enter Tryz.func57, Tryz.ntmps57
      go_wp2_with (go_at_call 70; refine (HV.out _ (hin.alloc _) hno (HC.out.alloc _) x0 hb1 d0 hb2).mono ?_; rintro e w2 ⟨rfl, hc2, ho2⟩)
      go_ret
      exact ⟨rfl, hc2, ((Only.refl _ _).alloc _).trans ho2⟩
    | true =>
      rw [hv] at HV HE
      rw [if_pos rfl] at HE
      clear hv
      obtain ⟨a, c, xs, hxs, hlen, hmem, hInL, hkids⟩ := kids_any t
      have hlen := hlen hin.ok
      unfold maxLen at hlen
      have HK := Lib.hid hkids
      have HX := Lib.hid hxs
      have HI := Lib.hid hInL
      have HM := Lib.hid hmem
      have hs := Left.start (f := t.form) visDepth_tame x0 d0 HB.out HY.out
      rw [← hxs] at hs HE
      rw [HE]
      have HS := Lib.hid hs
      clear hxs hkids hInL hmem HB HY hs HX HE
      go_enter Tryz.func57, Tryz.ntmps57
      go_wp2_with (first
        | (go_at_call 70; refine (HV.out _ (hin.alloc _) hno (HC.out.alloc _) x0 hb1 d0 hb2).mono ?_; rintro e w2 ⟨rfl, hc2, ho2⟩; have hbx := (Box4.new w t).only ho2 (by omega); obtain ⟨b0, b1, b2, b3⟩ := hbx.cells; have HC2 := Lib.hid hc2; clear hbx hc2)
        | (go_at_call 71; refine (HK.out _).mono ?_; rintro e w3 ⟨rfl, hB3⟩))
      go_loopg [17] (xs.length) (fun m i wr => ∃ (j : Nat) (z : Int), j ≤ xs.length ∧ m = xs.length - j ∧ i = .int .i64 j ∧ Left visDepth (xs.map T.form) (d + 1) y j z ∧ Cell1 wr P z ∧ Only P w wr)
      case atStart => exact ⟨0, y, by omega, rfl, rfl, HS.out, HC2.out.below hB3, (((Only.refl _ _).alloc _).trans ho2).trans (Only.of hB3)⟩
      case round =>
        obtain ⟨j, z, hj, rfl, rfl, hL, hcz, hoz⟩ := hrel
        have HCZ := Lib.hid hcz
        by_cases hlt : j < xs.length
        · obtain ⟨⟨b, o, rfl, hx0, hx1, hx2, hx3⟩, hinj⟩ := (HI.out wr (hin.only hoz hno)).at j hlt
          have lb : b < wr.heap.size := World.block_lt_of_cell? _ _ hx0
          have hmj := HM.out _ (List.getElem_mem hlt)
          have hat := hL.at (by simpa using hlt)
          simp only [List.getElem_map] at hat
          have HR := Lib.hid (IH.out xs[j] (by have := T.kid_lt hmj; omega) (d + 1) z (wr.alloc (.cells #[.int .i64 xs[j].kd, .int .i64 xs[j].nn, .string xs[j].tx, .slice xs[j].ad xs[j].ks.length xs[j].cp] 29)) (hinj.alloc _) (fun ho => hno (.kid hmj ho)) (hcz.alloc _) hL.2.1 (by omega) hat)
          cases hv : (walkF visDepth xs[j].form (d + 1) z).2 with
          | true =>
            rw [hv] at HR
            have HST := Lib.hid (hL.step visDepth_tame (by omega) (by simpa using hlt) (by simpa using hv))
            have HL := Lib.hid hL
            clear hv hcz hat hL b0 b1 b2 b3
            go_wp2_with (go_at_call 57; refine (HR.out).mono ?_; rintro e w4 ⟨rfl, hc4, ho4⟩)
            go_roundg (xs.length - (j + 1))
            case measure => omega
            case rel => exact ⟨j + 1, _, by omega, rfl, by go_num, HST.out, by simpa using hc4, (hoz.alloc _).trans ho4⟩
          | false =>
            rw [hv] at HR
            have HST := Lib.hid (hL.stop (by simpa using hlt) (by simpa using hv))
            clear hv hcz hat hL b0 b1 b2 b3
            go_wp2_with (go_at_call 57; refine (HR.out).mono ?_; rintro e w4 ⟨rfl, hc4, ho4⟩)
            go_ret
            exact ⟨ret_bool (by rw [HST.out]), by rw [HST.out]; simpa using hc4, (hoz.alloc _).trans ho4⟩
        · have HE := Lib.hid (hL.ends (by simp; omega))
          clear hL hcz
          go_wp2_with fail
          go_ret
          exact ⟨ret_bool (by rw [HE.out]), by rw [HE.out]; exact HCZ.out, hoz⟩

set_option maxHeartbeats 1000000 in
set_option maxRecDepth 100000 in
/-- walk, handed the visit visValid. -/
theorem walk_visValid (P : Nat) (n : Nat) : ∀ t : T, SizeOf.sizeOf t < n → ∀ (d x : Int) (w : World), In w t → ¬ On t P → Cell1 w P x →
    0 ≤ x → 0 ≤ d → max x d + szF t.form ≤ 4611686018427387904 →
    Calls Tryz.prog 57 #[t.val, .int .i64 d, .func (.func 58) #[] #[.pointer (some ⟨P, 0, none⟩)]] w
      fun e w' => e = .returned (.bool (walkF visValid t.form d x).2) ∧ Cell1 w' P (walkF visValid t.form d x).1 ∧ Only P w w' := by
  induction n with
  | zero => intro t h; omega
  | succ n ih =>
    intro t hn d x w hin hno hc x0 d0 hb
    have HV := Lib.hid (visValid_ok t d x P)
    have HE := walkF_eq visValid t.form d x
    have IH := Lib.hid ih
    have HB := Lib.hid hb
    have hb1 : x ≤ 4611686018427387904 := by omega
    have hb2 : d ≤ 4611686018427387904 := by omega
    have hP := hc.lt
    have HC := Lib.hid hc
    clear ih hb hc
    obtain ⟨y, hy⟩ : ∃ y, (visValid x t.form d).1 = y := ⟨_, rfl⟩
    rw [hy] at HE HV
    have HY := Lib.hid hy
    clear hy
    cases hv : (visValid x t.form d).2 with
    | false =>
      rw [hv] at HV HE
      rw [if_neg (by simp)] at HE
      rw [HE]
      clear hv HE
      go_enter Tryz.func57, Tryz.ntmps57
      go_wp2_with (go_at_call 58; refine (HV.out _ (hin.alloc _) hno (HC.out.alloc _) x0 hb1 d0 hb2).mono ?_; rintro e w2 ⟨rfl, hc2, ho2⟩)
      go_ret
      exact ⟨rfl, hc2, ((Only.refl _ _).alloc _).trans ho2⟩
    | true =>
      rw [hv] at HV HE
      rw [if_pos rfl] at HE
      clear hv
      obtain ⟨a, c, xs, hxs, hlen, hmem, hInL, hkids⟩ := kids_any t
      have hlen := hlen hin.ok
      unfold maxLen at hlen
      have HK := Lib.hid hkids
      have HX := Lib.hid hxs
      have HI := Lib.hid hInL
      have HM := Lib.hid hmem
      have hs := Left.start (f := t.form) visValid_tame x0 d0 HB.out HY.out
      rw [← hxs] at hs HE
      rw [HE]
      have HS := Lib.hid hs
      clear hxs hkids hInL hmem HB HY hs HX HE
      go_enter Tryz.func57, Tryz.ntmps57
      go_wp2_with (first
        | (go_at_call 58; refine (HV.out _ (hin.alloc _) hno (HC.out.alloc _) x0 hb1 d0 hb2).mono ?_; rintro e w2 ⟨rfl, hc2, ho2⟩; have hbx := (Box4.new w t).only ho2 (by omega); obtain ⟨b0, b1, b2, b3⟩ := hbx.cells; have HC2 := Lib.hid hc2; clear hbx hc2)
        | (go_at_call 71; refine (HK.out _).mono ?_; rintro e w3 ⟨rfl, hB3⟩))
      go_loopg [17] (xs.length) (fun m i wr => ∃ (j : Nat) (z : Int), j ≤ xs.length ∧ m = xs.length - j ∧ i = .int .i64 j ∧ Left visValid (xs.map T.form) (d + 1) y j z ∧ Cell1 wr P z ∧ Only P w wr)
      case atStart => exact ⟨0, y, by omega, rfl, rfl, HS.out, HC2.out.below hB3, (((Only.refl _ _).alloc _).trans ho2).trans (Only.of hB3)⟩
      case round =>
        obtain ⟨j, z, hj, rfl, rfl, hL, hcz, hoz⟩ := hrel
        have HCZ := Lib.hid hcz
        by_cases hlt : j < xs.length
        · obtain ⟨⟨b, o, rfl, hx0, hx1, hx2, hx3⟩, hinj⟩ := (HI.out wr (hin.only hoz hno)).at j hlt
          have lb : b < wr.heap.size := World.block_lt_of_cell? _ _ hx0
          have hmj := HM.out _ (List.getElem_mem hlt)
          have hat := hL.at (by simpa using hlt)
          simp only [List.getElem_map] at hat
          have HR := Lib.hid (IH.out xs[j] (by have := T.kid_lt hmj; omega) (d + 1) z (wr.alloc (.cells #[.int .i64 xs[j].kd, .int .i64 xs[j].nn, .string xs[j].tx, .slice xs[j].ad xs[j].ks.length xs[j].cp] 29)) (hinj.alloc _) (fun ho => hno (.kid hmj ho)) (hcz.alloc _) hL.2.1 (by omega) hat)
          cases hv : (walkF visValid xs[j].form (d + 1) z).2 with
          | true =>
            rw [hv] at HR
            have HST := Lib.hid (hL.step visValid_tame (by omega) (by simpa using hlt) (by simpa using hv))
            have HL := Lib.hid hL
            clear hv hcz hat hL b0 b1 b2 b3
            go_wp2_with (go_at_call 57; refine (HR.out).mono ?_; rintro e w4 ⟨rfl, hc4, ho4⟩)
            go_roundg (xs.length - (j + 1))
            case measure => omega
            case rel => exact ⟨j + 1, _, by omega, rfl, by go_num, HST.out, by simpa using hc4, (hoz.alloc _).trans ho4⟩
          | false =>
            rw [hv] at HR
            have HST := Lib.hid (hL.stop (by simpa using hlt) (by simpa using hv))
            clear hv hcz hat hL b0 b1 b2 b3
            go_wp2_with (go_at_call 57; refine (HR.out).mono ?_; rintro e w4 ⟨rfl, hc4, ho4⟩)
            go_ret
            exact ⟨ret_bool (by rw [HST.out]), by rw [HST.out]; simpa using hc4, (hoz.alloc _).trans ho4⟩
        · have HE := Lib.hid (hL.ends (by simp; omega))
          clear hL hcz
          go_wp2_with fail
          go_ret
          exact ⟨ret_bool (by rw [HE.out]), by rw [HE.out]; exact HCZ.out, hoz⟩


theorem On.lt {w : World} {t : T} {b : Nat} (hi : In w t) (h : On t b) : b < w.heap.size := In.lt h hi
theorem Cell1.new2 (w : World) (o : Obj) (x : Int) : Cell1 ((w.alloc o).alloc (.cells #[.int .i64 x] 3)) (w.heap.size + 1) x := by
  have h := heap_alloc_new (w.alloc o) (.cells #[.int .i64 x] 3)
  rw [show (w.alloc o).heap.size = w.heap.size + 1 by simp] at h
  exact h
/-- reader.Size. -/
theorem size_any (t : T) (w : World) (hin : In w t) (hb : szF t.form ≤ 4611686018427387903) :
    Calls Tryz.prog 41 #[t.val] w fun e w' => e = .returned (.int .i64 (szF t.form)) ∧ Below w.heap.size w w' := by
  have HW := Lib.hid fun w' g1 g3 => walk_visSize (w.heap.size + 1) _ t (Nat.lt_succ_self _) 1 0 w' g1 (fun ho => absurd (On.lt hin ho) (by omega)) g3 (by omega) (by omega) (by omega)
  simp only [walkF_size] at HW
  go_enter Tryz.func41, Tryz.ntmps41
  go_wp2_with (go_at_call 57; refine (HW.out _ ((hin.alloc _).alloc _) (Cell1.new2 _ _ _)).mono ?_; rintro e w2 ⟨rfl, hc, ho⟩; have c := hc.cell; have HB := Lib.hid ((bel2 _ _ _).trans (ho.below (B := w.heap.size) (by omega) (by simp; omega))); clear hc ho)
  go_ret
  exact ⟨ret_int (by omega), HB.out⟩
/-- reader.Depth. -/
theorem depth_any (t : T) (w : World) (hin : In w t) (hb : szF t.form ≤ 4611686018427387903) :
    Calls Tryz.prog 42 #[t.val] w fun e w' => e = .returned (.int .i64 (dpF t.form)) ∧ Below w.heap.size w w' := by
  have HW := Lib.hid fun w' g1 g3 => walk_visDepth (w.heap.size + 1) _ t (Nat.lt_succ_self _) 1 0 w' g1 (fun ho => absurd (On.lt hin ho) (by omega)) g3 (by omega) (by omega) (by omega)
  simp only [walkF_depth] at HW
  go_enter Tryz.func42, Tryz.ntmps42
  go_wp2_with (go_at_call 57; refine (HW.out _ ((hin.alloc _).alloc _) (Cell1.new2 _ _ _)).mono ?_; rintro e w2 ⟨rfl, hc, ho⟩; have c := hc.cell; have HB := Lib.hid ((bel2 _ _ _).trans (ho.below (B := w.heap.size) (by omega) (by simp; omega))); clear hc ho)
  go_ret
  exact ⟨ret_int (by omega), HB.out⟩
/-- reader.Valid. -/
theorem valid_any (t : T) (w : World) (hin : In w t) (hb : szF t.form ≤ 4611686018427387903) :
    Calls Tryz.prog 30 #[t.val] w fun e w' => e = .returned (.bool (validF t.form)) ∧ Below w.heap.size w w' := by
  have HW := Lib.hid fun w' g1 g3 => walk_visValid (w.heap.size + 1) _ t (Nat.lt_succ_self _) 1 0 w' g1 (fun ho => absurd (On.lt hin ho) (by omega)) g3 (by omega) (by omega) (by omega)
  simp only [walkF_valid] at HW
  go_enter Tryz.func30, Tryz.ntmps30
  go_wp2_with (go_at_call 57; refine (HW.out _ ((hin.alloc _).alloc _) (Cell1.new2 _ _ _)).mono ?_; rintro e w2 ⟨rfl, hc, ho⟩; have HB := Lib.hid ((bel2 _ _ _).trans (ho.below (B := w.heap.size) (by omega) (by simp; omega))); clear hc ho)
  go_ret
  exact ⟨rfl, HB.out⟩
end Go.Proofs.YtedabholcldgbaaGreatDoor
