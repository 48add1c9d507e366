/- reader.Valid of any form, however many parts it has. -/
import Derived.Test.YtdehkgflokeodaaGreatDoorSize
namespace Go.Proofs.YtdehkgflokeodaaGreatDoor
open Go.RowKit Go.Deep

/-- What is left of the Kids' walk behind the first j of them: the count is small still. -/
def LeftV (l : List Fm) (d x : Int) (j : Nat) (y : Int) : Prop := walkL visValid l d x = walkL visValid (l.drop j) d y ∧ 0 ≤ y ∧ y ≤ 20000
theorem LeftV.step {l : List Fm} {d x y : Int} {j : Nat} (h : LeftV l d x j y) (hj : j < l.length) (hv : (walkF visValid l[j] d y).2 = true) : LeftV l d x (j + 1) (walkF visValid l[j] d y).1 := by
  obtain ⟨h1, h0, h2⟩ := h
  have hw := walkF_valid' _ l[j] (Nat.lt_succ_self _) d y
  have h3 := (hw.1.1 hv).1
  have h4 := hw.2 hv
  rw [List.drop_eq_getElem_cons hj, walkL, if_pos hv] at h1
  exact ⟨h1, by omega, by omega⟩
theorem LeftV.stop {l : List Fm} {d x y : Int} {j : Nat} (h : LeftV l d x j y) (hj : j < l.length) (hv : (walkF visValid l[j] d y).2 = false) : walkL visValid l d x = ((walkF visValid l[j] d y).1, false) := by
  obtain ⟨h1, _, _⟩ := h
  rw [List.drop_eq_getElem_cons hj, walkL, hv] at h1
  simpa using h1
theorem LeftV.ends {l : List Fm} {d x y : Int} {j : Nat} (h : LeftV l d x j y) (hj : l.length ≤ j) : walkL visValid l d x = (y, true) := by
  obtain ⟨h1, _, _⟩ := h
  rw [List.drop_of_length_le hj, walkL] at h1
  exact h1

set_option maxHeartbeats 1000000 in
set_option maxRecDepth 100000 in
/-- walk, handed the visit visValid. -/
theorem walk_visBig (P : Nat) (n : Nat) : ∀ t : T, SizeOf.sizeOf t < n → ∀ (d x : Int) (w : World), In w t → ¬ On t P → Cell1 w P x →
    0 ≤ x → x ≤ 20000 → 0 ≤ d → d ≤ 101 →
    Calls Tryz.prog 57 #[t.val, .int .i64 d, .func (.func 58) #[] #[.pointer (some ⟨P, 0, none⟩)]] w
      fun e w' => e = .returned (.bool (walkF visValid t.form d x).2) ∧ Cell1 w' P (walkF visValid t.form d x).1 ∧ Only P w w' := by
  induction n with
  | zero => intro t h; omega
  | succ n ih =>
    intro t hn d x w hin hno hc x0 x1 d0 d1
    have HV := Lib.hid (visValid_ok t d x P)
    have HE := walkF_eq visValid t.form d x
    have IH := Lib.hid ih
    have hb1 : x ≤ 4611686018427387904 := by omega
    have hb2 : d ≤ 4611686018427387904 := by omega
    have hP := hc.lt
    have HC := Lib.hid hc
    clear ih hc
    obtain ⟨y, hy⟩ : ∃ y, (visValid x t.form d).1 = y := ⟨_, rfl⟩
    rw [hy] at HE HV
    have HY := Lib.hid hy
    clear hy
    cases hv : (visValid x t.form d).2 with
    | false =>
      rw [hv] at HV HE
      rw [if_neg (by simp)] at HE
      rw [HE]
      clear hv HE
      go_enter Tryz.func57, Tryz.ntmps57
      go_wp2_with (go_at_call 58; refine (HV.out _ (hin.alloc _) hno (HC.out.alloc _) x0 hb1 d0 hb2).mono ?_; rintro e w2 ⟨rfl, hc2, ho2⟩)
      go_ret
      exact ⟨rfl, hc2, ((Only.refl _ _).alloc _).trans ho2⟩
    | true =>
      rw [hv] at HV HE
      rw [if_pos rfl] at HE
      have HV2 : y ≤ 20000 ∧ d ≤ 100 := by
        have h1 := HY.out
        simp only [visValid, Bool.and_eq_true, decide_eq_true_eq] at hv h1
        omega
      clear hv
      obtain ⟨a, c, xs, hxs, hlen, hmem, hInL, hkids⟩ := kids_any t
      have hlen := hlen hin.ok
      unfold maxLen at hlen
      have HK := Lib.hid hkids
      have HX := Lib.hid hxs
      have HI := Lib.hid hInL
      have HM := Lib.hid hmem
      have hs : LeftV t.form.kids (d + 1) y 0 y := ⟨by rw [List.drop_zero], by have := HY.out; simp only [visValid] at this; omega, HV2.1⟩
      rw [← hxs] at hs HE
      rw [HE]
      have HS := Lib.hid hs
      clear hxs hkids hInL hmem HY hs HX HE
      go_enter Tryz.func57, Tryz.ntmps57
      go_wp2_with (first
        | (go_at_call 58; refine (HV.out _ (hin.alloc _) hno (HC.out.alloc _) x0 hb1 d0 hb2).mono ?_; rintro e w2 ⟨rfl, hc2, ho2⟩; have hbx := (Box4.new w t).only ho2 (by omega); obtain ⟨b0, b1, b2, b3⟩ := hbx.cells; have HC2 := Lib.hid hc2; clear hbx hc2)
        | (go_at_call 71; refine (HK.out _).mono ?_; rintro e w3 ⟨rfl, hB3⟩))
      go_loopg [17] (xs.length) (fun m i wr => ∃ (j : Nat) (z : Int), j ≤ xs.length ∧ m = xs.length - j ∧ i = .int .i64 j ∧ LeftV (xs.map T.form) (d + 1) y j z ∧ Cell1 wr P z ∧ Only P w wr)
      case atStart => exact ⟨0, y, by omega, rfl, rfl, HS.out, HC2.out.below hB3, (((Only.refl _ _).alloc _).trans ho2).trans (Only.of hB3)⟩
      case round =>
        obtain ⟨j, z, hj, rfl, rfl, hL, hcz, hoz⟩ := hrel
        have HCZ := Lib.hid hcz
        by_cases hlt : j < xs.length
        · obtain ⟨⟨b, o, rfl, hx0, hx1, hx2, hx3⟩, hinj⟩ := (HI.out wr (hin.only hoz hno)).at j hlt
          have lb : b < wr.heap.size := World.block_lt_of_cell? _ _ hx0
          have hmj := HM.out _ (List.getElem_mem hlt)
          have HR := Lib.hid (IH.out xs[j] (by have := T.kid_lt hmj; omega) (d + 1) z (wr.alloc (.cells #[.int .i64 xs[j].kd, .int .i64 xs[j].nn, .string xs[j].tx, .slice xs[j].ad xs[j].ks.length xs[j].cp] 29)) (hinj.alloc _) (fun ho => hno (.kid hmj ho)) (hcz.alloc _) hL.2.1 hL.2.2 (by omega) (by omega))
          cases hv : (walkF visValid xs[j].form (d + 1) z).2 with
          | true =>
            rw [hv] at HR
            have HST := Lib.hid (hL.step (by simpa using hlt) (by simpa using hv))
            have HL := Lib.hid hL
            clear hv hcz hL b0 b1 b2 b3
            go_wp2_with (go_at_call 57; refine (HR.out).mono ?_; rintro e w4 ⟨rfl, hc4, ho4⟩)
            go_roundg (xs.length - (j + 1))
            case measure => omega
            case rel => exact ⟨j + 1, _, by omega, rfl, by go_num, HST.out, by simpa using hc4, (hoz.alloc _).trans ho4⟩
          | false =>
            rw [hv] at HR
            have HST := Lib.hid (hL.stop (by simpa using hlt) (by simpa using hv))
            clear hv hcz hL b0 b1 b2 b3
            go_wp2_with (go_at_call 57; refine (HR.out).mono ?_; rintro e w4 ⟨rfl, hc4, ho4⟩)
            go_ret
            exact ⟨ret_bool (by rw [HST.out]), by rw [HST.out]; simpa using hc4, (hoz.alloc _).trans ho4⟩
        · have HE := Lib.hid (hL.ends (by simp; omega))
          clear hL hcz
          go_wp2_with fail
          go_ret
          exact ⟨ret_bool (by rw [HE.out]), by rw [HE.out]; exact HCZ.out, hoz⟩
/-- reader.Valid. -/
theorem valid_big (t : T) (w : World) (hin : In w t) :
    Calls Tryz.prog 30 #[t.val] w fun e w' => e = .returned (.bool (validF t.form)) ∧ Below w.heap.size w w' := by
  have HW := Lib.hid fun w' g1 g3 => walk_visBig (w.heap.size + 1) _ t (Nat.lt_succ_self _) 1 0 w' g1 (fun ho => absurd (On.lt hin ho) (by omega)) g3 (by omega) (by omega) (by omega) (by omega)
  simp only [walkF_valid] at HW
  go_enter Tryz.func30, Tryz.ntmps30
  go_wp2_with (go_at_call 57; refine (HW.out _ ((hin.alloc _).alloc _) (Cell1.new2 _ _ _)).mono ?_; rintro e w2 ⟨rfl, hc, ho⟩; have HB := Lib.hid ((bel2 _ _ _).trans (ho.below (B := w.heap.size) (by omega) (by simp; omega))); clear hc ho)
  go_ret
  exact ⟨rfl, HB.out⟩
end Go.Proofs.YtdehkgflokeodaaGreatDoor
