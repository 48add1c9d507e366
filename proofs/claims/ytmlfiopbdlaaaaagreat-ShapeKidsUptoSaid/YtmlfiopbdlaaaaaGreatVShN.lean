/- The chapter's sane, and the law on Kids and Calls. -/
import Derived.Test.YtmlfiopbdlaaaaaGreatJ24
import Derived.Test.YtmlfiopbdlaaaaaGreatVReKj
import Derived.Test.YtmlfiopbdlaaaaaGreatJ21
import Derived.Test.YtmlfiopbdlaaaaaGreatJ22
namespace Go.Proofs.YtmlfiopbdlaaaaaGreat
open Go.RowKit Go.Deep
def xT : T := .mk 1 0 ⟨#[120]⟩ none 0 []
theorem x_ok : (validF xT.form && okX xT.form) = true := by kernel_rfl
theorem x_name : nameB ⟨#[120]⟩ = true := by kernel_rfl
theorem plus_name : nameB ⟨#[43]⟩ = false := by kernel_rfl
theorem x_in (w : World) : In w xT := by
  refine In.mk ⟨?_, ?_, ?_, Nat.le_refl _, Nat.zero_le _⟩ (by simp [xT, T.ks, InL])
  · exact ⟨by decide, by decide⟩
  · exact ⟨by decide, by decide⟩
  · show (1 : Nat) ≤ maxLen; unfold maxLen; omega
set_option maxHeartbeats 1000000 in
theorem sane_any (w : World) (hm : MaxIs w) : Calls Tryz.prog 11 #[] w fun e w' => e = .returned (.bool true) ∧ Below w.heap.size w w' := by
  have HE : Hid (∀ W, Below w.heap.size w W → Calls Tryz.prog 26 #[.agg #[.int .i64 1, .int .i64 0, .string ⟨#[120]⟩, .slice none 0 0]] W fun e w' => e = .returned (.int .i64 0) ∧ Below W.heap.size W w') := Lib.hid fun W hB =>
    (expr_any xT W (x_in W) (hm.below hB)).mono fun e w' ⟨⟨q, h1, h2⟩, h3⟩ => ⟨by rw [h1, h2.2 x_ok], h3⟩
  have HX : Hid (∀ W, Below w.heap.size w W → Calls Tryz.prog 28 #[.string ⟨#[120]⟩] W fun e w' => e = .returned (.bool true) ∧ W = w') := Lib.hid fun W hB => by
    have := isName_any ⟨#[120]⟩ (by show (1 : Nat) ≤ maxLen; unfold maxLen; omega) W (hm.below hB)
    rwa [x_name] at this
  have HP : Hid (∀ W, Below w.heap.size w W → Calls Tryz.prog 28 #[.string ⟨#[43]⟩] W fun e w' => e = .returned (.bool false) ∧ W = w') := Lib.hid fun W hB => by
    have := isName_any ⟨#[43]⟩ (by show (1 : Nat) ≤ maxLen; unfold maxLen; omega) W (hm.below hB)
    rwa [plus_name] at this
  clear hm
  go_enter Tryz.func11, Tryz.ntmps11
  go_wp2_with (first
    | (go_at_call 26; refine (HE.out _ (bel1 _ _)).mono ?_; rintro e w2 ⟨rfl, hB⟩; have HB := Lib.hid (up (bel1 _ _) hB); clear hB)
    | (go_at_call 28; with_reducible refine (HX.out _ HB.out).mono ?_; rintro e w3 ⟨rfl, rfl⟩)
    | (go_at_call 28; with_reducible refine (HP.out _ HB.out).mono ?_; rintro e w4 ⟨rfl, rfl⟩))
  go_ret
  exact ⟨rfl, HB.out⟩
set_option maxHeartbeats 2000000 in
theorem rCalls_any (t : T) (w : World) (hin : In w t) (hsz : szF t.form ≤ 1000000) :
    Calls Tryz.prog 10 #[t.val] w fun e w' => ∃ v, e = .returned v ∧ OwnS w.heap.size w w' v (sortS (callsF t.form)) := by
  have HC := Lib.hid fun (W : World) (h : Below w.heap.size w W) => rcalls_any (SizeOf.sizeOf t + 1) t (Nat.lt_succ_self _) W (hin.below h) (by omega)
  have HL := Lib.hid (Nat.le_trans (calls_le t.form) hsz)
  clear hin hsz
  go_enter Tryz.func10, Tryz.ntmps10
  go_wp2_with (first
    | (go_at_call 39; refine (HC.out _ (bel1 _ _)).mono ?_; rintro e w2 ⟨v, rfl, hO⟩; have HB := Lib.hid (up (bel1 _ _) hO.below); have HZ := Lib.hid (HB.out.size); obtain ⟨va, vc, rfl, -, hR⟩ := hO.row; have HR := Lib.hid hR; clear hO hR)
    | (go_at_call 38; refine (sorted_any va _ vc w2 HL.out HR.out).mono ?_; rintro e w3 ⟨v, rfl, hO⟩; have HO := Lib.hid (OwnS.from HB.out HZ.out hO); clear hO))
  go_ret
  exact ⟨_, rfl, HO.out⟩
theorem OwnI.short {B : Nat} {w0 w : World} {v : Value} {l : List Int} (h : OwnI B w0 w v l) : l.length ≤ 9223372036854775807 := by
  rcases h.own.2 with ⟨_, e⟩ | ⟨g, cap, cur, _, _, _, hc, hm, _⟩
  · omega
  · unfold maxLen at hm; omega
set_option maxHeartbeats 4000000 in
theorem shapeKids_any (t : T) (w : World) (hin : In w t) (hm : MaxIs w) (hsz : szF t.form ≤ 1000000) :
    Calls Tryz.prog 3 #[t.val] w fun e w' => e = .returned (.bool true) ∧ Below w.heap.size w w' := by
  obtain ⟨L, hL⟩ : ∃ L, (if (validF t.form && okX t.form) = true then kidsX t.form else []) = L := ⟨_, rfl⟩
  obtain ⟨ok, hok⟩ : ∃ ok, (validF t.form && okX t.form) = ok := ⟨_, rfl⟩
  have HK1 : Hid (∀ W, Below w.heap.size w W → Calls Tryz.prog 6 #[t.val] W fun e w' => ∃ v, ∃ q : Int, e = .returned (.tuple #[v, .int .i64 q]) ∧ (q == 0) = ok ∧ OwnI W.heap.size W w' v L) := Lib.hid fun W h => (kids_any4 t W (hin.below h) (hm.below h)).mono fun e w' ⟨v, q, h1, h2, h3⟩ => ⟨v, q, h1, by rw [hok] at h2; rw [Bool.eq_iff_iff, beq_iff_eq]; exact h2, by rw [hL] at h3; exact h3⟩
  have HK2 : Hid (∀ W, Below w.heap.size w W → Calls Tryz.prog 7 #[t.val] W fun e w' => ∃ v, ∃ q : Int, e = .returned (.tuple #[v, .int .i64 q]) ∧ (q == 0) = ok ∧ OwnI W.heap.size W w' v L) := Lib.hid fun W h => (rkids_any t W (hin.below h) (by omega)).mono fun e w' ⟨v, q, h1, h2, h3⟩ => ⟨v, q, h1, by rw [hok] at h2; rw [Bool.eq_iff_iff, beq_iff_eq]; exact h2, by rw [hL] at h3; exact h3⟩
  have HC1 := Lib.hid fun (W : World) (h : Below w.heap.size w W) => calls_any t W (hin.below h) (hm.below h) (by omega)
  have HC2 := Lib.hid fun (W : World) (h : Below w.heap.size w W) => rCalls_any t W (hin.below h) hsz
  have HM := Lib.hid fun (W : World) (h : Below w.heap.size w W) => sane_any W (hm.below h)
  have hsl : (sortS (callsF t.form)).length ≤ 1000000000 := by
    have h1 := calls_le t.form
    have h2 := sortS_len (callsF t.form)
    omega
  obtain ⟨S, hS⟩ : ∃ S, sortS (callsF t.form) = S := ⟨_, rfl⟩
  rw [hS] at HC1 HC2 hsl
  have HT : Hid (∀ (va vb : Option Addr) (vc vd : Nat) (W : World), RowS W va S → RowS W vb S → Calls Tryz.prog 8 #[.slice va S.length vc, .slice vb S.length vd] W fun e w' => e = .returned (.bool true) ∧ Below W.heap.size W w') := Lib.hid fun va vb vc vd W h h' => by
    have := texts_any va vb S S vc vd W hsl h h'
    rwa [decide_eq_true (rfl : S = S)] at this
  have hself : ∀ x : Int, (x != x) = false := fun x => by simp
  clear hin hm hsz hS hsl hok hL
  have K0 := Lib.hid (Boxed.start w t)
  have gok : (ok != ok) = false := by cases ok <;> rfl
  have HBC : Hid (∀ W, Boxed w W t → W.cell? ⟨w.heap.size, 0, none⟩ = some (.int .i64 t.kd) ∧ W.cell? ⟨w.heap.size, 1, none⟩ = some (.int .i64 t.nn) ∧ W.cell? ⟨w.heap.size, 2, none⟩ = some (.string t.tx) ∧ W.cell? ⟨w.heap.size, 3, none⟩ = some (.slice t.ad t.ks.length t.cp)) := Lib.hid fun W h => box_cells h.1 rfl
  have mixed : Tryz.prog.follows .mixedOrders = true := by kernel_rfl
  go_enter Tryz.func3, Tryz.ntmps3
  go_wp2_with (first
    | (go_at_call 6; refine (HK1.out _ K0.out.2).mono ?_; rintro e w1 ⟨v1, q1, rfl, hq1, hO1⟩; have K1 := Lib.hid (K0.out.next hO1.below); obtain ⟨a0, a1, a2, a3⟩ := HBC.out _ K1.out; obtain ⟨va1, vc1, rfl, -, hs1⟩ := hO1.slice; have HS1 := Lib.hid hs1; have HSH := Lib.hid hO1.short; clear hO1 hs1)
    | (go_at_call 7; refine (HK2.out _ K1.out.2).mono ?_; rintro e w2 ⟨v2, q2, rfl, hq2, hO2⟩; have K2 := Lib.hid (K1.out.next hO2.below); obtain ⟨va2, vc2, rfl, -, hs2⟩ := hO2.slice; have HS2 := Lib.hid hs2; have HX1 := Lib.hid hO2.below; clear hO2 hs2))
  go_region_held3 (fun W => W.cell? ⟨w.heap.size, 0, none⟩ = some (.int .i64 t.kd) ∧ W.cell? ⟨w.heap.size, 1, none⟩ = some (.int .i64 t.nn) ∧ W.cell? ⟨w.heap.size, 2, none⟩ = some (.string t.tx) ∧ W.cell? ⟨w.heap.size, 3, none⟩ = some (.slice t.ad t.ks.length t.cp)) (first | exact HBC.out _ (K2.out.next (Below.refl _ _).drew) | exact HBC.out _ K3.out | exact HBC.out _ K4.out | exact HBC.out _ K5.out)
    (first
      | (go_at_call 9; refine (HC1.out _ (K2.out.next (Below.refl _ _).drew).2).mono ?_; rintro e w3 ⟨va3, vc3, rfl, hR3, hB3⟩; have K3 := Lib.hid ((K2.out.next (Below.refl _ _).drew).next hB3); have HR3 := Lib.hid hR3; have HX2 := Lib.hid (up (Below.refl _ _).drew hB3); clear hR3 hB3)
      | (go_at_call 10; refine (HC2.out _ K3.out.2).mono ?_; rintro e w4 ⟨v4, rfl, hO4⟩; have HX3 := Lib.hid hO4.below; have K4 := Lib.hid (K3.out.next hO4.below); obtain ⟨va4, vc4, rfl, -, hR4⟩ := hO4.row; have HR4 := Lib.hid hR4; clear hO4 hR4)
      | (go_at_call 8; refine (HT.out va3 va4 _ _ _ (HR3.out.below HX3.out) HR4.out).mono ?_; rintro e w5 ⟨rfl, hB5⟩; have HX4 := Lib.hid hB5; have K5 := Lib.hid (K4.out.next hB5); clear hB5)
      | fail)
  have HY2 := Lib.hid (up HX2.out (up HX3.out HX4.out))
  have HY1 := Lib.hid (up HX1.out HY2.out)
  clear HX1 HX2 HX3 HX4 HR3 HR4 HC1 HC2 HT HK1 HK2
  go_wp2_with fail
  go_loopg [7] (L.length) (fun m i wr => ∃ k : Nat, k ≤ L.length ∧ m = L.length - k ∧ i = .int .i64 k ∧ Below w5.heap.size w5 wr)
  case atStart => exact ⟨0, by omega, by omega, rfl, Below.refl _ _⟩
  case round =>
    obtain ⟨k, hk, rfl, rfl, hB⟩ := hrel
    have HB := Lib.hid hB
    clear hB
    by_cases hlt : k < L.length
    · obtain ⟨g, rfl, -, hg, hc⟩ := (HS1.out.resolve_left fun e => by rw [e] at hlt; simp at hlt)
      obtain ⟨g2', rfl, -, hg2, hc2⟩ := (HS2.out.resolve_left fun e => by rw [e] at hlt; simp at hlt)
      have z1 := (HB.out.cell (p := ⟨g, k, none⟩) (Nat.lt_of_lt_of_le hg HY1.out.size)).trans ((HY1.out.cell (p := ⟨g, k, none⟩) hg).trans (hc k hlt))
      have z2 := (HB.out.cell (p := ⟨g2', k, none⟩) (Nat.lt_of_lt_of_le hg2 HY2.out.size)).trans ((HY2.out.cell (p := ⟨g2', k, none⟩) hg2).trans (hc2 k hlt))
      have hsh := HSH.out
      have gk : (k : Int) < (L.length : Int) := by omega
      obtain ⟨x, hx⟩ : ∃ x, L[k] = x := ⟨_, rfl⟩
      rw [hx] at z1 z2
      have gx : (x != x) = false := hself x
      clear hx hc hc2
      go_wp2_with fail
      go_big_region_o
      all_goals go_wp2
      go_roundg (L.length - (k + 1))
      case measure => omega
      case rel =>
        exact ⟨k + 1, by omega, rfl, by go_num, HB.out.drew⟩
    · go_wp2_with (go_at_call 11; refine (HM.out _ (up K5.out.2 HB.out)).mono ?_; rintro e w6 ⟨rfl, hB6⟩; have HB6 := Lib.hid (up (up K5.out.2 HB.out) hB6); clear hB6)
      go_ret
      exact ⟨rfl, HB6.out⟩
end Go.Proofs.YtmlfiopbdlaaaaaGreat
