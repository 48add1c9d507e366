/- The chapter's sane, and the law on names. -/
import Derived.Test.YtniklangimnpfaaGreatDoorExprW
import Derived.Test.YtniklangimnpfaaGreatDoorNRName
import Derived.Test.YtniklangimnpfaaGreatDoorNTexts
import Derived.Test.YtniklangimnpfaaGreatDoorNRsv
namespace Go.Proofs.YtniklangimnpfaaGreatDoor
open Go.RowKit Go.Deep

def xT : T := .mk 1 0 ⟨#[120]⟩ none 0 []
theorem x_expr : refR xT.form (if exprW xT.tx then none else some 4) = 0 := by kernel_rfl
theorem x_name : nameB ⟨#[120]⟩ = true := by kernel_rfl
theorem plus_name : nameB ⟨#[43]⟩ = false := by kernel_rfl
theorem x_in (w : World) : In w xT := by
  refine In.mk ⟨?_, ?_, ?_, Nat.le_refl _, Nat.zero_le _⟩ (by simp [xT, T.ks, InL])
  · exact ⟨by decide, by decide⟩
  · exact ⟨by decide, by decide⟩
  · show (1 : Nat) ≤ maxLen; unfold maxLen; omega
set_option maxHeartbeats 1000000 in
theorem sane_any (w : World) (hm : MaxIs w) : Calls Tryz.prog 9 #[] w fun e w' => e = .returned (.bool true) ∧ Below w.heap.size w w' := by
  have HE : Hid (∀ W, Below w.heap.size w W → Calls Tryz.prog 18 #[.agg #[.int .i64 1, .int .i64 0, .string ⟨#[120]⟩, .slice none 0 0]] W fun e w' => e = .returned (.int .i64 0) ∧ Below W.heap.size W w') := Lib.hid fun W hB => by
    have := expr_word xT rfl (by show (1 : Nat) ≤ 1000; omega) W (x_in W) (hm.below hB)
    rw [x_expr] at this
    exact this
  have HX : Hid (∀ W, Below w.heap.size w W → Calls Tryz.prog 4 #[.string ⟨#[120]⟩] W fun e w' => e = .returned (.bool true) ∧ W = w') := Lib.hid fun W hB => by
    have := isName_any ⟨#[120]⟩ (by show (1 : Nat) ≤ maxLen; unfold maxLen; omega) W (hm.below hB)
    rwa [x_name] at this
  have HP : Hid (∀ W, Below w.heap.size w W → Calls Tryz.prog 4 #[.string ⟨#[43]⟩] W fun e w' => e = .returned (.bool false) ∧ W = w') := Lib.hid fun W hB => by
    have := isName_any ⟨#[43]⟩ (by show (1 : Nat) ≤ maxLen; unfold maxLen; omega) W (hm.below hB)
    rwa [plus_name] at this
  clear hm
  go_enter Tryz.func9, Tryz.ntmps9
  go_wp2_with (first
    | (go_at_call 18; refine (HE.out _ (bel1 _ _)).mono ?_; rintro e w2 ⟨rfl, hB⟩; have HB := Lib.hid (up (bel1 _ _) hB); clear hB)
    | (go_at_call 4; with_reducible refine (HX.out _ HB.out).mono ?_; rintro e w3 ⟨rfl, rfl⟩)
    | (go_at_call 4; with_reducible refine (HP.out _ HB.out).mono ?_; rintro e w4 ⟨rfl, rfl⟩))
  go_ret
  exact ⟨rfl, HB.out⟩
set_option maxHeartbeats 2000000 in
theorem names_any (s : ByteArray) (hs : s.size ≤ maxLen) (w : World) (hm : MaxIs w) (ht : Lib.TabIs Tryz.prog w "strings.asciiSpace" .u8 Lib.asciiSpaceTab) :
    Calls Tryz.prog 3 #[.string s] w fun e w' => e = .returned (.bool true) ∧ Below w.heap.size w w' := by
  have H1 := Lib.hid (isName_any s hs w hm)
  have H2 := Lib.hid (rIsName_any s hs w)
  have H3 := Lib.hid (reserved_any w ht)
  have H4 := Lib.hid fun W => rReserved_any W
  have HM := Lib.hid fun (W : World) (h : Below w.heap.size w W) => sane_any W (hm.below h)
  obtain ⟨nb, hnb⟩ : ∃ b, nameB s = b := ⟨_, rfl⟩
  rw [hnb] at H1 H2
  have hself : (nb == nb) = true := by simp
  obtain ⟨SL, hSL⟩ : ∃ l, sortedL = l := ⟨_, rfl⟩
  have hlen : SL.length = 116 := by rw [← hSL]; exact sorted_len
  rw [hSL] at H3
  have H4 : Hid (∀ W, Calls Tryz.prog 8 #[] W fun e w' => ∃ v, e = .returned v ∧ OwnS W.heap.size W w' v SL) := Lib.hid fun W => by have := H4.out W; rwa [hSL] at this
  have H5 : Hid (∀ (va vb : Option Addr) (vc vd : Nat) (W : World), RowS W va SL → RowS W vb SL → Calls Tryz.prog 6 #[.slice va SL.length vc, .slice vb SL.length vd] W fun e w' => e = .returned (.bool true) ∧ Below W.heap.size W w') := Lib.hid fun va vb vc vd W h h' => by
    have := texts_any va vb SL SL vc vd W (by omega) h h'
    rwa [decide_eq_true (rfl : SL = SL)] at this
  clear hm ht hs hnb hSL hlen
  go_enter Tryz.func3, Tryz.ntmps3
  go_wp2_with (first
    | (go_at_call 4; refine H1.out.mono ?_; rintro e w1 ⟨rfl, rfl⟩)
    | (go_at_call 5; refine H2.out.mono ?_; rintro e w2 ⟨rfl, rfl⟩)
    | (go_at_call 7; refine H3.out.mono ?_; rintro e w3 ⟨v, rfl, hO⟩; have HO := Lib.hid hO; obtain ⟨va, vc, rfl, hvc, hR⟩ := hO.row; have HR := Lib.hid hR; clear hO hvc hR)
    | (go_at_call 8; refine (H4.out _).mono ?_; rintro e w4 ⟨v, rfl, hO⟩; have HO2 := Lib.hid hO; obtain ⟨vb, vd, rfl, hvd, hR⟩ := hO.row; have HR2 := Lib.hid hR; clear hO hvd hR)
    | (go_at_call 6; refine (H5.out va vb _ _ _ (HR.out.below HO2.out.below) HR2.out).mono ?_; rintro e w5 ⟨rfl, hB⟩; have HB := Lib.hid (up HO.out.below (up HO2.out.below hB)); clear hB)
    | (go_at_call 9; refine (HM.out _ HB.out).mono ?_; rintro e w6 ⟨rfl, hB⟩; have HB2 := Lib.hid (up HB.out hB); clear hB))
  go_ret
  exact ⟨rfl, HB2.out⟩
end Go.Proofs.YtniklangimnpfaaGreatDoor
