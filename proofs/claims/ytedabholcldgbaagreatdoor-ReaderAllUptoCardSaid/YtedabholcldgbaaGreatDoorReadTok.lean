/- The scanner's readToken, addText and closeList. -/
import Derived.Test.YtedabholcldgbaaGreatDoorToken
import Derived.Test.YtedabholcldgbaaGreatDoorAdd
namespace Go.Proofs.YtedabholcldgbaaGreatDoor
open Go.RowKit Go.Deep

def spanB (p : Int → Bool) (s : ByteArray) (pos : Nat) : ByteArray := ⟨(spanL p (s.data.toList.drop pos)).toArray⟩
theorem spanB_size (p : Int → Bool) (s : ByteArray) (pos : Nat) : (spanB p s pos).size = (spanL p (s.data.toList.drop pos)).length := by
  rw [size_list]; rfl
theorem Ran.span {base : Nat} {w w' : World} {R : Nat} {s : ByteArray} {pos : Nat} {ov : Value} {L : List Lv} {tight : Bool} {p : Int → Bool} {e : Ending} (h : Ran base w w' R s pos ov L tight p e) :
    e = .returned (.string (spanB p s pos)) ∧ Scan base w' R s (pos + (spanB p s pos).size) ov L tight ∧ Below base w w' ∧ pos + (spanB p s pos).size ≤ s.size := by
  obtain ⟨d, he, hd, hS, hB, hle⟩ := h
  have e : d = spanB p s pos := by
    cases d with
    | mk a => cases a with
      | mk l => simp only at hd; rw [hd]; rfl
  subst e
  exact ⟨he, hS, hB, hle⟩
/-- A form without Kids. -/
def T.leaf (k n : Int) (s : ByteArray) : T := .mk k n s none 0 []
theorem leaf_in (w : World) (k n : Int) (s : ByteArray) (hk : I64 k) (hn : I64 n) (hs : s.size ≤ maxLen) : In w (T.leaf k n s) :=
  In.mk ⟨hk, hn, hs, Nat.le_refl _, by show (0 : Nat) ≤ maxLen; omega⟩ (by simp [T.leaf, T.ks, InL])
theorem leaf_on (k n : Int) (s : ByteArray) (b : Nat) : ¬ On (T.leaf k n s) b := by
  intro h
  cases h with
  | here _ hk => exact hk rfl
  | kid hu _ => cases hu
theorem tokenR_ok {s : ByteArray} {k n : Int} {t : ByteArray} (h : tokenR s = .form k n t) (hs : s.size ≤ 60000) : I64 k ∧ I64 n ∧ t.size ≤ maxLen := by
  unfold tokenR at h
  unfold I64 maxLen
  split at h
  · split at h
    · cases h
    · cases h; exact ⟨by omega, by omega, by omega⟩
  · split at h
    · cases h
    · split at h
      · split at h
        · rename_i hr
          cases h
          unfold rangeB at hr
          simp only [Bool.and_eq_true, decide_eq_true_eq] at hr
          exact ⟨by omega, by omega, by show (0 : Nat) ≤ _; omega⟩
        · cases h
      · cases h
/-- How the reading of a token ends. -/
def TokEnd (base : Nat) (w w' : World) (R : Nat) (s : ByteArray) (pos : Nat) (ov : Value) (L : List Lv) (ts : List T) (e : Ending) : Prop :=
  match tokenR (spanB tokB s pos) with
  | .err c => e = .returned (.int .i64 c) ∧ Below base w w'
  | .form k n t => e = .returned (.int .i64 0) ∧ Added base w w' R s (pos + (spanB tokB s pos).size) ov L (ts ++ [T.leaf k n t]) true
theorem tokenR_err {s : ByteArray} {c : Int} (h : tokenR s = .err c) : c = 4 ∨ c = 5 := by
  unfold tokenR at h
  split at h
  · split at h <;> cases h; exact .inl rfl
  · split at h
    · cases h; exact .inl rfl
    · split at h
      · split at h <;> cases h; exact .inr rfl
      · cases h; exact .inr rfl

set_option maxHeartbeats 1000000 in
set_option maxRecDepth 100000 in
theorem readToken_any (base : Nat) (w : World) (R : Nat) (s : ByteArray) (pos : Nat) (ov : Value) (L : List Lv) (v : Value) (ts : List T) (tight : Bool)
    (h : Scan base w R s pos ov (L ++ [(v, ts)]) tight) (hpos : pos ≤ s.size) (hs : s.size ≤ 60000) (hlen : ts.length + L.length ≤ 1000000) (hg : Glob w) (h6 : 8 ≤ base) :
    Calls Tryz.prog 114 #[.pointer (some ⟨R, 0, none⟩)] w fun e w' => TokEnd base w w' R s pos ov L ts e := by
  have HR := Lib.hid ((run_tok base w R s pos ov (L ++ [(v, ts)]) tight h hpos hs).mono fun _ _ h => h.span)
  have hsz : (spanB tokB s pos).size ≤ 60000 := by
    rw [spanB_size]
    have h1 : (spanL tokB (s.data.toList.drop pos)).length ≤ (s.data.toList.drop pos).length := List.Sublist.length_le (List.takeWhile_sublist _)
    have h2 : s.data.toList.length = s.size := by simp
    rw [List.length_drop] at h1
    omega
  have HT := Lib.hid (token_any (spanB tokB s pos) hsz)
  have hbR := h.hR
  have hbw := h.hw
  have HG := Lib.hid hg
  obtain ⟨d, hd⟩ : ∃ d, spanB tokB s pos = d := ⟨_, rfl⟩
  unfold TokEnd
  rw [hd] at HR HT hsz ⊢
  clear hd hg h
  cases hr : tokenR d with
  | err c =>
    have hc : (c != 0) = true := by rcases tokenR_err hr with rfl | rfl <;> rfl
    rw [hr] at HT
    simp only [TR.val] at HT
    clear hr
    go_enter Tryz.func114, Tryz.ntmps114
    go_wp2_with (first
      | (go_at_call 142; refine HR.out.mono ?_; rintro e w2 ⟨rfl, hS, hB, hle⟩; have HS := Lib.hid hS; have HB := Lib.hid hB; have hw2 := hB.size; clear hS hB)
      | (go_at_call 147; refine (HT.out _ (HG.out.below HB.out h6) (by omega)).mono ?_; rintro e w3 ⟨rfl, hB3⟩; have HB3 := Lib.hid hB3; clear hB3))
    go_ret
    exact ⟨rfl, (upB HB.out HB3.out hbw).alloc (by have := HB3.out.size; omega) _⟩
  | form k n t =>
    obtain ⟨ok1, ok2, ok3⟩ := tokenR_ok hr hsz
    rw [hr] at HT
    simp only [TR.val] at HT
    have HA : Hid (∀ w2, Scan base w2 R s (pos + d.size) ov (L ++ [(v, ts)]) tight → Calls Tryz.prog 144 #[.pointer (some ⟨R, 0, none⟩), .agg #[.int .i64 k, .int .i64 n, .string t, .slice none 0 0]] w2
        fun e w' => e = .returned (.tuple #[]) ∧ Added base w2 w' R s (pos + d.size) ov L (ts ++ [T.leaf k n t]) tight) :=
      Lib.hid fun w2 hS => add_any base w2 R s (pos + d.size) ov L v ts tight (T.leaf k n t) hS (leaf_in w2 k n t ok1 ok2 ok3) (fun b hb => absurd hb (leaf_on k n t b)) (fun b hb => absurd hb (leaf_on k n t b)) hlen
    clear hr ok1 ok2 ok3
    go_enter Tryz.func114, Tryz.ntmps114
    go_wp2_with (first
      | (go_at_call 142; refine HR.out.mono ?_; rintro e w2 ⟨rfl, hS, hB, hle⟩; have HS := Lib.hid hS; have HB := Lib.hid hB; have hw2 := hB.size; clear hS hB)
      | (go_at_call 147; refine (HT.out _ (HG.out.below HB.out h6) (by omega)).mono ?_; rintro e w3 ⟨rfl, hB3⟩; have HB3 := Lib.hid hB3; clear hB3)
      | (go_at_call 144; refine (HA.out _ ((HS.out.below HB3.out).below (bel1 _ _))).mono ?_; rintro e w4 ⟨rfl, hB4, v', hS4⟩; obtain ⟨c0, c1, c2, c3, f1, f2, f3⟩ := hS4.cells; have HS4 := Lib.hid hS4; have HB4 := Lib.hid hB4; clear hS4 hB4))
    go_ret
    exact ⟨rfl, below_setR (((upB HB.out HB3.out hbw).alloc (by have := HB3.out.size; omega) _).trans HB4.out) hbR _, v', HS4.out.setTight true⟩
end Go.Proofs.YtedabholcldgbaaGreatDoor
