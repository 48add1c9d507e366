/- all: whether all forms of a list are valid. -/
import Derived.Test.YtedabholcldgbaaGreatDoorReadPure
namespace Go.Proofs.YtedabholcldgbaaGreatDoor
open Go.RowKit Go.Deep

theorem all1_any (t : T) (P : Nat) (w : World) (hin : In w t) (hb : szF t.form ≤ 4611686018427387903) (hc : w.cell? ⟨P, 0, none⟩ = some (.func (.func 30) #[] #[])) :
    Calls Tryz.prog 116 #[t.val, .pointer (some ⟨P, 0, none⟩)] w fun e w' => e = .returned (.bool (!validF t.form)) ∧ Below w.heap.size w w' := by
  have HV := Lib.hid fun w' g => valid_any t w' g hb
  have hP := World.block_lt_of_cell? _ _ hc
  go_enter Tryz.func116, Tryz.ntmps116
  go_wp2_with (go_at_call 30; refine (HV.out _ (hin.alloc _)).mono ?_; rintro e w2 ⟨rfl, hB⟩)
  go_ret
  exact ⟨rfl, up (bel1 _ _) hB⟩

def ValTo (ts : List T) (k : Nat) : Prop := ∀ j (h : j < ts.length), j < k → validF ts[j].form = true
theorem ValTo.all {ts : List T} {k : Nat} (h : ValTo ts k) (hk : ts.length ≤ k) : (ts.map T.form).all validF = true := by
  rw [List.all_eq_true]
  intro f hf
  obtain ⟨t, ht, rfl⟩ := List.mem_map.1 hf
  obtain ⟨j, hj, rfl⟩ := List.getElem_of_mem ht
  exact h j hj (by omega)
theorem ValTo.not {ts : List T} {k : Nat} (hk : k < ts.length) (hv : validF ts[k].form = false) : (ts.map T.form).all validF = false := by
  rw [List.all_eq_false]
  exact ⟨ts[k].form, List.mem_map_of_mem (List.getElem_mem hk), by rw [hv]; simp⟩
theorem ValTo.step {ts : List T} {k : Nat} (h : ValTo ts k) (hk : k < ts.length) (hv : validF ts[k].form = true) : ValTo ts (k + 1) := by
  intro j hj hlt
  by_cases e : j = k
  · subst e; exact hv
  · exact h j hj (by omega)
/-- The first form that is not valid, or -1. -/
def badIdx (ts : List T) : Int := if (ts.map T.form).all validF = true then -1 else (ts.findIdx fun t => !validF t.form : Nat)
theorem badIdx_at {ts : List T} {k : Nat} (h : ValTo ts k) (hk : k < ts.length) (hv : validF ts[k].form = false) : badIdx ts = (k : Int) := by
  unfold badIdx
  rw [if_neg (by rw [ValTo.not hk hv]; simp)]
  have : ts.findIdx (fun t => !validF t.form) = k := by
    rw [List.findIdx_eq hk]
    exact ⟨by simp [hv], fun j hj => by have := h j (by omega) hj; simp [this]⟩
  rw [this]
theorem badIdx_none {ts : List T} {k : Nat} (h : ValTo ts k) (hk : ts.length ≤ k) : badIdx ts = -1 := by
  unfold badIdx; rw [if_pos (h.all hk)]

set_option maxHeartbeats 1000000 in
theorem index_any (ts : List T) (va : Option Addr) (vc P : Nat) (w : World) (hl : ts.length ≤ 1000000) (hin : InL w va 0 ts) (hb : szL (ts.map T.form) ≤ 1000000) (hc : w.cell? ⟨P, 0, none⟩ = some (.func (.func 30) #[] #[])) :
    Calls Tryz.prog 148 #[.slice va ts.length vc, .func (.func 116) #[] #[.pointer (some ⟨P, 0, none⟩)]] w fun e w' => e = .returned (.int .i64 (badIdx ts)) ∧ Below w.heap.size w w' := by
  have hP := World.block_lt_of_cell? _ _ hc
  have HC := Lib.hid hc
  have HI := Lib.hid hin
  clear hc hin
  go_enter Tryz.func148, Tryz.ntmps148
  go_wp2_with fail
  go_loopg [8] (ts.length) (fun m i wr => ∃ k : Nat, k ≤ ts.length ∧ m = ts.length - k ∧ i = .int .i64 k ∧ ValTo ts k ∧ Below w.heap.size w wr)
  case atStart => exact ⟨0, by omega, rfl, rfl, fun j _ h => absurd h (by omega), Below.refl _ _⟩
  case round =>
    obtain ⟨k, hk, rfl, rfl, hV, hB⟩ := hrel
    have HB := Lib.hid hB
    by_cases hlt : k < ts.length
    · obtain ⟨⟨b, o, rfl, hx0, hx1, hx2, hx3⟩, hink⟩ := (HI.out.below hB).at k hlt
      have lb : b < wr.heap.size := World.block_lt_of_cell? _ _ hx0
      have hsz : szF ts[k].form ≤ 4611686018427387903 := by
        have := szL_le (l := ts.map T.form) (f := ts[k].form) (List.mem_map_of_mem (List.getElem_mem hlt)); omega
      have HA := Lib.hid (all1_any ts[k] P wr hink hsz ((HB.out.cell (p := ⟨P, 0, none⟩) hP).trans HC.out))
      cases hv : validF ts[k].form with
      | true =>
        rw [hv] at HA
        have HS := Lib.hid (hV.step hlt hv)
        clear hv hV hB
        go_wp2_with (go_at_call 116; refine HA.out.mono ?_; rintro e w2 ⟨rfl, hB2⟩; have HB2 := Lib.hid hB2; clear hB2)
        go_roundg (ts.length - (k + 1))
        case measure => omega
        case rel => exact ⟨k + 1, by omega, rfl, by go_num, HS.out, upB HB.out HB2.out (Nat.le_refl _)⟩
      | false =>
        rw [hv] at HA
        have HS := Lib.hid (badIdx_at hV hlt hv)
        clear hv hV hB
        go_wp2_with (go_at_call 116; refine HA.out.mono ?_; rintro e w2 ⟨rfl, hB2⟩; have HB2 := Lib.hid hB2; clear hB2)
        go_ret
        exact ⟨ret_int HS.out.symm, upB HB.out HB2.out (Nat.le_refl _)⟩
    · have HS := Lib.hid (badIdx_none hV (by omega))
      clear hV hB
      go_wp2_with fail
      go_ret
      exact ⟨ret_int HS.out.symm, HB.out⟩
theorem contains_any (ts : List T) (va : Option Addr) (vc P : Nat) (w : World) (hl : ts.length ≤ 1000000) (hin : InL w va 0 ts) (hb : szL (ts.map T.form) ≤ 1000000) (hc : w.cell? ⟨P, 0, none⟩ = some (.func (.func 30) #[] #[])) :
    Calls Tryz.prog 115 #[.slice va ts.length vc, .func (.func 116) #[] #[.pointer (some ⟨P, 0, none⟩)]] w fun e w' => e = .returned (.bool (!(ts.map T.form).all validF)) ∧ Below w.heap.size w w' := by
  have HX := index_any ts va vc P w hl hin hb hc
  clear hin hc
  cases ha : (ts.map T.form).all validF with
  | true =>
    rw [show badIdx ts = -1 by unfold badIdx; rw [if_pos ha]] at HX
    have HX := Lib.hid HX
    clear ha
    go_enter Tryz.func115, Tryz.ntmps115
    go_wp2_with (go_at_call 148; refine HX.out.mono ?_; rintro e w2 ⟨rfl, hB⟩)
    go_ret
    exact ⟨rfl, hB⟩
  | false =>
    obtain ⟨n, hn⟩ : ∃ n : Nat, badIdx ts = (n : Int) := ⟨_, by unfold badIdx; rw [if_neg (by rw [ha]; simp)]⟩
    rw [hn] at HX
    have HX := Lib.hid HX
    have hn0 : (0 : Int) ≤ (n : Int) := by omega
    clear ha hn
    go_enter Tryz.func115, Tryz.ntmps115
    go_wp2_with (go_at_call 148; refine HX.out.mono ?_; rintro e w2 ⟨rfl, hB⟩)
    go_ret
    exact ⟨rfl, hB⟩
theorem allValid_any (ts : List T) (va : Option Addr) (vc : Nat) (w : World) (hl : ts.length ≤ 1000000) (hin : InL w va 0 ts) (hb : szL (ts.map T.form) ≤ 1000000) :
    Calls Tryz.prog 77 #[.slice va ts.length vc, .func (.func 30) #[] #[]] w fun e w' => e = .returned (.bool ((ts.map T.form).all validF)) ∧ Below w.heap.size w w' := by
  have HX := Lib.hid fun w' g1 g2 => contains_any ts va vc w.heap.size w' hl g1 hb g2
  obtain ⟨r, hr⟩ : ∃ r, (ts.map T.form).all validF = r := ⟨_, rfl⟩
  rw [hr] at HX ⊢
  clear hr
  have HI := Lib.hid hin
  clear hin
  go_enter Tryz.func77, Tryz.ntmps77
  go_wp2_with (go_at_call 115; refine (HX.out _ (HI.out.below (bel1 _ _)) (by simp)).mono ?_; rintro e w2 ⟨rfl, hB⟩)
  go_ret
  exact ⟨ret_bool (by simp), up (bel1 _ _) hB⟩
end Go.Proofs.YtedabholcldgbaaGreatDoor
