/- texts: two lists of texts, compared. -/
import Derived.Test.YtniklangimnpfaaGreatDoorNSort
namespace Go.Proofs.YtniklangimnpfaaGreatDoor
open Go.RowKit Go.Deep

def EqTo (l m : List (List UInt8)) (k : Nat) : Prop := ∀ j (h : j < l.length) (h' : j < m.length), j < k → l[j] = m[j]
theorem EqTo.ends {l m : List (List UInt8)} {k : Nat} (h : EqTo l m k) (he : l.length = m.length) (hk : l.length ≤ k) : l = m :=
  List.ext_getElem he fun j h1 h2 => h j h1 h2 (by omega)
set_option maxHeartbeats 4000000 in
theorem texts_any (a b : Option Addr) (l m : List (List UInt8)) (ac bc : Nat) (w : World) (hl : l.length ≤ 1000000000) (ha : RowS w a l) (hb : RowS w b m) :
    Calls Tryz.prog 6 #[.slice a l.length ac, .slice b m.length bc] w fun e w' => e = .returned (.bool (decide (l = m))) ∧ Below w.heap.size w w' := by
  have HA := Lib.hid ha
  have HB := Lib.hid hb
  clear ha hb
  have mixed : Tryz.prog.follows .mixedOrders = true := by kernel_rfl
  by_cases he : l.length = m.length
  · have g1 : ((l.length : Int) != (m.length : Int)) = false := by rw [he]; simp
    go_enter Tryz.func6, Tryz.ntmps6
    go_wp2_with fail
    go_loopg [5] (l.length) (fun q i wr => ∃ k : Nat, q = l.length - k ∧ k ≤ l.length ∧ i = .int .i64 k ∧ EqTo l m k ∧ Below w.heap.size w wr)
    case atStart => exact ⟨0, by omega, by omega, rfl, fun j _ _ h => absurd h (by omega), Below.refl _ _⟩
    case round =>
      obtain ⟨k, rfl, hk, rfl, hE, hBl⟩ := hrel
      have HE := Lib.hid hE
      have HBL := Lib.hid hBl
      by_cases hlt : k < l.length
      · rcases HA.out.below hBl with h0 | ⟨b1, o1, rfl, hb1, hc1⟩
        · rw [h0] at hlt; simp at hlt
        rcases HB.out.below hBl with h0 | ⟨b2, o2, rfl, hb2, hc2⟩
        · rw [h0] at he; simp at he; rw [he] at hlt; simp at hlt
        have hlt2 : k < m.length := by omega
        have x0 := hc1 k hlt
        have y0 := hc2 k hlt2
        obtain ⟨x, hx⟩ : ∃ x : ByteArray, (⟨l[k].toArray⟩ : ByteArray) = x := ⟨_, rfl⟩
        obtain ⟨y, hy⟩ : ∃ y : ByteArray, (⟨m[k].toArray⟩ : ByteArray) = y := ⟨_, rfl⟩
        rw [hx] at x0
        rw [hy] at y0
        have HXE : Hid (l[k] = x.data.toList) := Lib.hid (by rw [← hx])
        have HYE : Hid (m[k] = y.data.toList) := Lib.hid (by rw [← hy])
        have HLT := Lib.hid (show k < l.length ∧ k < m.length from ⟨hlt, hlt2⟩)
        clear hx hy hc1 hc2 hE hBl
        by_cases hxy : x = y
        · have hq : (x.toList != y.toList) = false := by simp [bne, eqT hxy]
          have hq2 := eqT hxy
          have HS : Hid (EqTo l m (k + 1)) := Lib.hid (fun j h1 h2 h3 => by
            by_cases e : j = k
            · subst e; rw [HXE.out, HYE.out, hxy]
            · exact HE.out j h1 h2 (by omega))
          clear hxy
          go_wp2_with fail
          go_big_region_o
          all_goals go_wp2
          go_roundg (l.length - (k + 1))
          case measure => omega
          case rel => exact ⟨k + 1, by omega, by omega, by go_num, HS.out, HBL.out.drew⟩
        · have hq : (x.toList != y.toList) = true := by simp [bne, eqF hxy]
          have hq2 := eqF hxy
          have HS : Hid (decide (l = m) = false) := Lib.hid (by
            simp only [decide_eq_false_iff_not]; intro e
            have : l[k]'HLT.out.1 = m[k]'HLT.out.2 := by simp [e]
            rw [HXE.out, HYE.out] at this
            exact hxy (beq_bytes this))
          clear hxy
          go_wp2_with fail
          go_big_region_o
          all_goals go_wp2
          go_ret
          exact ⟨ret_bool HS.out.symm, HBL.out.drew⟩
      · have HS : Hid (decide (l = m) = true) := Lib.hid (by simpa using hE.ends he (by omega))
        clear hE hBl
        go_wp2_with fail
        go_ret
        exact ⟨ret_bool HS.out.symm, HBL.out⟩
  · have g1 : ((l.length : Int) != (m.length : Int)) = true := by simp; omega
    have e : decide (l = m) = false := by simp; intro e; exact he (by rw [e])
    rw [e]
    clear e he
    go_enter Tryz.func6, Tryz.ntmps6
    go_wp2_with fail
    go_ret
    exact ⟨rfl, Below.refl _ _⟩
end Go.Proofs.YtniklangimnpfaaGreatDoor
