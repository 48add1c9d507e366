/- LayoutFormat: the walk, over what sane answers (taken as a premise: its contract is still to be proved). -/
import Derived.Test.YtdehkgflokeodaaGreatDoorYFormat
namespace Go.Proofs.YtdehkgflokeodaaGreatDoor.Y
open Go.RowKit Go.Deep

set_option maxHeartbeats 4000000 in
theorem lformat_any (t : T) (w : World) (x : Int) (hx : I64 x) (hin : In w t) (hb : szF t.form ≤ 4611686018427387903) (htab : Tab w.heap.size w)
    (hsn : ∀ W, Below w.heap.size w W → Calls Tryz.prog 18 #[] W fun e w' => e = .returned (.bool true) ∧ Below W.heap.size W w') :
    Calls Tryz.prog 4 #[t.val, .int .i64 x] w fun e w' => e = .returned (.bool true) ∧ Below w.heap.size w w' := by
  have C1 := Lib.hid fun W (k : Boxed w W t) => format_any t W x hx (hin.below k.2) (htab.next k.2)
  have C2 := Lib.hid fun W (k : Boxed w W t) => rformat_any t W x hx (hin.below k.2) hb (htab.next k.2)
  have C3 := Lib.hid fun W (k : Boxed w W t) => hsn W k.2
  obtain ⟨p, hp⟩ : ∃ p, fmtF t.form x = p := ⟨_, rfl⟩
  rw [hp] at C1 C2
  have KK := Lib.hid (Boxed.start w t)
  clear hin hb htab hsn hp
  go_enter Tryz.func4, Tryz.ntmps4
  go_wp2_with (first
    | (go_at_call 16; (with_reducible refine (C1.out _ KK.out).mono ?_); rintro e w1 ⟨rfl, hB⟩; obtain ⟨c0, c1, c2, c3⟩ := Box4.cells (KK.out.next hB).1; have KK := Lib.hid (KK.out.next hB); clear hB)
    | (go_at_call 17; (with_reducible refine (C2.out _ KK.out).mono ?_); rintro e w2 ⟨rfl, hB⟩; have KK := Lib.hid (KK.out.next hB); clear hB)
    | (go_at_call 18; (with_reducible refine (C3.out _ KK.out).mono ?_); rintro e w3 ⟨rfl, hB⟩; have KK := Lib.hid (KK.out.next hB); clear hB))
  go_ret
  exact ⟨rfl, KK.out.2⟩
end Go.Proofs.YtdehkgflokeodaaGreatDoor.Y
