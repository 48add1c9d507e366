/- LayoutText: the walk, over what sane answers. -/
import Derived.Test.YtedabholcldgbaaGreatDoorMg3

namespace Go.Proofs.YtedabholcldgbaaGreatDoor.Y
open Go.RowKit Go.Deep

set_option linter.unusedSimpArgs false in
set_option maxHeartbeats 4000000 in
set_option maxRecDepth 100000 in
theorem ltext_any (s : ByteArray) (x : Int) (hx : I64 x) (hs : s.size ≤ maxLen) (w : World) (hg : Glob w) (h6 : 8 ≤ w.heap.size) (htab : Tab w.heap.size w)
    (hsn : ∀ W, Below w.heap.size w W → Calls Tryz.prog 18 #[] W fun e w' => e = .returned (.bool true) ∧ Below W.heap.size W w') :
    Calls Tryz.prog 5 #[.string s, .int .i64 x] w fun e w' => e = .returned (.bool true) ∧ Below w.heap.size w w' := by
  obtain ⟨R, hR⟩ : ∃ R, (⟨(textR s x).1.toArray⟩ : ByteArray) = R := ⟨_, rfl⟩
  obtain ⟨E, hE⟩ : ∃ E, (textR s x).2 = E := ⟨_, rfl⟩
  have C1 := text_any s x hx hs w hg h6 htab
  have C2 := fun W (k : Below w.heap.size w W) => rtext_any s x hx hs W (htab.next k)
  simp only [FmtEnd, hR, hE] at C1 C2
  have C1 := Lib.hid C1
  have C2 := Lib.hid C2
  have C7 := Lib.hid hsn
  have gR : (R.toList == R.toList) = true := by simp
  have gE : (E == E) = true := by simp
  clear hg h6 htab hsn hR hE
  go_enter Tryz.func5, Tryz.ntmps5
  go_wp2_with (first
    | (go_at_call 19; (with_reducible refine C1.out.mono ?_); rintro e w1 ⟨rfl, hB⟩; have H1 := Lib.hid hB; clear hB)
    | (go_at_call 20; (with_reducible refine (C2.out _ H1.out).mono ?_); rintro e w2 ⟨rfl, hB⟩; have H2 := Lib.hid (up H1.out hB); clear hB)
    | (go_at_call 18; (with_reducible refine (C7.out _ H2.out).mono ?_); rintro e w7 ⟨rfl, hB⟩; have H7 := Lib.hid (up H2.out hB); clear hB))
  go_ret
  exact ⟨rfl, H7.out⟩
end Go.Proofs.YtedabholcldgbaaGreatDoor.Y
