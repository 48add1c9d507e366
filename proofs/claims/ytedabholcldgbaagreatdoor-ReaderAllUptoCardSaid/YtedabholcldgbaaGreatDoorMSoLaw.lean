/- ReaderAll: the walk. -/
import Derived.Test.YtedabholcldgbaaGreatDoorSoSame
import Derived.Test.YtedabholcldgbaaGreatDoorSoRef
import Derived.Test.YtedabholcldgbaaGreatDoorMa1

namespace Go.Proofs.YtedabholcldgbaaGreatDoor.So
open Go.RowKit Go.Deep

set_option linter.unusedSimpArgs false in
set_option maxHeartbeats 4000000 in
set_option maxRecDepth 100000 in
theorem all_any (ts : List T) (va : Option Addr) (vc : Nat) (w : World) (hin : InL w va 0 ts) (hl : ts.length ≤ 1000000) (hsz : szL (ts.map T.form) ≤ 220000) (hbk : ∀ t ∈ ts, bkF t.form ≤ 2000000) (htab : Tab w.heap.size w) (hg : Glob w) (h6 : 8 ≤ w.heap.size) :
    Calls Tryz.prog 3 #[.slice va ts.length vc] w fun e w' => e = .returned (.bool true) ∧ Below w.heap.size w w' := by
  have C1 := Lib.hid (writeAll_any ts va vc w hin hl hsz htab)
  have C2 := Lib.hid fun W (k : Below w.heap.size w W) => rwriteAll_any ts va vc W (hin.below k) hl hsz (Tab.mono (htab.on k) k.size)
  have C3 := Lib.hid fun W (k : Below w.heap.size w W) => sort_any va vc ts W (hin.below k) hl
  have C4 := Lib.hid fun W (k : Below w.heap.size w W) => rsort_any va vc ts W (hin.below k) hl hbk
  have C5 := Lib.hid fun W (k : Below w.heap.size w W) => sane_any W (hg.below k h6) (Nat.le_trans h6 k.size)
  obtain ⟨d, hd⟩ : ∃ d : ByteArray, d = ⟨(wAllG (ts.map T.form)).toArray⟩ := ⟨_, rfl⟩
  rw [← hd] at C1 C2
  clear hin hsz hbk htab hg hd
  go_enter Tryz.func3, Tryz.ntmps3
  go_wp2_with (first
    | (go_at_call 10; (with_reducible refine C1.out.mono ?_); rintro e w1 ⟨rfl, hB⟩; have H1 := Lib.hid hB; clear hB)
    | (go_at_call 11; (with_reducible refine (C2.out _ H1.out).mono ?_); rintro e w2 ⟨rfl, hB⟩; have H2 := Lib.hid (up H1.out hB); clear hB)
    | (go_at_call 13; (with_reducible refine (C3.out _ H2.out).mono ?_); rintro e w3 ⟨xa, xc, us, rfl, hi, hs, _, hB⟩; have H3 := Lib.hid (up H2.out hB); have HI := Lib.hid hi; have HS := Lib.hid hs; clear hB hi hs)
    | (go_at_call 14; (with_reducible refine (C4.out _ H3.out).mono ?_); rintro e w4 ⟨ya, yc, vs, rfl, hi, hs, _, hB⟩; have H4 := Lib.hid (up H3.out hB); have HA := Lib.hid (all_like xa ya xc yc us vs w4 (HI.out.below hB) hi (HS.out.same hs)); clear hB hi hs)
    | (go_at_call 12; (with_reducible refine HA.out.mono ?_); rintro e w5 ⟨rfl, hB⟩; have H5 := Lib.hid (up H4.out hB); clear hB)
    | (go_at_call 15; (with_reducible refine (C5.out _ H5.out).mono ?_); rintro e w6 ⟨rfl, hB⟩; have H6 := Lib.hid (up H5.out hB); clear hB))
  go_ret
  exact ⟨rfl, H6.out⟩
end Go.Proofs.YtedabholcldgbaaGreatDoor.So
