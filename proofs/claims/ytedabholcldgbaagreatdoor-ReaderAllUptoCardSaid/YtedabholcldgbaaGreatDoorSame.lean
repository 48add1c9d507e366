/- The laws' all: lists of forms that are the same. -/
import Derived.Test.YtedabholcldgbaaGreatDoorRcmp
import Derived.Test.YtedabholcldgbaaGreatDoorOrder
import Derived.Test.YtedabholcldgbaaGreatDoorLaid
import Derived.Test.YtedabholcldgbaaGreatDoorBlk
namespace Go.Proofs.YtedabholcldgbaaGreatDoor
open Go.RowKit Go.Deep

/-- A list of forms as a form. -/
abbrev T.list (va : Option Addr) (vc : Nat) (ts : List T) : T := .mk 3 0 ⟨#[]⟩ va vc ts
theorem list_in {w : World} {va : Option Addr} {vc : Nat} {ts : List T} (h : InL w va 0 ts) (hl : ts.length ≤ vc) (hc : vc ≤ maxLen) : In w (T.list va vc ts) :=
  In.mk ⟨by simp [T.kd, I64], by simp [T.nn, I64], Nat.zero_le _, by simpa [T.ks, T.cp] using hl, by simpa [T.cp] using hc⟩ (by simpa [T.ad, T.ks] using h)
theorem rlist_any (va : Option Addr) (vc : Nat) (ts : List T) (w : World) :
    Calls Tryz.prog 63 #[.slice va ts.length vc] w fun e w' => e = .returned (T.list va vc ts).val ∧ Below w.heap.size w w' := by
  go_enter Tryz.func63, Tryz.ntmps63
  go_wp2_with fail
  refine bodyPost_ret (v := .agg #[.int .i64 3, .int .i64 0, .string ⟨#[]⟩, .slice va ts.length vc]) (by simp [results, Tryz.results63, go_sem]) rfl ?_
  refine ⟨by simp [T.val, T.kd, T.nn, T.tx, T.ad, T.cp, T.ks], ?_⟩
  first
    | exact bel1 _ _
    | exact below_lay4 (bel1 _ _) (Nat.le_refl _) _ _ _ _
theorem requalAll_any (va vb : Option Addr) (vc vd : Nat) (ts us : List T) (w : World) (h1 : In w (T.list va vc ts)) (h2 : In w (T.list vb vd us)) (he : ts.map T.form = us.map T.form) :
    Calls Tryz.prog 33 #[.slice va ts.length vc, .slice vb us.length vd] w fun e w' => e = .returned (.bool true) ∧ Below w.heap.size w w' := by
  have H1 := Lib.hid fun W => rlist_any va vc ts W
  have H2 := Lib.hid fun W => rlist_any vb vd us W
  have hf : (T.list va vc ts).form = (T.list vb vd us).form := by simp only [T.form, T.forms_map, he]
  have HE := Lib.hid fun W (g1 : In W (T.list va vc ts)) (g2 : In W (T.list vb vd us)) => (requal_T _ _ W g1 g2).mono fun e w' hh => (by rw [hf, cmpF_self] at hh; exact hh : e = .returned (.bool true) ∧ Below W.heap.size W w')
  have HI1 := Lib.hid h1
  have HI2 := Lib.hid h2
  clear h1 h2 he hf
  go_enter Tryz.func33, Tryz.ntmps33
  go_wp2_with (first
    | (go_at_call 63; with_reducible refine (H1.out w).mono ?_; rintro e w2 ⟨rfl, hB⟩; have HB := Lib.hid hB; clear hB)
    | (go_at_call 63; with_reducible refine (H2.out _).mono ?_; rintro e w3 ⟨rfl, hB⟩; have HB3 := Lib.hid (up HB.out hB); clear hB)
    | (go_at_call 28; refine (HE.out _ (HI1.out.below HB3.out) (HI2.out.below HB3.out)).mono ?_; rintro e w4 ⟨rfl, hB⟩; have HB4 := Lib.hid (up HB3.out hB); clear hB))
  go_ret
  exact ⟨rfl, HB4.out⟩
theorem same_any (va vb : Option Addr) (vc vd : Nat) (ts us : List T) (w : World) (h1 : In w (T.list va vc ts)) (h2 : In w (T.list vb vd us)) (he : ts.map T.form = us.map T.form) :
    Calls Tryz.prog 12 #[.slice va ts.length vc, .slice vb us.length vd] w fun e w' => e = .returned (.bool true) ∧ Below w.heap.size w w' := by
  have HE := Lib.hid (requalAll_any va vb vc vd ts us w h1 h2 he)
  have hl : ts.length = us.length := by have := congrArg List.length he; simpa using this
  have n1 : ts.length ≤ maxLen := Nat.le_trans h1.ok.le h1.ok.cp
  unfold maxLen at n1
  rw [hl] at HE n1 ⊢
  clear h1 h2 he hl
  go_enter Tryz.func12, Tryz.ntmps12
  go_wp2_with (go_at_call 33; refine HE.out.mono ?_; rintro e w2 ⟨rfl, hB⟩; have HB := Lib.hid hB; clear hB)
  go_ret
  exact ⟨rfl, HB.out⟩
end Go.Proofs.YtedabholcldgbaaGreatDoor
