/- The law's all, of lists that are the same but for what the order doesn't look at. -/
import Derived.Test.YtedabholcldgbaaGreatDoorSoPure
namespace Go.Proofs.YtedabholcldgbaaGreatDoor.So
open Go.RowKit Go.Deep

theorem Like.len : ∀ {us vs : List T}, Like us vs → us.length = vs.length
  | [], [], _ => rfl
  | _ :: us, _ :: vs, h => by have := Like.len (us := us) (vs := vs) h.2; simp [this]
theorem Like.cmp : ∀ {us vs : List T}, Like us vs → cmpL (us.map T.form) (vs.map T.form) = 0
  | [], [], _ => by simp [cmpL]
  | u :: us, v :: vs, h => by
    have h2 := Like.cmp (us := us) (vs := vs) h.2
    have h1 : cmpF u.form v.form = 0 := h.1
    simp only [List.map_cons, cmpL, h1]
    simpa using h2
theorem Like.list {us vs : List T} (h : Like us vs) (va vb : Option Addr) (vc vd : Nat) : cmpF (T.list va vc us).form (T.list vb vd vs).form = 0 := by
  have e := h.cmp
  rw [cmpF_eq]
  simp [T.form, T.forms_map, Fm.kd, Fm.ks, cmpI, e]
theorem requalAll_like (va vb : Option Addr) (vc vd : Nat) (ts us : List T) (w : World) (h1 : In w (T.list va vc ts)) (h2 : In w (T.list vb vd us)) (he : Like ts us) :
    Calls Tryz.prog 33 #[.slice va ts.length vc, .slice vb us.length vd] w fun e w' => e = .returned (.bool true) ∧ Below w.heap.size w w' := by
  have H1 := Lib.hid fun W => rlist_any va vc ts W
  have H2 := Lib.hid fun W => rlist_any vb vd us W
  have hf := he.list va vb vc vd
  have HE := Lib.hid fun W (g1 : In W (T.list va vc ts)) (g2 : In W (T.list vb vd us)) => (requal_T _ _ W g1 g2).mono fun e w' hh => (by rw [hf] at hh; exact hh : e = .returned (.bool true) ∧ Below W.heap.size W w')
  have HI1 := Lib.hid h1
  have HI2 := Lib.hid h2
  clear h1 h2 he hf
  go_enter Tryz.func33, Tryz.ntmps33
  go_wp2_with (first
    | (go_at_call 63; with_reducible refine (H1.out w).mono ?_; rintro e w2 ⟨rfl, hB⟩; have HB := Lib.hid hB; clear hB)
    | (go_at_call 63; with_reducible refine (H2.out _).mono ?_; rintro e w3 ⟨rfl, hB⟩; have HB3 := Lib.hid (up HB.out hB); clear hB)
    | (go_at_call 28; refine (HE.out _ (HI1.out.below HB3.out) (HI2.out.below HB3.out)).mono ?_; rintro e w4 ⟨rfl, hB⟩; have HB4 := Lib.hid (up HB3.out hB); clear hB))
  go_ret
  exact ⟨rfl, HB4.out⟩
theorem all_like (va vb : Option Addr) (vc vd : Nat) (ts us : List T) (w : World) (h1 : In w (T.list va vc ts)) (h2 : In w (T.list vb vd us)) (he : Like ts us) :
    Calls Tryz.prog 12 #[.slice va ts.length vc, .slice vb us.length vd] w fun e w' => e = .returned (.bool true) ∧ Below w.heap.size w w' := by
  have HE := Lib.hid (requalAll_like va vb vc vd ts us w h1 h2 he)
  have hl : ts.length = us.length := he.len
  have n1 : ts.length ≤ maxLen := Nat.le_trans h1.ok.le h1.ok.cp
  unfold maxLen at n1
  rw [hl] at HE n1 ⊢
  clear h1 h2 he hl
  go_enter Tryz.func12, Tryz.ntmps12
  go_wp2_with (go_at_call 33; refine HE.out.mono ?_; rintro e w2 ⟨rfl, hB⟩; have HB := Lib.hid hB; clear hB)
  go_ret
  exact ⟨rfl, HB.out⟩
end Go.Proofs.YtedabholcldgbaaGreatDoor.So
