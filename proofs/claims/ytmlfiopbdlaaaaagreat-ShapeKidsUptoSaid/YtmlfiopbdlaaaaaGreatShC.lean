/- The row of a call. -/
import Derived.Test.YtmlfiopbdlaaaaaGreatShR1
namespace Go.Proofs.YtmlfiopbdlaaaaaGreat
open Go.RowKit Go.Deep
variable {S : Nat → Prop}
def ofW : ByteArray := ⟨#[111, 102]⟩
def isOf (f : Fm) : Bool := match f.ks with | _ :: _ :: u :: _ => memB (headF u) [ofW] | _ => false
def callR (E : Fm → Bool) (f : Fm) : RS := if isOf f then ⟨[nameP, behindP ofW ⟨[typeP], some typeP, []⟩], some (exprP E), []⟩ else ⟨[nameP], some (exprP E), []⟩
set_option maxHeartbeats 4000000 in
theorem callRow_short (n : Nat) (t : T) (w : World) (E : Fm → Bool) (hS : ∀ b, S b → b < w.heap.size) (hE : HAsk n E) (hl : t.ks.length ≤ 2) : Calls Tryz.prog 98 #[t.val] w (fun e w' => RowEnd n S w w' ⟨[nameP], some (exprP E), []⟩ e) := by
  have HEE := Lib.hid hE
  obtain ⟨S₁, hS₁⟩ : ∃ S₁, S₁ = andFrom S (w.heap.size + 1) 1 := ⟨_, rfl⟩
  have HS1 := Lib.hid (hS₁ ▸ andFrom_lt (k := 1) (fun x h => Nat.lt_succ_of_lt (hS x h)) : ∀ x, S₁ x → x < w.heap.size + 1 + 1)
  have HE := Lib.hid hS₁
  have g1 : decide ((2 : Int) < (t.ks.length : Int)) = false := by simp; omega
  have g2 : decide (2 < t.ks.length) = false := by simp; omega
  clear hE hS₁ hS hl
  go_enter Tryz.func98, Tryz.ntmps98
  go_wp2_with (first
    | (go_at_call 83; refine (aName_any (S := S₁) n _).mono ?_; rintro e w3 ⟨vf3, vi3, ve3, rfl, hx, hB⟩; obtain ⟨K3, c3, rfl, rfl, rfl⟩ := hx.vals0 rfl; have hb := hB; have HC3 := Lib.hid (hb); have HZ3 := Lib.hid (Nat.le_trans (by simp) hb.size : w.heap.size + 1 + 1 ≤ w3.heap.size); have HR3 := Lib.hid hx; clear hb hx hB)
    | (go_at_call 82; refine (just_any (S := S₁) n _ [nameP] _ _ (parts1 (heap_alloc_new _ _) (fun e => absurd (HS1.out _ e) (by have := HZ3.out; first | (simp; omega) | omega)) (HR3.out.below (bel1 _ _)))).mono ?_; rintro e w4 ⟨v4, rfl, hx, hB⟩; have hb := up (bel1 _ _) hB; have HC4 := Lib.hid (up HC3.out hb); have HZ4 := Lib.hid (Nat.le_trans HZ3.out hb.size); have HR4 := Lib.hid hx; have Ha4 := Lib.hid (HR3.out.below hb); clear hb hx hB)
    | (go_at_call 85; refine (anExpr_any (S := S₁) n E HEE.out _).mono ?_; rintro e w5 ⟨vf5, vi5, ve5, rfl, hx, hB⟩; obtain ⟨K5, c5, K5', c5', rfl, rfl, rfl⟩ := hx.vals1 rfl; have hb := hB; have HC5 := Lib.hid (up HC4.out hb); have HZ5 := Lib.hid (Nat.le_trans HZ4.out hb.size); have HR5 := Lib.hid hx; have Ha5 := Lib.hid (Ha4.out.below hb); have Hr05 := Lib.hid (HR4.out.below hb); clear hb hx hB)
    | (go_at_call 93; refine (any_any (S := S₁) n _ _ _ _ _ (exprP E) _ (fun b e => by have := HS1.out b e; have := HZ5.out; first | omega | (simp; omega)) Hr05.out HR5.out).mono ?_; rintro e w6 ⟨v6, rfl, hx, hB⟩; have hb := hB; have HC6 := Lib.hid (up HC5.out hb); have HZ6 := Lib.hid (Nat.le_trans HZ5.out hb.size); obtain ⟨fa, fl, fc, ba, bl, bc, m, rfl⟩ := hx.vals; have HRL := Lib.hid hx; have HBL := HC6; obtain ⟨⟨z0, z1, z2⟩, z3, z4, z5⟩ := cells3 ((HBL.out.block (w.heap.size + 1) (by simp)).trans (heap2 _ _ _)); clear hb hx hB))
  refine bodyPost_ret (v := .agg #[.slice fa fl fc, .slice ba bl bc, .pointer m]) (by simp [results, Tryz.results98, go_sem, cell_set, z0, z1, z2]) rfl (row_close3 (k := 1) (B0 := w.heap.size + 1) (Nat.le_succ _) (Nat.le_refl _) (Nat.lt_succ_self _) (up (bel2 _ _ _) HBL.out) ?_ _ _ _)
  have hp := HRL.out
  rw [HE.out] at hp
  exact hp
set_option maxHeartbeats 4000000 in
set_option maxRecDepth 100000 in
theorem callRow_long (n : Nat) (t u : T) (x y : T) (r : List T) (w : World) (E : Fm → Bool) (hS : ∀ b, S b → b < w.heap.size) (hE : HAsk n E) (hin : In w t) (hks : t.ks = x :: y :: u :: r) : Calls Tryz.prog 98 #[t.val] w (fun e w' => RowEnd n S w w' (if memB (headF u.form) [ofW] then ⟨[nameP, behindP ofW ⟨[typeP], some typeP, []⟩], some (exprP E), []⟩ else ⟨[nameP], some (exprP E), []⟩) e) := by
  have HEE := Lib.hid hE
  obtain ⟨S₁, hS₁⟩ : ∃ S₁, S₁ = andFrom S (w.heap.size + 1) 1 := ⟨_, rfl⟩
  have HS1 := Lib.hid (hS₁ ▸ andFrom_lt (k := 1) (fun x h => Nat.lt_succ_of_lt (hS x h)) : ∀ x, S₁ x → x < w.heap.size + 1 + 1)
  have HE := Lib.hid hS₁
  have hl : (x :: y :: u :: r).length ≤ maxLen := by have := hin.ok; rw [← hks]; exact Nat.le_trans this.le this.cp
  unfold maxLen at hl
  obtain ⟨⟨b, o, had, hc⟩, hu⟩ := (hin.inL).at 2 (by rw [hks]; simp)
  have e : t.ks[2]'(by rw [hks]; simp) = u := by simp [hks]
  rw [e] at hc hu
  have HU := Lib.hid fun (W : World) (h : Below w.heap.size w W) => hu.below h
  have HH := Lib.hid fun (W : World) (h : Below w.heap.size w W) (b c : Nat) (hb : b < W.heap.size) (hw : Words W b 0 [ofW]) => hasHead_any u b 0 c [ofW] W (hu.below h) hb hw (by simp)
  obtain ⟨x0, x1, x2, x3⟩ := hc
  have lb : b < w.heap.size := World.block_lt_of_cell? _ _ x0
  have hval : t.val = .agg #[.int .i64 t.kd, .int .i64 t.nn, .string t.tx, .slice (some ⟨b, o, none⟩) (r.length + 3) t.cp] := by
    rw [T.val, had, hks]; rfl
  have g1 : (2 : Int) < (r.length : Int) + 3 := by omega
  have g2 : 2 < r.length + 3 := by omega
  have hl3 : r.length + 3 ≤ 2 ^ 63 - 1 := by simpa using hl
  rw [hval]
  clear hE hS₁ hS hl hin hks hval had e hu
  obtain ⟨res, hres⟩ : ∃ res, memB (headF u.form) [ofW] = res := ⟨_, rfl⟩
  rw [hres] at HH ⊢
  clear hres
  have mixed : Tryz.prog.follows .mixedOrders = true := by kernel_rfl
  cases res with
  | true =>
    go_enter Tryz.func98, Tryz.ntmps98
    go_wp2_with (first
      | (go_at_call 68; refine (HH.out _ (bel3 _ _ _ _) _ _ (by simp) (words1 (heap3 _ _ _ _))).mono ?_; rintro e w2 ⟨rfl, hB⟩; have HC2 := Lib.hid (up (bel1 _ _) hB); have HZ2 := Lib.hid (Nat.le_trans (by first | (simp; done) | (simp; omega)) hB.size : w.heap.size + 1 + 1 ≤ w2.heap.size); clear hB)
      | (go_at_call 83; refine (aName_any (S := S₁) n _).mono ?_; rintro e w3 ⟨vf3, vi3, ve3, rfl, hx, hB⟩; obtain ⟨K3, c3, rfl, rfl, rfl⟩ := hx.vals0 rfl; have hb := hB; have HC3 := Lib.hid (up HC2.out hb); have HZ3 := Lib.hid (Nat.le_trans HZ2.out hb.size); have HR3 := Lib.hid hx; clear hb hx hB)
      | (go_at_call 96; refine (aType_any (S := S₁) n _).mono ?_; rintro e w4 ⟨vf4, vi4, ve4, rfl, hx, hB⟩; obtain ⟨K4, c4, rfl, rfl, rfl⟩ := hx.vals0 rfl; have hb := hB; have HC4 := Lib.hid (up HC3.out hb); have HZ4 := Lib.hid (Nat.le_trans HZ3.out hb.size); have HR4 := Lib.hid hx; have Ha4 := Lib.hid (HR3.out.below hb); clear hb hx hB)
      | (go_at_call 97; refine (some_any (S := S₁) n _ _ _ typeP _ (fun b e => by have := HS1.out b e; have := HZ4.out; first | omega | (simp; omega)) (HR4.out.re (andFrom_re (Nat.le_refl _)))).mono ?_; rintro e w5 ⟨v5, rfl, hx, hB⟩; have hb := hB; have HC5 := Lib.hid (up HC4.out hb); have HZ5 := Lib.hid (Nat.le_trans HZ4.out hb.size); have HR5 := Lib.hid hx; have Ha5 := Lib.hid (Ha4.out.below hb); have Hb5 := Lib.hid (HR4.out.below hb); clear hb hx hB)
      | (go_at_call 150; refine (behind_any (S := S₁) n ofW ⟨[typeP], some typeP, []⟩ _ _ (by simp [ofW]) (fun b e => by have := HS1.out b e; have := HZ5.out; first | omega | (simp; omega)) HR5.out (by simp) (by simp)).mono ?_; rintro e w6 ⟨vf6, vi6, ve6, rfl, hx, hB⟩; obtain ⟨K6, c6, K6', c6', rfl, rfl, rfl⟩ := hx.vals1 rfl; have hb := hB; have HC6 := Lib.hid (up HC5.out hb); have HZ6 := Lib.hid (Nat.le_trans HZ5.out hb.size); have HR6 := Lib.hid hx; have Ha6 := Lib.hid (Ha5.out.below hb); have Hb6 := Lib.hid (Hb5.out.below hb); have Hr16 := Lib.hid (HR5.out.below hb); clear hb hx hB)
      | (go_at_call 82; refine (just_any (S := S₁) n _ [nameP, behindP ofW ⟨[typeP], some typeP, []⟩] _ _ (parts2 (heap_alloc_new _ _) (fun e => absurd (HS1.out _ e) (by have := HZ6.out; first | (simp; omega) | omega)) (Ha6.out.below (bel1 _ _)) (HR6.out.below (bel1 _ _)))).mono ?_; rintro e w7 ⟨v7, rfl, hx, hB⟩; have hb := up (bel1 _ _) hB; have HC7 := Lib.hid (up HC6.out hb); have HZ7 := Lib.hid (Nat.le_trans HZ6.out hb.size); have HR7 := Lib.hid hx; have Ha7 := Lib.hid (Ha6.out.below hb); have Hb7 := Lib.hid (Hb6.out.below hb); have Hr17 := Lib.hid (Hr16.out.below hb); have Hbh7 := Lib.hid (HR6.out.below hb); clear hb hx hB)
      | (go_at_call 85; refine (anExpr_any (S := S₁) n E HEE.out _).mono ?_; rintro e w8 ⟨vf8, vi8, ve8, rfl, hx, hB⟩; obtain ⟨K8, c8, K8', c8', rfl, rfl, rfl⟩ := hx.vals1 rfl; have hb := hB; have HC8 := Lib.hid (up HC7.out hb); have HZ8 := Lib.hid (Nat.le_trans HZ7.out hb.size); have HR8 := Lib.hid hx; have Ha8 := Lib.hid (Ha7.out.below hb); have Hb8 := Lib.hid (Hb7.out.below hb); have Hr18 := Lib.hid (Hr17.out.below hb); have Hbh8 := Lib.hid (Hbh7.out.below hb); have Hr08 := Lib.hid (HR7.out.below hb); clear hb hx hB)
      | (go_at_call 93; refine (any_any (S := S₁) n _ _ _ _ _ (exprP E) _ (fun b e => by have := HS1.out b e; have := HZ8.out; first | omega | (simp; omega)) Hr08.out HR8.out).mono ?_; rintro e w9 ⟨v9, rfl, hx, hB⟩; have hb := hB; have HC9 := Lib.hid (up HC8.out hb); have HZ9 := Lib.hid (Nat.le_trans HZ8.out hb.size); obtain ⟨fa, fl, fc, ba, bl, bc, m, rfl⟩ := hx.vals; have HRL := Lib.hid hx; have HBL := HC9; obtain ⟨⟨z0, z1, z2⟩, z3, z4, z5⟩ := cells3 ((HBL.out.block (w.heap.size + 1) (by simp)).trans (heap2 _ _ _)); clear hb hx hB))
    refine bodyPost_ret (v := .agg #[.slice fa fl fc, .slice ba bl bc, .pointer m]) (by simp [results, Tryz.results98, go_sem, cell_set, z0, z1, z2]) rfl (row_close3 (k := 1) (B0 := w.heap.size + 1) (Nat.le_succ _) (Nat.le_refl _) (Nat.lt_succ_self _) (up (bel2 _ _ _) HBL.out) ?_ _ _ _)
    have hp := HRL.out
    rw [HE.out] at hp
    exact hp

  | false =>
    go_enter Tryz.func98, Tryz.ntmps98
    go_wp2_with (first
      | (go_at_call 68; refine (HH.out _ (bel3 _ _ _ _) _ _ (by simp) (words1 (heap3 _ _ _ _))).mono ?_; rintro e w2 ⟨rfl, hB⟩; have HC2 := Lib.hid (up (bel1 _ _) hB); have HZ2 := Lib.hid (Nat.le_trans (by first | (simp; done) | (simp; omega)) hB.size : w.heap.size + 1 + 1 ≤ w2.heap.size); clear hB)
      | (go_at_call 83; refine (aName_any (S := S₁) n _).mono ?_; rintro e w3 ⟨vf3, vi3, ve3, rfl, hx, hB⟩; obtain ⟨K3, c3, rfl, rfl, rfl⟩ := hx.vals0 rfl; have hb := hB; have HC3 := Lib.hid (up HC2.out hb); have HZ3 := Lib.hid (Nat.le_trans HZ2.out hb.size); have HR3 := Lib.hid hx; clear hb hx hB)
      | (go_at_call 82; refine (just_any (S := S₁) n _ [nameP] _ _ (parts1 (heap_alloc_new _ _) (fun e => absurd (HS1.out _ e) (by have := HZ3.out; first | (simp; omega) | omega)) (HR3.out.below (bel1 _ _)))).mono ?_; rintro e w4 ⟨v4, rfl, hx, hB⟩; have hb := up (bel1 _ _) hB; have HC4 := Lib.hid (up HC3.out hb); have HZ4 := Lib.hid (Nat.le_trans HZ3.out hb.size); have HR4 := Lib.hid hx; have Ha4 := Lib.hid (HR3.out.below hb); clear hb hx hB)
      | (go_at_call 85; refine (anExpr_any (S := S₁) n E HEE.out _).mono ?_; rintro e w5 ⟨vf5, vi5, ve5, rfl, hx, hB⟩; obtain ⟨K5, c5, K5', c5', rfl, rfl, rfl⟩ := hx.vals1 rfl; have hb := hB; have HC5 := Lib.hid (up HC4.out hb); have HZ5 := Lib.hid (Nat.le_trans HZ4.out hb.size); have HR5 := Lib.hid hx; have Ha5 := Lib.hid (Ha4.out.below hb); have Hr05 := Lib.hid (HR4.out.below hb); clear hb hx hB)
      | (go_at_call 93; refine (any_any (S := S₁) n _ _ _ _ _ (exprP E) _ (fun b e => by have := HS1.out b e; have := HZ5.out; first | omega | (simp; omega)) Hr05.out HR5.out).mono ?_; rintro e w6 ⟨v6, rfl, hx, hB⟩; have hb := hB; have HC6 := Lib.hid (up HC5.out hb); have HZ6 := Lib.hid (Nat.le_trans HZ5.out hb.size); obtain ⟨fa, fl, fc, ba, bl, bc, m, rfl⟩ := hx.vals; have HRL := Lib.hid hx; have HBL := HC6; obtain ⟨⟨z0, z1, z2⟩, z3, z4, z5⟩ := cells3 ((HBL.out.block (w.heap.size + 1) (by simp)).trans (heap2 _ _ _)); clear hb hx hB))
    refine bodyPost_ret (v := .agg #[.slice fa fl fc, .slice ba bl bc, .pointer m]) (by simp [results, Tryz.results98, go_sem, cell_set, z0, z1, z2]) rfl (row_close3 (k := 1) (B0 := w.heap.size + 1) (Nat.le_succ _) (Nat.le_refl _) (Nat.lt_succ_self _) (up (bel2 _ _ _) HBL.out) ?_ _ _ _)
    have hp := HRL.out
    rw [HE.out] at hp
    exact hp

theorem callRow_any (n : Nat) (t : T) (w : World) (E : Fm → Bool) (hS : ∀ b, S b → b < w.heap.size) (hE : HAsk n E) (hin : In w t) : Calls Tryz.prog 98 #[t.val] w (fun e w' => RowEnd n S w w' (callR E t.form) e) := by
  have hf := T.form_ks t
  by_cases h : t.ks.length ≤ 2
  · have e : isOf t.form = false := by
      unfold isOf; rw [hf]
      match h' : t.ks, h with
      | [], _ => rfl
      | [_], _ => rfl
      | [_, _], _ => rfl
    rw [callR, e]
    exact callRow_short n t w E hS hE h
  · obtain ⟨x, y, u, r, hks⟩ : ∃ x y u r, t.ks = x :: y :: u :: r := by
      match h' : t.ks, h with
      | x :: y :: u :: r, _ => exact ⟨x, y, u, r, rfl⟩
      | [], h => simp at h
      | [_], h => simp at h
      | [_, _], h => simp at h
    have e : isOf t.form = memB (headF u.form) [ofW] := by unfold isOf; rw [hf, hks]; rfl
    rw [callR, e]
    exact callRow_long n t u x y r w E hS hE hin hks
end Go.Proofs.YtmlfiopbdlaaaaaGreat
