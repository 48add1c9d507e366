/- Params, bindings, one or more, numbers. -/
import Derived.Test.YtmlfiopbdlaaaaaGreatSh6
namespace Go.Proofs.YtmlfiopbdlaaaaaGreat
open Go.RowKit Go.Deep
variable {S : Nat → Prop}
def paramsP : PS := listP ⟨[], some typedP, []⟩ differB
theorem typed_ks {f : Fm} (h : typedP.inB f = true) : f.ks ≠ [] := by
  intro e
  simp [typedP, listP, PS.inB, RS.ok, RS.lets, e] at h
theorem ok_inside {R : RS} {ks : List Fm} (h : R.ok ks = true) (i : Nat) (p : PS) (hi : i < ks.length) (hp : R.at i ks.length = some p) : p.inB ks[i] = true := by
  cases hf : p.inB ks[i] with
  | true => rfl
  | false => rw [ok_in hi hp hf] at h; exact absurd h (by simp)
theorem preD_params : ∀ ks : List Fm, (RS.ok ⟨[], some typedP, []⟩ ks) = true → ∀ f ∈ ks, PreD f := by
  intro ks h f hf
  obtain ⟨i, hi, rfl⟩ := List.getElem_of_mem hf
  exact fun _ => typed_ks (ok_inside h i typedP hi (by simp [RS.at, hi]))
set_option maxHeartbeats 1000000 in
theorem params_any (n : Nat) (w : World) (hS : ∀ b, S b → b < w.heap.size) : Calls Tryz.prog 88 #[] w (fun e w' => PartEnd n S w w' paramsP e) := by
  obtain ⟨S₁, hS₁⟩ : ∃ S₁, S₁ = andFrom S w.heap.size 1 := ⟨_, rfl⟩
  have HS := Lib.hid hS
  have HS1 := Lib.hid (hS₁ ▸ andFrom_lt hS (k := 1) : ∀ x, S₁ x → x < w.heap.size + 1)
  have HE := Lib.hid hS₁
  clear hS hS₁
  go_enter Tryz.func88, Tryz.ntmps88
  go_wp2_with (first
    | (go_at_call 82; refine (just_any (S := S₁) n none [] 0 _ (.inl rfl)).mono ?_; rintro e w1 ⟨v1, rfl, hr1, hB⟩; have HR1 := Lib.hid hr1; have HB1 := Lib.hid hB; clear hr1 hB)
    | (go_at_call 84; refine (aTyped_any (S := S₁) n _ (fun b e => by have := HS1.out b e; have := HB1.out.size; simp at this; omega)).mono ?_; rintro e w2 ⟨vf1, vi1, ve1, rfl, hp1, hB⟩; obtain ⟨K1, c1, K1', c1', rfl, rfl, rfl⟩ := hp1.vals1 rfl; have HP2 := Lib.hid hp1; have HR2 := Lib.hid (HR1.out.below hB); have HB2 := Lib.hid (up HB1.out hB); have HZ2 := Lib.hid (Nat.le_trans HB1.out.size hB.size); clear hp1 hB)
    | (go_at_call 93; refine (any_any (S := S₁) n _ _ _ _ _ typedP _ (fun b e => by have := HS1.out b e; have := HZ2.out; simp at this; omega) HR2.out HP2.out).mono ?_; rintro e w3 ⟨v3, rfl, hr3, hB⟩; have HR3 := Lib.hid hr3; have HB3 := Lib.hid (up HB2.out hB); have HZ3 := Lib.hid (Nat.le_trans HZ2.out hB.size); clear hr3 hB)
    | (go_at_call 94; refine (aList_differ (S := S₁) n _ _ w3.heap.size 1 _ (fun b e => by have := HS1.out b e; have := HZ3.out; simp at this ⊢; omega) (HR3.out.below (bel1 _ _)) (by decide) (by decide) preD_params ⟨by simp, fun e => absurd (HS1.out _ e) (by have := HZ3.out; simp at this; omega), by simp⟩).mono ?_; rintro e w4 ⟨vf4, vi4, ve4, rfl, hp4, hB⟩; obtain ⟨K4, c4, K4', c4', rfl, rfl, rfl⟩ := hp4.vals1 rfl; have HP4 := Lib.hid hp4; have HB4 := Lib.hid (up HB3.out (up (bel1 _ _) hB)); obtain ⟨⟨z0, z1, z2⟩, z3, z4, z5⟩ := cells3 ((HB4.out.block w.heap.size (by simp)).trans (heap_alloc_new _ _)); clear hp4 hB))
  refine bodyPost_ret (v := .agg #[.func (.func K4) #[] c4, .func (.func K4') #[] c4', .bool paramsP.isE]) (by simp [results, Tryz.results88, go_sem, paramsP, cell_set, z0, z1, z2]) rfl (part_close (up (bel1 _ _) HB4.out) ?_ _ _ _)
  have hp := HP4.out
  rw [HE.out] at hp
  exact hp
def bindP (l : List PS) : PS := listP ⟨[nameP], none, l⟩ (fun _ => true)
set_option maxHeartbeats 1000000 in
theorem binding_any (n : Nat) (a : Option Addr) (l : List PS) (c : Nat) (w : World) (hS : ∀ b, S b → b < w.heap.size) (hl : l.length ≤ 1000) (h : PartsAt n (andFrom S w.heap.size 1) w a l) : Calls Tryz.prog 158 #[.slice a l.length c] w (fun e w' => PartEnd n S w w' (bindP l) e) := by
  obtain ⟨S₁, hS₁⟩ : ∃ S₁, S₁ = andFrom S w.heap.size 1 := ⟨_, rfl⟩
  have HS := Lib.hid hS
  have HS1 := Lib.hid (hS₁ ▸ andFrom_lt hS (k := 1) : ∀ x, S₁ x → x < w.heap.size + 1)
  have HE := Lib.hid hS₁
  obtain ⟨k, hk⟩ : ∃ k, l.length = k := ⟨_, rfl⟩
  have HK := Lib.hid hk
  have HL := Lib.hid hl
  rw [← hS₁] at h
  have HP := Lib.hid h
  rw [hk]
  clear hS hS₁ h hk hl
  go_enter Tryz.func158, Tryz.ntmps158
  go_wp2_with (first
    | (go_at_call 83; refine (aName_any (S := S₁) n _).mono ?_; rintro e w1 ⟨vf1, vi1, ve1, rfl, hp1, hB⟩; obtain ⟨K1, c1, rfl, rfl, rfl⟩ := hp1.vals0 rfl; have HP1 := Lib.hid hp1; have HB1 := Lib.hid hB; have HZ1 := Lib.hid hB.size; have HP := Lib.hid (HP.out.below (up (bel1 _ _) hB)); clear hp1 hB)
    | (go_at_call 82; refine (just_any (S := S₁) n _ [nameP] _ _ (parts1 (heap_alloc_new _ _) (fun e => absurd (HS1.out _ e) (by have := HZ1.out; simp at this; omega)) (HP1.out.below (bel1 _ _)))).mono ?_; rintro e w2 ⟨v2, rfl, hr2, hB⟩; have HR2 := Lib.hid hr2; have HB2 := Lib.hid (up HB1.out (up (bel1 _ _) hB)); have HZ2 := Lib.hid (Nat.le_trans HZ1.out (up (bel1 _ _) hB).size); have HP := Lib.hid (HP.out.below (up (bel1 _ _) hB)); clear hr2 hB)
    | (go_at_call 147; rw [← HK.out]; refine (end_any (S := S₁) n _ _ _ l _ _ HR2.out HP.out).mono ?_; rintro e w3 ⟨v3, rfl, hr3, hB⟩; have HR3 := Lib.hid hr3; have HB3 := Lib.hid (up HB2.out hB); have HZ3 := Lib.hid (Nat.le_trans HZ2.out hB.size); clear hr3 hB)
    | (go_at_call 94; refine (aList_none (S := S₁) n _ _ _ (fun b e => by have := HS1.out b e; have := HZ3.out; simp at this; omega) HR3.out (by simp) HL.out).mono ?_; rintro e w4 ⟨vf4, vi4, ve4, rfl, hp4, hB⟩; obtain ⟨K4, c4, K4', c4', rfl, rfl, rfl⟩ := hp4.vals1 rfl; have HP4 := Lib.hid hp4; have HB4 := Lib.hid (up HB3.out hB); obtain ⟨⟨z0, z1, z2⟩, z3, z4, z5⟩ := cells3 ((HB4.out.block w.heap.size (by simp)).trans (heap_alloc_new _ _)); clear hp4 hB))
  refine bodyPost_ret (v := .agg #[.func (.func K4) #[] c4, .func (.func K4') #[] c4', .bool (bindP l).isE]) (by simp [results, Tryz.results158, go_sem, bindP, cell_set, z0, z1, z2]) rfl (part_close (up (bel1 _ _) HB4.out) ?_ _ _ _)
  have hp := HP4.out
  rw [HE.out] at hp
  exact hp
theorem row_close2 {n k b : Nat} {w w' : World} {v : Value} {r : RS} (h1 : w.heap.size ≤ b) (h2 : b < w.heap.size + k) (hb : Below w.heap.size w w') (hp : RowIs n (andFrom S w.heap.size k) w' v r) (u0 u1 u2 : Value) :
    RowEnd n S w (((w'.setCell ⟨b, 0, none⟩ u0).setCell ⟨b, 1, none⟩ u1).setCell ⟨b, 2, none⟩ u2) r (.returned v) :=
  ⟨_, rfl, hp.shift ((((Shift.start S w.heap.size k w').set (.inr ⟨h1, h2⟩) _).set (.inr ⟨h1, h2⟩) _).set (.inr ⟨h1, h2⟩) _), ((hb.setCell h1 _).setCell h1 _).setCell h1 _⟩
theorem RowIs.vals {n : Nat} {w : World} {v : Value} {r : RS} (h : RowIs n S w v r) : ∃ fa fl fc ba bl bc m, v = .agg #[.slice fa fl fc, .slice ba bl bc, .pointer m] := by
  obtain ⟨fa, fc, ba, bc, m, e, _⟩ := h
  exact ⟨_, _, _, _, _, _, _, e⟩
theorem heap3_drew (w : World) (o o' o'' : Obj) : (((w.alloc o).alloc o').alloc o'').drew.heap[w.heap.size + 1 + 1]? = some o'' := by
  have := heap_alloc_new ((w.alloc o).alloc o') o''
  rwa [show ((w.alloc o).alloc o').heap.size = w.heap.size + 1 + 1 by simp] at this
set_option linter.unusedSimpArgs false in
set_option maxHeartbeats 2000000 in
set_option maxRecDepth 100000 in
theorem some_any (n : Nat) (vf vi ve : Value) (p : PS) (w : World) (hS : ∀ b, S b → b < w.heap.size) (hp : PartIs n (andFrom S w.heap.size 2) w vf vi ve p) : Calls Tryz.prog 97 #[.agg #[vf, vi, ve]] w (fun e w' => RowEnd n S w w' ⟨[p], some p, []⟩ e) := by
  obtain ⟨S₁, hS₁⟩ : ∃ S₁, S₁ = andFrom S w.heap.size 2 := ⟨_, rfl⟩
  have HS1 := Lib.hid (hS₁ ▸ andFrom_lt hS (k := 2) : ∀ x, S₁ x → x < w.heap.size + 2)
  have HE := Lib.hid hS₁
  rw [← hS₁] at hp
  have HP := Lib.hid hp
  obtain ⟨K, caps, rfl, hvi, rfl⟩ := hp.vals
  have mixed : Tryz.prog.follows .mixedOrders = true := by kernel_rfl
  clear hS hS₁ hp
  rcases hvi with rfl | ⟨K', caps', rfl⟩
  · go_enter Tryz.func97, Tryz.ntmps97
    go_wp2_with fail
    go_region_held3 (fun W => W.cell? ⟨w.heap.size, 0, none⟩ = some (.func (.func K) #[] caps) ∧ W.cell? ⟨w.heap.size, 1, none⟩ = some (.nilFunc) ∧ W.cell? ⟨w.heap.size, 2, none⟩ = some (.bool p.isE)) (go_keep)
      (first
        | (go_at_call 82; refine (just_any (S := S₁) n _ [p] _ _ (parts1 (heap3_drew _ _ _ _) (fun e => absurd (HS1.out _ e) (by first | (simp; done) | (simp; omega))) (HP.out.below (bel3 _ _ _ _).drew))).mono ?_; rintro e w1 ⟨v1, rfl, hr1, hB⟩; have HR1 := Lib.hid hr1; have HB1 := Lib.hid (up (bel1 _ _).drew hB); obtain ⟨⟨y0, y1, y2⟩, -⟩ := cells3 ((HB1.out.block w.heap.size (by simp; omega)).trans ((Below.heap_alloc _ _ _ (by simp)).trans (heap_alloc_new _ _))); clear hr1 hB)
        | (go_at_call 93; refine (any_any (S := S₁) n _ _ _ _ _ p _ (fun b e => by have := HS1.out b e; have := HB1.out.size; simp at this; omega) HR1.out (HP.out.below (up (bel2 _ _ _) HB1.out))).mono ?_; rintro e w2 ⟨v2, rfl, hr2, hB⟩; obtain ⟨fa, fl, fc, ba, bl, bc, m, rfl⟩ := hr2.vals; have HR2 := Lib.hid hr2; have HB2 := Lib.hid (up HB1.out hB); obtain ⟨⟨x0, x1, x2⟩, -⟩ := cells3 ((HB2.out.block w.heap.size (by simp; omega)).trans ((Below.heap_alloc _ _ _ (by simp)).trans (heap_alloc_new _ _))); obtain ⟨⟨z0, z1, z2⟩, z3, z4, z5⟩ := cells3 ((HB2.out.block (w.heap.size + 1) (by simp)).trans (heap2 _ _ _)); clear hr2 hB)
        | fail)
    go_wp2_with fail
    refine bodyPost_ret (v := .agg #[.slice fa fl fc, .slice ba bl bc, .pointer m]) (by simp [results, Tryz.results97, go_sem, cell_set, z0, z1, z2]) rfl (row_close2 (k := 2) (Nat.le_succ _) (Nat.lt_succ_self _) (up (bel2 _ _ _) HB2.out) ?_ _ _ _)
    have hp := HR2.out
    rw [HE.out] at hp
    exact hp
  · go_enter Tryz.func97, Tryz.ntmps97
    go_wp2_with fail
    go_region_held3 (fun W => W.cell? ⟨w.heap.size, 0, none⟩ = some (.func (.func K) #[] caps) ∧ W.cell? ⟨w.heap.size, 1, none⟩ = some (.func (.func K') #[] caps') ∧ W.cell? ⟨w.heap.size, 2, none⟩ = some (.bool p.isE)) (go_keep)
      (first
        | (go_at_call 82; refine (just_any (S := S₁) n _ [p] _ _ (parts1 (heap3_drew _ _ _ _) (fun e => absurd (HS1.out _ e) (by first | (simp; done) | (simp; omega))) (HP.out.below (bel3 _ _ _ _).drew))).mono ?_; rintro e w1 ⟨v1, rfl, hr1, hB⟩; have HR1 := Lib.hid hr1; have HB1 := Lib.hid (up (bel1 _ _).drew hB); obtain ⟨⟨y0, y1, y2⟩, -⟩ := cells3 ((HB1.out.block w.heap.size (by simp; omega)).trans ((Below.heap_alloc _ _ _ (by simp)).trans (heap_alloc_new _ _))); clear hr1 hB)
        | (go_at_call 93; refine (any_any (S := S₁) n _ _ _ _ _ p _ (fun b e => by have := HS1.out b e; have := HB1.out.size; simp at this; omega) HR1.out (HP.out.below (up (bel2 _ _ _) HB1.out))).mono ?_; rintro e w2 ⟨v2, rfl, hr2, hB⟩; obtain ⟨fa, fl, fc, ba, bl, bc, m, rfl⟩ := hr2.vals; have HR2 := Lib.hid hr2; have HB2 := Lib.hid (up HB1.out hB); obtain ⟨⟨x0, x1, x2⟩, -⟩ := cells3 ((HB2.out.block w.heap.size (by simp; omega)).trans ((Below.heap_alloc _ _ _ (by simp)).trans (heap_alloc_new _ _))); obtain ⟨⟨z0, z1, z2⟩, z3, z4, z5⟩ := cells3 ((HB2.out.block (w.heap.size + 1) (by simp)).trans (heap2 _ _ _)); clear hr2 hB)
        | fail)
    go_wp2_with fail
    refine bodyPost_ret (v := .agg #[.slice fa fl fc, .slice ba bl bc, .pointer m]) (by simp [results, Tryz.results97, go_sem, cell_set, z0, z1, z2]) rfl (row_close2 (k := 2) (Nat.le_succ _) (Nat.lt_succ_self _) (up (bel2 _ _ _) HB2.out) ?_ _ _ _)
    have hp := HR2.out
    rw [HE.out] at hp
    exact hp
end Go.Proofs.YtmlfiopbdlaaaaaGreat
