/- Names with types, lists of names, params, bindings. -/
import Derived.Test.YtmlfiopbdlaaaaaGreatSh5
namespace Go.Proofs.YtmlfiopbdlaaaaaGreat
open Go.RowKit Go.Deep
variable {S : Nat → Prop}

theorem PartIs.vals0 {n : Nat} {w : World} {vf vi ve : Value} {p : PS} (h : PartIs n S w vf vi ve p) (hi : p.ins = none) : ∃ K caps, vf = .func (.func K) #[] caps ∧ vi = .nilFunc ∧ ve = .bool p.isE := by
  obtain ⟨⟨K, caps, h1, _⟩, h2, h3⟩ := h
  rw [hi] at h2
  exact ⟨K, caps, h1, h2, h3⟩
theorem PartIs.vals1 {n : Nat} {w : World} {vf vi ve : Value} {p : PS} {q : Fm → Bool} (h : PartIs n S w vf vi ve p) (hi : p.ins = some q) : ∃ K caps K' caps', vf = .func (.func K) #[] caps ∧ vi = .func (.func K') #[] caps' ∧ ve = .bool p.isE := by
  obtain ⟨⟨K, caps, h1, _⟩, h2, h3⟩ := h
  rw [hi] at h2
  obtain ⟨K', caps', e, _⟩ := h2
  exact ⟨K, caps, K', caps', h1, e, h3⟩
theorem parts1 {n : Nat} {w : World} {b : Nat} {ty : TypeId} {f1 i1 e1 : Value} {p1 : PS} (hb : w.heap[b]? = some (.cells #[f1, i1, e1] ty (0, 0))) (hs : ¬ S b) (h1 : PartIs n S w f1 i1 e1 p1) : PartsAt n S w (some ⟨b, 0, none⟩) [p1] :=
  parts_block (l := [⟨f1, i1, e1, p1⟩]) hb hs (by intro x hx; simp at hx; subst hx; exact h1)
theorem parts2 {n : Nat} {w : World} {b : Nat} {ty : TypeId} {f1 i1 e1 f2 i2 e2 : Value} {p1 p2 : PS} (hb : w.heap[b]? = some (.cells #[f1, i1, e1, f2, i2, e2] ty (0, 0))) (hs : ¬ S b) (h1 : PartIs n S w f1 i1 e1 p1) (h2 : PartIs n S w f2 i2 e2 p2) : PartsAt n S w (some ⟨b, 0, none⟩) [p1, p2] :=
  parts_block (l := [⟨f1, i1, e1, p1⟩, ⟨f2, i2, e2, p2⟩]) hb hs (by intro x hx; simp at hx; rcases hx with rfl | rfl <;> first | exact h1 | exact h2)
theorem parts3 {n : Nat} {w : World} {b : Nat} {ty : TypeId} {f1 i1 e1 f2 i2 e2 f3 i3 e3 : Value} {p1 p2 p3 : PS} (hb : w.heap[b]? = some (.cells #[f1, i1, e1, f2, i2, e2, f3, i3, e3] ty (0, 0))) (hs : ¬ S b) (h1 : PartIs n S w f1 i1 e1 p1) (h2 : PartIs n S w f2 i2 e2 p2) (h3 : PartIs n S w f3 i3 e3 p3) : PartsAt n S w (some ⟨b, 0, none⟩) [p1, p2, p3] :=
  parts_block (l := [⟨f1, i1, e1, p1⟩, ⟨f2, i2, e2, p2⟩, ⟨f3, i3, e3, p3⟩]) hb hs (by intro x hx; simp at hx; rcases hx with rfl | rfl | rfl <;> first | exact h1 | exact h2 | exact h3)

theorem cells3 {w : World} {b : Nat} {ty : TypeId} {v0 v1 v2 : Value} (h : w.heap[b]? = some (.cells #[v0, v1, v2] ty (0, 0))) :
    (w.cell? ⟨b, 0, none⟩ = some v0 ∧ w.cell? ⟨b, 1, none⟩ = some v1 ∧ w.cell? ⟨b, 2, none⟩ = some v2) ∧ (w.frozen? ⟨b, 0, none⟩ = false ∧ w.frozen? ⟨b, 1, none⟩ = false ∧ w.frozen? ⟨b, 2, none⟩ = false) :=
  ⟨⟨cell_block h rfl, cell_block h rfl, cell_block h rfl⟩, by simp [World.frozen?, h], by simp [World.frozen?, h], by simp [World.frozen?, h]⟩
theorem cell_set {w : World} {a : Addr} {v : Value} (h : (w.cell? a).isSome = true) : (w.setCell a v).cell? a = some v := by
  obtain ⟨u, hu⟩ := Option.isSome_iff_exists.1 h
  exact World.cell?_setCell_same w a v hu
/-- The blocks that a function still writes to, from b on. -/
abbrev andFrom (S : Nat → Prop) (b k : Nat) : Nat → Prop := fun x => S x ∨ (b ≤ x ∧ x < b + k)
theorem andFrom_lt {b k : Nat} (hS : ∀ x, S x → x < b) : ∀ x, andFrom S b k x → x < b + k := by
  rintro x (h | h)
  · have := hS x h; omega
  · exact h.2
theorem Shift.start (S : Nat → Prop) (b k : Nat) (w : World) : Shift S (andFrom S b k) w w := ⟨fun _ => .inl, Apart.refl _ _⟩
theorem Shift.set {S₁ : Nat → Prop} {w w' : World} (h : Shift S S₁ w w') {a : Addr} (ha : S₁ a.block) (u : Value) : Shift S S₁ w (w'.setCell a u) :=
  ⟨h.sub, h.ap.trans ⟨by simp [World.setCell], fun k _ hk => Below.heap_setCell _ _ _ _ (fun e => hk (e ▸ ha))⟩⟩
theorem part_close {n : Nat} {w w' : World} {vf vi ve : Value} {p : PS} (hb : Below w.heap.size w w') (hp : PartIs n (andFrom S w.heap.size 1) w' vf vi ve p) (u0 u1 u2 : Value) :
    PartEnd n S w (((w'.setCell ⟨w.heap.size, 0, none⟩ u0).setCell ⟨w.heap.size, 1, none⟩ u1).setCell ⟨w.heap.size, 2, none⟩ u2) p (.returned (.agg #[vf, vi, ve])) :=
  ⟨_, _, _, rfl, hp.shift ((((Shift.start S w.heap.size 1 w').set (.inr ⟨Nat.le_refl _, Nat.lt_succ_self _⟩) _).set (.inr ⟨Nat.le_refl _, Nat.lt_succ_self _⟩) _).set (.inr ⟨Nat.le_refl _, Nat.lt_succ_self _⟩) _), ((hb.setCell (Nat.le_refl _) _).setCell (Nat.le_refl _) _).setCell (Nat.le_refl _) _⟩
theorem row_close {n : Nat} {w w' : World} {v : Value} {r : RS} (hb : Below w.heap.size w w') (hp : RowIs n (andFrom S w.heap.size 1) w' v r) (u0 u1 u2 : Value) :
    RowEnd n S w (((w'.setCell ⟨w.heap.size, 0, none⟩ u0).setCell ⟨w.heap.size, 1, none⟩ u1).setCell ⟨w.heap.size, 2, none⟩ u2) r (.returned v) :=
  ⟨_, rfl, hp.shift ((((Shift.start S w.heap.size 1 w').set (.inr ⟨Nat.le_refl _, Nat.lt_succ_self _⟩) _).set (.inr ⟨Nat.le_refl _, Nat.lt_succ_self _⟩) _).set (.inr ⟨Nat.le_refl _, Nat.lt_succ_self _⟩) _), ((hb.setCell (Nat.le_refl _) _).setCell (Nat.le_refl _) _).setCell (Nat.le_refl _) _⟩
def typedP : PS := listP ⟨[nameP, typeP], none, []⟩ (fun _ => true)
theorem aTyped_any (n : Nat) (w : World) (hS : ∀ b, S b → b < w.heap.size) : Calls Tryz.prog 84 #[] w (fun e w' => PartEnd n S w w' typedP e) := by
  obtain ⟨S₁, hS₁⟩ : ∃ S₁, S₁ = andFrom S w.heap.size 1 := ⟨_, rfl⟩
  have HS := Lib.hid hS
  have HS1 := Lib.hid (hS₁ ▸ andFrom_lt hS (k := 1) : ∀ x, S₁ x → x < w.heap.size + 1)
  have HE := Lib.hid hS₁
  clear hS hS₁
  go_enter Tryz.func84, Tryz.ntmps84
  go_wp2_with (first
    | (go_at_call 83; refine (aName_any (S := S₁) n _).mono ?_; rintro e w1 ⟨vf1, vi1, ve1, rfl, hp1, hB⟩; obtain ⟨K1, c1, rfl, rfl, rfl⟩ := hp1.vals0 rfl; have HP1 := Lib.hid hp1; have HB1 := Lib.hid hB; clear hp1 hB)
    | (go_at_call 96; refine (aType_any (S := S₁) n _).mono ?_; rintro e w2 ⟨vf2, vi2, ve2, rfl, hp2, hB⟩; obtain ⟨K2, c2, rfl, rfl, rfl⟩ := hp2.vals0 rfl; have HP2 := Lib.hid hp2; have HP1 := Lib.hid (HP1.out.below hB); have HB2 := Lib.hid (up HB1.out hB); have HZ2 := Lib.hid (Nat.le_trans HB1.out.size hB.size); clear hp2 hB)
    | (go_at_call 82; refine (just_any (S := S₁) n _ [nameP, typeP] _ _ (parts2 (heap_alloc_new _ _) (fun e => absurd (HS1.out _ e) (by have := HZ2.out; simp at this; omega)) (HP1.out.below (bel1 _ _)) (HP2.out.below (bel1 _ _)))).mono ?_; rintro e w3 ⟨v3, rfl, hr3, hB⟩; have HR3 := Lib.hid hr3; have HB3 := Lib.hid (up HB2.out (up (bel1 _ _) hB)); clear hr3 hB)
    | (go_at_call 94; refine (aList_none (S := S₁) n _ _ _ (fun b e => by have := HS1.out b e; have := HB3.out.size; simp at this; omega) HR3.out (by decide) (by decide)).mono ?_; rintro e w4 ⟨vf4, vi4, ve4, rfl, hp4, hB⟩; obtain ⟨K4, c4, K4', c4', rfl, rfl, rfl⟩ := hp4.vals1 rfl; have HP4 := Lib.hid hp4; have HB4 := Lib.hid (up HB3.out hB); obtain ⟨⟨z0, z1, z2⟩, z3, z4, z5⟩ := cells3 ((HB4.out.block w.heap.size (by simp)).trans (heap_alloc_new _ _)); clear hp4 hB))
  refine bodyPost_ret (v := .agg #[.func (.func K4) #[] c4, .func (.func K4') #[] c4', .bool typedP.isE]) (by simp [results, Tryz.results84, go_sem, typedP, cell_set, z0, z1, z2]) rfl (part_close (up (bel1 _ _) HB4.out) ?_ _ _ _)
  have hp := HP4.out
  rw [HE.out] at hp
  exact hp
/-- Names that differ: (x ..). -/
def namesP : PS := listP ⟨[], some nameP, []⟩ differB
theorem ok_front {R : RS} {ks : List Fm} (h : R.ok ks = true) (i : Nat) (p : PS) (hi : i < ks.length) (hp : R.at i ks.length = some p) : p.fits ks[i] = true := by
  cases hf : p.fits ks[i] with
  | true => rfl
  | false => rw [ok_fit hi hp hf] at h; exact absurd h (by simp)
theorem preD_name {f : Fm} (h : nameF f = true) : PreD f := fun h3 => by
  simp [nameF, h3] at h
theorem preD_names : ∀ ks : List Fm, (RS.ok ⟨[], some nameP, []⟩ ks) = true → ∀ f ∈ ks, PreD f := by
  intro ks h f hf
  obtain ⟨i, hi, rfl⟩ := List.getElem_of_mem hf
  exact preD_name (ok_front h i nameP hi (by simp [RS.at, hi]))
set_option maxHeartbeats 1000000 in
theorem names_any (n : Nat) (w : World) (hS : ∀ b, S b → b < w.heap.size) : Calls Tryz.prog 140 #[] w (fun e w' => PartEnd n S w w' namesP e) := by
  obtain ⟨S₁, hS₁⟩ : ∃ S₁, S₁ = andFrom S w.heap.size 1 := ⟨_, rfl⟩
  have HS := Lib.hid hS
  have HS1 := Lib.hid (hS₁ ▸ andFrom_lt hS (k := 1) : ∀ x, S₁ x → x < w.heap.size + 1)
  have HE := Lib.hid hS₁
  clear hS hS₁
  go_enter Tryz.func140, Tryz.ntmps140
  go_wp2_with (first
    | (go_at_call 82; refine (just_any (S := S₁) n none [] 0 _ (.inl rfl)).mono ?_; rintro e w1 ⟨v1, rfl, hr1, hB⟩; have HR1 := Lib.hid hr1; have HB1 := Lib.hid hB; clear hr1 hB)
    | (go_at_call 83; refine (aName_any (S := S₁) n _).mono ?_; rintro e w2 ⟨vf1, vi1, ve1, rfl, hp1, hB⟩; obtain ⟨K1, c1, rfl, rfl, rfl⟩ := hp1.vals0 rfl; have HP2 := Lib.hid hp1; have HR2 := Lib.hid (HR1.out.below hB); have HB2 := Lib.hid (up HB1.out hB); have HZ2 := Lib.hid (Nat.le_trans HB1.out.size hB.size); clear hp1 hB)
    | (go_at_call 93; refine (any_any (S := S₁) n _ _ _ _ _ nameP _ (fun b e => by have := HS1.out b e; have := HZ2.out; simp at this; omega) HR2.out HP2.out).mono ?_; rintro e w3 ⟨v3, rfl, hr3, hB⟩; have HR3 := Lib.hid hr3; have HB3 := Lib.hid (up HB2.out hB); have HZ3 := Lib.hid (Nat.le_trans HZ2.out hB.size); clear hr3 hB)
    | (go_at_call 94; refine (aList_differ (S := S₁) n _ _ w3.heap.size 1 _ (fun b e => by have := HS1.out b e; have := HZ3.out; simp at this ⊢; omega) (HR3.out.below (bel1 _ _)) (by decide) (by decide) preD_names ⟨by simp, fun e => absurd (HS1.out _ e) (by have := HZ3.out; simp at this; omega), by simp⟩).mono ?_; rintro e w4 ⟨vf4, vi4, ve4, rfl, hp4, hB⟩; obtain ⟨K4, c4, K4', c4', rfl, rfl, rfl⟩ := hp4.vals1 rfl; have HP4 := Lib.hid hp4; have HB4 := Lib.hid (up HB3.out (up (bel1 _ _) hB)); obtain ⟨⟨z0, z1, z2⟩, z3, z4, z5⟩ := cells3 ((HB4.out.block w.heap.size (by simp)).trans (heap_alloc_new _ _)); clear hp4 hB))
  refine bodyPost_ret (v := .agg #[.func (.func K4) #[] c4, .func (.func K4') #[] c4', .bool namesP.isE]) (by simp [results, Tryz.results140, go_sem, namesP, cell_set, z0, z1, z2]) rfl (part_close (up (bel1 _ _) HB4.out) ?_ _ _ _)
  have hp := HP4.out
  rw [HE.out] at hp
  exact hp
end Go.Proofs.YtmlfiopbdlaaaaaGreat
