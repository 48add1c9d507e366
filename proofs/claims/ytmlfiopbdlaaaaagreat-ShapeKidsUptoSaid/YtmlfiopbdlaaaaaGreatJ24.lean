/- Several texts, one behind the other. -/
import Derived.Test.YtmlfiopbdlaaaaaGreatVShE
import Derived.Test.YtmlfiopbdlaaaaaGreatJ6
namespace Go.Proofs.YtmlfiopbdlaaaaaGreat
open Go.RowKit Go.Deep
variable {S : Nat → Prop}
theorem bindR_small {E : Fm → Bool} {f : Fm} {R : RS} (h : bindR E f = some R) : R.front.length ≤ 1000 ∧ R.back.length ≤ 1000 := by
  unfold bindR at h
  by_cases c1 : hdIn f [[108, 101, 116], [101, 118, 101, 114, 121], [97, 110, 121]] = true
  · rw [if_pos c1] at h
    injection h with h; subst h
    exact ⟨by simp, by simp⟩
  rw [if_neg c1] at h
  by_cases c2 : hdIn f [[97, 108, 108], [115, 111, 109, 101]] = true
  · rw [if_pos c2] at h
    injection h with h; subst h
    exact ⟨by simp, by simp⟩
  rw [if_neg c2] at h
  by_cases c3 : hdIn f [[112, 105, 99, 107]] = true
  · rw [if_pos c3] at h
    injection h with h; subst h
    exact ⟨by simp, by simp⟩
  rw [if_neg c3] at h
  by_cases c4 : hdIn f [[109, 97, 116, 99, 104]] = true
  · rw [if_pos c4] at h
    injection h with h; subst h
    exact ⟨by simp, by simp⟩
  rw [if_neg c4] at h
  by_cases c5 : hdIn f [[102, 110]] = true
  · rw [if_pos c5] at h
    injection h with h; subst h
    exact ⟨by simp, by simp⟩
  rw [if_neg c5] at h
  by_cases c6 : hdIn f [[102, 111, 114, 97, 108, 108], [101, 120, 105, 115, 116, 115]] = true
  · rw [if_pos c6] at h
    injection h with h; subst h
    exact ⟨by simp, by simp⟩
  rw [if_neg c6] at h
  exact absurd h (by simp)
theorem exprR_small {E : Fm → Bool} {f : Fm} {R : RS} (h : exprR E f = some R) : R.front.length ≤ 1000 ∧ R.back.length ≤ 1000 := by
  unfold exprR at h
  by_cases c1 : hdIn f [[110, 101, 103], [110, 111, 116], [98, 110, 117, 109], [108, 101, 110], [99, 97, 114, 100], [107, 101, 121, 115], [102, 114, 101, 115, 104]] = true
  · rw [if_pos c1] at h
    injection h with h; subst h
    exact ⟨by simp, by simp⟩
  rw [if_neg c1] at h
  by_cases c2 : hdIn f [[43], [45], [42], [100, 105, 118], [109, 111, 100], [60], [60, 61], [61], [61, 62], [105, 102, 102], [98, 97, 110, 100], [98, 111, 114], [98, 120, 111, 114], [98, 97, 100, 100], [97, 116], [99, 97, 116], [105, 110], [106, 111, 105, 110], [109, 101, 101, 116], [108, 101, 115, 115], [99, 111, 117, 110, 116], [108, 111, 111, 107]] = true
  · rw [if_pos c2] at h
    injection h with h; subst h
    exact ⟨by simp, by simp⟩
  rw [if_neg c2] at h
  by_cases c3 : hdIn f [[105, 102], [99, 117, 116], [112, 117, 116]] = true
  · rw [if_pos c3] at h
    injection h with h; subst h
    exact ⟨by simp, by simp⟩
  rw [if_neg c3] at h
  by_cases c4 : hdIn f [[97, 110, 100], [111, 114], [115, 101, 113], [115, 101, 116], [98, 97, 103]] = true
  · rw [if_pos c4] at h
    injection h with h; subst h
    exact ⟨by simp, by simp⟩
  rw [if_neg c4] at h
  by_cases c5 : hdIn f [[109, 97, 112]] = true
  · rw [if_pos c5] at h
    injection h with h; subst h
    exact ⟨by simp, by simp⟩
  rw [if_neg c5] at h
  by_cases c6 : hdIn f [[98, 105, 116, 115]] = true
  · rw [if_pos c6] at h
    injection h with h; subst h
    exact ⟨by simp, by simp⟩
  rw [if_neg c6] at h
  by_cases c7 : hdIn f [[101, 109, 112, 116, 121]] = true
  · rw [if_pos c7] at h
    injection h with h; subst h
    exact ⟨by simp, by simp⟩
  rw [if_neg c7] at h
  by_cases c8 : hdIn f [[105, 109, 97, 112]] = true
  · rw [if_pos c8] at h
    injection h with h; subst h
    exact ⟨by simp, by simp⟩
  rw [if_neg c8] at h
  by_cases c9 : hdIn f [[97, 112, 112]] = true
  · rw [if_pos c9] at h
    injection h with h; subst h
    exact ⟨by simp, by simp⟩
  rw [if_neg c9] at h
  by_cases c10 : hdIn f [[105, 115], [103, 101, 116]] = true
  · rw [if_pos c10] at h
    injection h with h; subst h
    exact ⟨by simp, by simp⟩
  rw [if_neg c10] at h
  by_cases c11 : hdIn f [[99, 97, 108, 108], [109, 97, 107, 101]] = true
  · rw [if_pos c11] at h
    injection h with h; subst h
    unfold callR; split <;> exact ⟨by simp, by simp⟩
  rw [if_neg c11] at h
  by_cases c12 : hdIn f [[112, 114, 101, 102, 105, 120]] = true
  · rw [if_pos c12] at h
    injection h with h; subst h
    exact ⟨by simp, by simp⟩
  rw [if_neg c12] at h
  by_cases c13 : hdIn f [[102, 117, 101, 108]] = true
  · rw [if_pos c13] at h
    injection h with h; subst h
    exact ⟨by simp, by simp⟩
  rw [if_neg c13] at h
  by_cases c14 : hdIn f [[111, 108, 100]] = true
  · rw [if_pos c14] at h
    injection h with h; subst h
    split <;> exact ⟨by simp, by simp⟩
  rw [if_neg c14] at h
  exact bindR_small h
theorem hdIn_none {f : Fm} (h : f.ks = []) (l : List (List UInt8)) (hl : [] ∉ l) : hdIn f l = false := by
  have e : headF f = ⟨#[]⟩ := headF_nil (by unfold Fm.kids; split <;> simp [h])
  unfold hdIn
  rw [List.any_eq_false, e]
  intro x hx e2
  have : x = [] := by simpa using (beq_iff_eq.1 e2).symm
  exact hl (this ▸ hx)
theorem exprR_nil {E : Fm → Bool} {f : Fm} (h : f.ks = []) : exprR E f = none := by
  unfold exprR bindR
  rw [if_neg (by rw [hdIn_none h _ (by simp)]; simp), if_neg (by rw [hdIn_none h _ (by simp)]; simp), if_neg (by rw [hdIn_none h _ (by simp)]; simp), if_neg (by rw [hdIn_none h _ (by simp)]; simp), if_neg (by rw [hdIn_none h _ (by simp)]; simp), if_neg (by rw [hdIn_none h _ (by simp)]; simp), if_neg (by rw [hdIn_none h _ (by simp)]; simp), if_neg (by rw [hdIn_none h _ (by simp)]; simp), if_neg (by rw [hdIn_none h _ (by simp)]; simp), if_neg (by rw [hdIn_none h _ (by simp)]; simp), if_neg (by rw [hdIn_none h _ (by simp)]; simp), if_neg (by rw [hdIn_none h _ (by simp)]; simp), if_neg (by rw [hdIn_none h _ (by simp)]; simp), if_neg (by rw [hdIn_none h _ (by simp)]; simp), if_neg (by rw [hdIn_none h _ (by simp)]; simp), if_neg (by rw [hdIn_none h _ (by simp)]; simp), if_neg (by rw [hdIn_none h _ (by simp)]; simp), if_neg (by rw [hdIn_none h _ (by simp)]; simp), if_neg (by rw [hdIn_none h _ (by simp)]; simp), if_neg (by rw [hdIn_none h _ (by simp)]; simp)]
theorem askExpr_num (t : T) (w : World) (hk : t.kd = 0) : Calls Tryz.prog 53 #[t.val] w fun e w' => AnsB true e ∧ Below w.heap.size w w' := by
  have hv : t.val = .agg #[.int .i64 0, .int .i64 t.nn, .string t.tx, .slice t.ad t.ks.length t.cp] := by rw [← hk]
  rw [hv]
  clear hv hk
  go_enter Tryz.func53, Tryz.ntmps53
  go_wp2_with fail
  go_end0
  exact ⟨AnsB.ofYes, bel1 _ _⟩
theorem askExpr_odd (t : T) (w : World) (h0 : t.kd ≠ 0) (h1 : t.kd ≠ 1) (h3 : t.kd ≠ 3) : Calls Tryz.prog 53 #[t.val] w fun e w' => AnsB false e ∧ Below w.heap.size w w' := by
  have g0 : (t.kd == 0) = false := by simpa using h0
  have g1 : (t.kd == 1) = false := by simpa using h1
  have g3 : (t.kd == 3) = false := by simpa using h3
  clear h0 h1 h3
  go_enter Tryz.func53, Tryz.ntmps53
  go_wp2_with fail
  exact ⟨rfl, AnsB.ofNo (by decide), bel1 _ _⟩
theorem askExpr_word (t : T) (w : World) (hk : t.kd = 1) (hs : t.tx.size ≤ 1000) (hm : MaxIs w) : Calls Tryz.prog 53 #[t.val] w fun e w' => AnsB (exprW t.tx) e ∧ Below w.heap.size w w' := by
  have HW := Lib.hid fun (W : World) (h : Below w.heap.size w W) => exprWord_any t.tx hs W (hm.below h)
  have hv : t.val = .agg #[.int .i64 1, .int .i64 t.nn, .string t.tx, .slice t.ad t.ks.length t.cp] := by rw [← hk]
  rw [hv]
  obtain ⟨r, hr⟩ : ∃ r, exprW t.tx = r := ⟨_, rfl⟩
  rw [hr] at HW ⊢
  clear hv hk hs hm hr
  cases r with
  | true =>
    go_enter Tryz.func53, Tryz.ntmps53
    go_wp2_with (first
      | (go_at_call 79; refine (HW.out _ (bel1 _ _)).mono ?_; rintro e w2 ⟨rfl, rfl⟩)
      | (go_at_call 78; refine (must_any _ _ _).mono ?_; rintro e w3 ⟨he, rfl⟩; simp only [AnsE, if_true] at he; subst he))
    go_end0
    exact ⟨AnsB.ofYes, bel1 _ _⟩
  | false =>
    go_enter Tryz.func53, Tryz.ntmps53
    go_wp2_with (first
      | (go_at_call 79; refine (HW.out _ (bel1 _ _)).mono ?_; rintro e w2 ⟨rfl, rfl⟩)
      | (go_at_call 78; refine (must_any _ _ _).mono ?_; rintro e w3 ⟨he, rfl⟩; simp only [AnsE, Bool.false_eq_true, if_false] at he; subst he))
    exact ⟨rfl, AnsB.ofNo (by decide), bel1 _ _⟩
set_option linter.unusedSimpArgs false in
set_option maxHeartbeats 4000000 in
set_option maxRecDepth 100000 in
theorem askExpr_list (n : Nat) (E : Fm → Bool) (hE : HAsk n E) (t : T) (w : World) (hk : t.kd = 3) (hin : In w t) (hm : MaxIs w) (ha : Asked (n + 1) t) :
    Calls Tryz.prog 53 #[t.val] w fun e w' => AnsB (match exprR E t.form with | some R => R.ok (t.form.ks.drop 1) | none => false) e ∧ Below w.heap.size w w' := by
  have HR := Lib.hid fun (W : World) (h : Below w.heap.size w W) => exprRow_any (S := fun _ => False) n t W E (fun b h => h.elim) hE (hin.below h)
  obtain ⟨r, hr⟩ : ∃ r, exprR E t.form = r := ⟨_, rfl⟩
  rw [hr] at HR ⊢
  have hv : t.val = .agg #[.int .i64 3, .int .i64 t.nn, .string t.tx, .slice t.ad t.ks.length t.cp] := by rw [← hk]
  cases r with
  | none =>
    rw [hv] at HR ⊢
    clear hv hk hin hm ha hr hE
    go_enter Tryz.func53, Tryz.ntmps53
    go_wp2_with (first
      | (go_at_call 58; refine (HR.out _ (bel1 _ _)).mono ?_; rintro e w2 ⟨ha, hB⟩; obtain ⟨cc, hcc, he⟩ := ha.no; subst he; have HCC := Lib.hid hcc; have HB := Lib.hid (up (bel1 _ _) hB); clear hB ha hcc))
    exact ⟨rfl, AnsB.ofNo HCC.out, HB.out⟩
  | some R =>
    have hkf : t.form.kd = 3 := by rw [T.form_kd]; exact hk
    have hsm := exprR_small hr
    have e : t.ks.map T.form = t.form.ks := (T.form_ks t).symm
    obtain ⟨x, r, hks⟩ : ∃ x r, t.ks = x :: r := by
      cases h : t.ks with
      | nil => rw [exprR_nil (by rw [← e, h]; rfl)] at hr; exact absurd hr (by simp)
      | cons x r => exact ⟨x, r, rfl⟩
    have e2 : t.form.ks.drop 1 = r.map T.form := by rw [← e, hks]; rfl
    have hlen := ha.len hkf
    have hcap := hin.ok.le
    have hcp := hin.ok.cp
    unfold maxLen at hcp
    have hInL := hin.inL
    rw [hks] at hInL hlen hcap
    obtain ⟨b, o, had, _⟩ := (hInL.at 0 (by simp)).1
    have HAA := Lib.hid fun (W : World) (hW : Below w.heap.size w W) {w2 : World} {v2 : Value} (hR : RowIs n (fun _ => False) w2 v2 R) (h2 : Below w2.heap.size w2 W) (a : Option Addr) (c : Nat) (hi : InL W a 0 r) => ask_any n v2 R a c r W (hm.below hW) (hR.below h2) (by omega) (by omega) hi (by simp at hlen; omega) (fun u hu => ha.kidS hkf (by rw [hks]; exact List.mem_cons_of_mem _ hu))
    have HI := Lib.hid fun (W : World) (h : Below w.heap.size w W) => (InL_mk fun j hj => by
      have := InL_get (hInL.below h) (j + 1) (by simpa using hj)
      obtain ⟨⟨b', o', ha', hc⟩, hi⟩ := this
      rw [had] at ha'
      injection ha' with ha'; injection ha' with q1 q2 q3; subst q1 q2
      exact ⟨⟨b, o + 4, rfl, by simpa [Nat.add_mul, Nat.add_assoc, Nat.add_comm, Nat.add_left_comm] using hc⟩, by simpa using hi⟩ : InL W (some ⟨b, o + 4, none⟩) 0 r)
    obtain ⟨cp, hcpe⟩ : ∃ cp, t.cp = cp := ⟨_, rfl⟩
    have hval : t.val = .agg #[.int .i64 3, .int .i64 t.nn, .string t.tx, .slice (some ⟨b, o, none⟩) (r.length + 1) cp] := by
      rw [T.val, had, hks, hk, hcpe]; rfl
    rw [hcpe] at hcap hcp
    have hc1 : r.length + 1 ≤ cp := by simpa using hcap
    dsimp only
    rw [e2]
    obtain ⟨res, hres⟩ : ∃ res, R.ok (r.map T.form) = res := ⟨_, rfl⟩
    rw [hres] at HAA ⊢
    rw [hval] at HR ⊢
    clear hv hval hcap hlen hInL hcpe hks e e2 hsm hkf hr hk hin hm ha hE hres had
    have mixed : Tryz.prog.follows .mixedOrders = true := by kernel_rfl
    go_enter Tryz.func53, Tryz.ntmps53
    go_wp2_with (first
      | (go_at_call 58; refine (HR.out _ (bel1 _ _)).mono ?_; rintro e w2 ⟨v2, rfl, hx, hB⟩; obtain ⟨fa, fl, fc, ba, bl, bc, m, rfl⟩ := hx.vals; have HX := Lib.hid hx; have hbox := (hB.block w.heap.size (by simp)).trans (heap_alloc_new _ _); have lw2 := lt_of_block hbox; have HB := Lib.hid (up (bel1 _ _) hB); clear hB hx))
    have HX2 := Lib.hid (fun (W : World) (h : Below (w2.alloc (Obj.cells #[.slice fa fl fc, .slice ba bl bc, .pointer m] 68)).heap.size (w2.alloc (Obj.cells #[.slice fa fl fc, .slice ba bl bc, .pointer m] 68)) W) => (⟨(cells3 ((h.block w2.heap.size (by simp)).trans (heap_alloc_new _ _))).1, cell_block ((h.block w.heap.size (by simp; omega)).trans ((Below.heap_alloc _ _ _ lw2).trans hbox)) rfl, cell_block ((h.block w.heap.size (by simp; omega)).trans ((Below.heap_alloc _ _ _ lw2).trans hbox)) rfl, cell_block ((h.block w.heap.size (by simp; omega)).trans ((Below.heap_alloc _ _ _ lw2).trans hbox)) rfl, cell_block ((h.block w.heap.size (by simp; omega)).trans ((Below.heap_alloc _ _ _ lw2).trans hbox)) rfl⟩ : (W.cell? ⟨w2.heap.size, 0, none⟩ = some (.slice fa fl fc) ∧ W.cell? ⟨w2.heap.size, 1, none⟩ = some (.slice ba bl bc) ∧ W.cell? ⟨w2.heap.size, 2, none⟩ = some (.pointer m)) ∧ W.cell? ⟨w.heap.size, 0, none⟩ = some (.int .i64 3) ∧ W.cell? ⟨w.heap.size, 1, none⟩ = some (.int .i64 t.nn) ∧ W.cell? ⟨w.heap.size, 2, none⟩ = some (.string t.tx) ∧ W.cell? ⟨w.heap.size, 3, none⟩ = some (.slice (some ⟨b, o, none⟩) (r.length + 1) cp)))
    have HA := Lib.hid fun (W : World) (h : Below (w2.alloc (Obj.cells #[.slice fa fl fc, .slice ba bl bc, .pointer m] 68)).heap.size (w2.alloc (Obj.cells #[.slice fa fl fc, .slice ba bl bc, .pointer m] 68)) W) => HAA.out W (up HB.out (up (bel1 _ _) h)) HX.out (up (bel1 _ _) h)
    clear hbox
    refine wp_region_held_drew (S := fun W => (W.cell? ⟨w2.heap.size, 0, none⟩ = some (.slice fa fl fc) ∧ W.cell? ⟨w2.heap.size, 1, none⟩ = some (.slice ba bl bc) ∧ W.cell? ⟨w2.heap.size, 2, none⟩ = some (.pointer m)) ∧ W.cell? ⟨w.heap.size, 0, none⟩ = some (.int .i64 3) ∧ W.cell? ⟨w.heap.size, 1, none⟩ = some (.int .i64 t.nn) ∧ W.cell? ⟨w.heap.size, 2, none⟩ = some (.string t.tx) ∧ W.cell? ⟨w.heap.size, 3, none⟩ = some (.slice (some ⟨b, o, none⟩) (r.length + 1) cp)) mixed (HX2.out _ (Below.refl _ _).drew) (fun hHeld => ?_)
    try simp only [Act.put, List.setIfInBounds_toArray, List.set_cons_zero, List.set_cons_succ]
    refine wpAnyH_take (i := 0) (v := ?_) rfl (by kernel_rfl) (by kernel_rfl) (by kernel_rfl) (fun _ _ _ h => h) (Or.inl ⟨by rfl, ?_⟩) (by assumption) ?_
    rotate_left
    · intro W hSw
      obtain ⟨⟨q0, q1, q2⟩, q3, q4, q5, q6⟩ := hSw
      go_simp
      try with_reducible rfl
    try simp only [Act.put, List.setIfInBounds_toArray, List.set_cons_zero, List.set_cons_succ]
    refine wpAnyH_take (i := 1) (v := ?_) rfl (by kernel_rfl) (by kernel_rfl) (by kernel_rfl) (fun _ _ _ h => h) (Or.inl ⟨by rfl, ?_⟩) (by assumption) ?_
    rotate_left
    · intro W hSw
      obtain ⟨⟨q0, q1, q2⟩, q3, q4, q5, q6⟩ := hSw
      go_simp
      try with_reducible rfl
    try simp only [Act.put, List.setIfInBounds_toArray, List.set_cons_zero, List.set_cons_succ]
    refine wpAnyH_take (i := 2) (v := ?_) rfl (by kernel_rfl) (by kernel_rfl) (by kernel_rfl) (fun _ _ _ h => h) (Or.inl ⟨by rfl, ?_⟩) (by assumption) ?_
    rotate_left
    · intro W hSw
      obtain ⟨⟨q0, q1, q2⟩, q3, q4, q5, q6⟩ := hSw
      go_simp
      try with_reducible rfl
    try simp only [Act.put, List.setIfInBounds_toArray, List.set_cons_zero, List.set_cons_succ]
    have hle : (1 : Int) ≤ (r.length : Int) + 1 := by omega
    refine wpAnyH_take (i := 3) (v := .slice (if cp = 1 then some ⟨b, o, none⟩ else some ⟨b, o + 4, none⟩) r.length (cp - 1)) rfl (by kernel_rfl) (by kernel_rfl) (by kernel_rfl) (fun _ _ _ h => h) (Or.inl ⟨by rfl, ?_⟩) (by assumption) ?_
    · intro W hSw
      obtain ⟨⟨q0, q1, q2⟩, q3, q4, q5, q6⟩ := hSw
      go_simp
      try with_reducible rfl
    try simp only [Act.put, List.setIfInBounds_toArray, List.set_cons_zero, List.set_cons_succ]
    have HIA := Lib.hid fun (W : World) (h : Below w.heap.size w W) => (by
      by_cases h1 : cp = 1
      · have : r = [] := List.length_eq_zero_iff.1 (by omega)
        subst this
        simp [InL]
      · rw [if_neg h1]; exact HI.out W h : InL W (if cp = 1 then some ⟨b, o, none⟩ else some ⟨b, o + 4, none⟩) 0 r)
    obtain ⟨aa, haa⟩ : ∃ aa, (if cp = 1 then some (⟨b, o, none⟩ : Addr) else some ⟨b, o + 4, none⟩) = aa := ⟨_, rfl⟩
    rw [haa] at HIA ⊢
    obtain ⟨cc, hcc⟩ : ∃ cc, cp - 1 = cc := ⟨_, rfl⟩
    rw [hcc]
    refine wpAnyH_ready (rs := [4]) (by kernel_rfl) (by simp) ?_
    refine AllReadyH.cons rfl (fun K9 hK9 => ?_) AllReadyH.nil
    go_simp
    cases res with
    | true =>
      go_at_call 80
      refine (HA.out _ (Below.refl _ _).drew _ _ (HIA.out _ (up HB.out (up (bel1 _ _) (Below.refl _ _).drew)))).mono ?_
      rintro e w4 ⟨he, hB⟩
      have he := he.yes
      subst he
      have HB4 := Lib.hid (up HB.out (up (bel1 _ _) (up (Below.refl _ _).drew hB)))
      have HB2 := Lib.hid (up (Below.refl _ _).drew hB)
      clear hB
      go_wp2_with fail
      refine hK9.out _ _ (HX2.out _ HB2.out) (fun hHeld => ?_)
      clear hK9 K9
      try simp only [Act.put, List.setIfInBounds_toArray, List.set_cons_zero, List.set_cons_succ]
      refine wpAnyH_done (by kernel_rfl) ?_ _
      go_wp2_with fail
      go_end0
      exact ⟨AnsB.ofYes, HB4.out⟩
    | false =>
      go_at_call 80
      refine (HA.out _ (Below.refl _ _).drew _ _ (HIA.out _ (up HB.out (up (bel1 _ _) (Below.refl _ _).drew)))).mono ?_
      rintro e w4 ⟨he, hB⟩
      obtain ⟨c, hc, he⟩ := he.no
      subst he
      exact ⟨rfl, AnsB.ofNo hc, up HB.out (up (bel1 _ _) (up (Below.refl _ _).drew hB))⟩
theorem enters_askExpr : Enters Tryz.prog 53 := enters_of Tryz.func53 (by kernel_rfl) rfl
theorem hAsk : ∀ n, HAsk n (okE n)
  | 0, S, w => ⟨_, _, rfl, enters_askExpr, fun W _ _ t _ ha _ => absurd ha.small (by omega)⟩
  | n + 1, S, w => by
    refine ⟨_, _, rfl, enters_askExpr, fun W _ hm t hin ha _ => ?_⟩
    have ek : t.form.kd = t.kd := T.form_kd t
    unfold okE
    rw [ek]
    by_cases h0 : t.kd = 0
    · rw [if_pos h0]; exact askExpr_num t W h0
    · rw [if_neg h0]
      by_cases h1 : t.kd = 1
      · rw [if_pos h1, T.form_tx]
        exact askExpr_word t W h1 (by rw [← T.form_tx]; exact good_word ha.good (ek.trans h1)) hm
      · rw [if_neg h1]
        by_cases h3 : t.kd = 3
        · rw [if_pos h3]; exact askExpr_list n (okE n) (hAsk n) t W h3 hin hm ha
        · rw [if_neg h3]; exact askExpr_odd t W h0 h1 h3
end Go.Proofs.YtmlfiopbdlaaaaaGreat

namespace Go.Proofs.YtmlfiopbdlaaaaaGreat
open Go.RowKit Go.Deep
set_option maxHeartbeats 2000000 in
set_option maxRecDepth 100000 in
theorem refusalB_any (t : T) (K : FuncId) (eK : ∀ args w, (callFunc K args).run Tryz.prog w = .ok (.enter K args) w) (caps : Array Value) (r : Bool) (w : World) (hin : In w t)
    (hask : validF t.form = true → ∀ w', Below w.heap.size w w' → Calls Tryz.prog K caps w' fun e w'' => AnsB r e ∧ Below w'.heap.size w' w'') :
    Calls Tryz.prog 51 #[t.val, .func (.func K) #[] caps] w fun e w' => (∃ q : Int, e = .returned (.int .i64 q) ∧ (q = 0 ↔ (validF t.form && r) = true)) ∧ Below w.heap.size w w' := by
  have HV := Lib.hid fun (W : World) (h : In W t) => valid_big t W h
  have HIN := Lib.hid hin
  have HASK := Lib.hid hask
  clear hin hask
  have hmf : ∀ (fn : Fn) (first cap : Array Value) (w : World), (Instr.makeFunc fn first cap).run Tryz.prog w = .ok (.func fn first cap) w := fun _ _ _ _ => rfl
  cases hv : validF t.form with
  | false =>
    rw [hv] at HV
    clear hv
    go_enter_defers Tryz.func51, Tryz.ntmps51
    go_wp2_with (go_at_call 76; refine (HV.out _ ((HIN.out.alloc _).alloc _)).mono ?_; rintro e w2 ⟨rfl, hB⟩; have hE := (ErrAt.new2 _ _).below hB; have c0 := cell_of_one hE; have f0 := free_of_one hE; have HE := Lib.hid hE; have HB := Lib.hid (up (bel2 _ _ _) hB); clear hB hE)
    simp [bodyPostD, Leaves, results, Tryz.results51, go_sem, c0]
    exact below_set HB.out (by omega)
  | true =>
    rw [hv] at HV
    have HA := Lib.hid (HASK.out hv)
    clear hv HASK
    cases r with
    | true =>
      go_enter_defers Tryz.func51, Tryz.ntmps51
      go_wp2_with (first
        | (go_at_call 76; refine (HV.out _ ((HIN.out.alloc _).alloc _)).mono ?_; rintro e w2 ⟨rfl, hB⟩; have HE := Lib.hid ((ErrAt.new2 _ _).below hB); have HB := Lib.hid (up (bel2 _ _ _) hB); clear hB)
        | (go_at_fn K; refine (HA.out _ HB.out).mono ?_; rintro e w3 ⟨he, hB⟩; have he := he.yes; subst he; have hE := HE.out.below hB; have c0 := cell_of_one hE; have f0 := free_of_one hE; have HE2 := Lib.hid hE; have HB2 := Lib.hid (up HB.out hB); clear hB hE))
      refine leaves_cons (f := 77) (args := #[.pointer (some ⟨w.heap.size + 1, 0, none⟩)]) (by simp) (by simp [go_sem]) ?_
      refine (catch_idle ⟨w.heap.size + 1, 0, none⟩ _).mono ?_
      rintro e u' w'' ⟨rfl, rfl, rfl⟩
      simp [Leaves, settle, results, Tryz.results51, go_sem, c0]
      exact below_set HB2.out (by omega)
    | false =>
      go_enter_defers Tryz.func51, Tryz.ntmps51
      go_wp2_with (first
        | (go_at_call 76; refine (HV.out _ ((HIN.out.alloc _).alloc _)).mono ?_; rintro e w2 ⟨rfl, hB⟩; have HE := Lib.hid ((ErrAt.new2 _ _).below hB); have HB := Lib.hid (up (bel2 _ _ _) hB); clear hB)
        | (go_at_fn K; refine (HA.out _ HB.out).mono ?_; rintro e w3 ⟨he, hB⟩; obtain ⟨c, hcc, he⟩ := he.no; subst he; have HCC := Lib.hid hcc; clear hcc; have hE := HE.out.below hB; have c0 := cell_of_one hE; have f0 := free_of_one hE; have HE2 := Lib.hid hE; have HB2 := Lib.hid (up HB.out hB); clear hB hE))
      refine leaves_cons (f := 77) (args := #[.pointer (some ⟨w.heap.size + 1, 0, none⟩)]) (by simp) (by simp [go_sem]) ?_
      refine (catch_panicking ⟨w.heap.size + 1, 0, none⟩ 0 c _ c0 f0).mono ?_
      rintro e u' w'' ⟨rfl, rfl, rfl⟩
      simp [Leaves, settle, results, Tryz.results51, go_sem, c0]
      exact ⟨HCC.out, below_set HB2.out (by omega)⟩
theorem enters_expr1B : ∀ args w, (callFunc 52 args).run Tryz.prog w = .ok (.enter 52 args) w := fun args w => by
  exact enters_of Tryz.func52 (by kernel_rfl) rfl args w
theorem ask_boxed (t : T) (ha : Asked (SizeOf.sizeOf t.form + 1) t) (b : Nat) (w : World) (hb : Box4 w b t) (hin : In w t) (hm : MaxIs w) :
    Calls Tryz.prog 52 #[.pointer (some ⟨b, 0, none⟩)] w fun e w' => AnsB (okX t.form) e ∧ Below w.heap.size w w' := by
  obtain ⟨K, caps, e, -, hc⟩ := hAsk (SizeOf.sizeOf t.form + 1) (fun _ => False) w
  injection e with e1 e2 e3
  injection e1 with e1
  subst e1 e3
  have HA := Lib.hid (hc w (Apart.refl _ _) hm t hin ha rfl)
  obtain ⟨x0, x1, x2, x3⟩ := hb.cells
  change Hid (Calls Tryz.prog 53 #[t.val] w fun e w' => AnsB (okX t.form) e ∧ Below w.heap.size w w') at HA
  clear hm hb hin hc ha
  cases hx : okX t.form with
  | true =>
    rw [hx] at HA
    clear hx
    go_enter Tryz.func52, Tryz.ntmps52
    go_wp2_with (go_at_call 53; refine HA.out.mono ?_; rintro e w2 ⟨he, hB⟩; have he := he.yes; subst he; have HB := Lib.hid hB; clear hB)
    go_end0
    exact ⟨AnsB.ofYes, HB.out⟩
  | false =>
    rw [hx] at HA
    clear hx
    go_enter Tryz.func52, Tryz.ntmps52
    go_wp2_with (go_at_call 53; refine HA.out.mono ?_; rintro e w2 ⟨he, hB⟩; obtain ⟨c, hcc, he⟩ := he.no; subst he; have HB := Lib.hid hB; have HCC := Lib.hid hcc; clear hB hcc)
    exact ⟨rfl, AnsB.ofNo HCC.out, HB.out⟩
set_option maxHeartbeats 1000000 in
theorem expr_any (t : T) (w : World) (hin : In w t) (hm : MaxIs w) :
    Calls Tryz.prog 26 #[t.val] w fun e w' => (∃ q : Int, e = .returned (.int .i64 q) ∧ (q = 0 ↔ (validF t.form && okX t.form) = true)) ∧ Below w.heap.size w w' := by
  have hmf : ∀ (fn : Fn) (first cap : Array Value) (w : World), (Instr.makeFunc fn first cap).run Tryz.prog w = .ok (.func fn first cap) w := fun _ _ _ _ => rfl
  have HR := Lib.hid (refusalB_any t 52 enters_expr1B #[.pointer (some ⟨w.heap.size, 0, none⟩)] (okX t.form) (w.alloc (.cells #[.int .i64 t.kd, .int .i64 t.nn, .string t.tx, .slice t.ad t.ks.length t.cp] 24)) (hin.alloc _)
    (fun hv w' hB => ask_boxed t (valid_asked hv) w.heap.size w' ((hB.block _ (by simp)).trans (Box4.new w t)) ((hin.alloc _).below hB) (hm.below (up (bel1 _ _) hB))))
  obtain ⟨q, hq⟩ : ∃ q, (validF t.form && okX t.form) = q := ⟨_, rfl⟩
  rw [hq] at HR ⊢
  clear hm hin hq
  go_enter Tryz.func26, Tryz.ntmps26
  go_wp2_with (go_at_call 51; refine HR.out.mono ?_; rintro e w2 ⟨⟨q', rfl, hq'⟩, hB⟩; have HB := Lib.hid hB; have HQ := Lib.hid hq'; clear hB hq')
  go_ret
  exact ⟨⟨_, rfl, HQ.out⟩, up (bel1 _ _) HB.out⟩
end Go.Proofs.YtmlfiopbdlaaaaaGreat

namespace Go.Proofs.YtmlfiopbdlaaaaaGreat
open Go.RowKit Go.Deep
def kidsTo (R : RS) (m k : Nat) : List Int := (List.range k).filterMap fun i => match R.at i m with | some p => if p.isE then some ((i : Int) + 1) else none | none => none
theorem kidsTo_yes {R : RS} {m k : Nat} {p : PS} (h : R.at k m = some p) (hp : p.isE = true) : kidsTo R m (k + 1) = kidsTo R m k ++ [(k : Int) + 1] := by
  unfold kidsTo; rw [List.range_succ, List.filterMap_append]; simp [h, hp]
theorem kidsTo_no {R : RS} {m k : Nat} {p : PS} (h : R.at k m = some p) (hp : p.isE = false) : kidsTo R m (k + 1) = kidsTo R m k := by
  unfold kidsTo; rw [List.range_succ, List.filterMap_append]; simp [h, hp]
theorem kidsTo_len (R : RS) (m k : Nat) : (kidsTo R m k).length ≤ k := by
  have := List.length_filterMap_le (fun i => match R.at i m with | some p => if p.isE then some ((i : Int) + 1) else none | none => none) (List.range k)
  simpa [kidsTo] using this
theorem fld2 (a b c : Value) (W : World) : Sem.run Tryz.prog (Instr.field 71 (.agg #[a, b, c]) 2) W = .ok c W := by
  simp [Instr.field, run_underlying Tryz.underlying71, go_sem, asAgg]
set_option maxHeartbeats 4000000 in
set_option maxRecDepth 100000 in
theorem exprKids_list (n : Nat) (E : Fm → Bool) (hE : HAsk n E) (R : RS) (t : T) (w : World) (hk : t.kd = 3) (hin : In w t) (hl : t.ks.length ≤ 20001) (hr : exprR E t.form = some R) (hlets : R.lets (t.ks.length - 1) = true) (hne : 1 ≤ t.ks.length) :
    Calls Tryz.prog 29 #[t.val] w fun e w' => ∃ v, e = .returned v ∧ OwnI w.heap.size w w' v (kidsTo R (t.ks.length - 1) (t.ks.length - 1)) := by
  have HR := Lib.hid fun (W : World) (h : Below w.heap.size w W) => exprRow_any (S := fun _ => False) n t W E (fun b h => h.elim) hE (hin.below h)
  rw [hr] at HR
  have hv : t.val = .agg #[.int .i64 3, .int .i64 t.nn, .string t.tx, .slice t.ad t.ks.length t.cp] := by rw [← hk]
  rw [hv] at HR ⊢
  have HSM := Lib.hid (exprR_small hr)
  have HLT := Lib.hid hlets
  clear hv hk hin hr hE hlets
  go_enter Tryz.func29, Tryz.ntmps29
  go_wp2_with (first
    | (go_at_call 58; refine (HR.out _ (bel1 _ _)).mono ?_; rintro e w2 ⟨v2, rfl, hx, hB⟩; obtain ⟨fa, fl, fc, ba, bl, bc, m, rfl⟩ := hx.vals; have HX := Lib.hid hx; have hbox := (hB.block w.heap.size (by simp)).trans (heap_alloc_new _ _); have lw2 := lt_of_block hbox; have HB := Lib.hid (up (bel1 _ _) hB); clear hB hx))
  obtain ⟨len, hlen⟩ : ∃ len, t.ks.length = len := ⟨_, rfl⟩
  have HLE := Lib.hid hlen
  rw [hlen] at hl hbox HLT hne ⊢
  have HL := Lib.hid hl
  have hle := lets_le HLT.out
  have HAT := Lib.hid fun (W : World) (h : Below w2.heap.size w2 W) (j : Nat) (hj : j < len - 1) (p : PS) (hp : R.at j (len - 1) = some p) => at_row n _ R j (len - 1) p W (HX.out.below h) (by have := HSM.out; omega) (by have := HSM.out; omega) hj (by omega) hle hp
  have HSO := Lib.hid fun j (hj : j < len - 1) => RS.lets_some HLT.out j hj
  have W3lt : w.heap.size < w2.heap.size + 1 := by omega
  have HW := Lib.hid (fun (W : World) (h : Below (w2.alloc (.cells #[.slice fa fl fc, .slice ba bl bc, .pointer m] 68)).heap.size (w2.alloc (.cells #[.slice fa fl fc, .slice ba bl bc, .pointer m] 68)) W) => (⟨(cells3 ((h.block w2.heap.size (by simp)).trans (heap_alloc_new _ _))).1, cell_block ((h.block w.heap.size (by simp; omega)).trans ((Below.heap_alloc _ _ _ lw2).trans hbox)) rfl⟩ : (W.cell? ⟨w2.heap.size, 0, none⟩ = some (.slice fa fl fc) ∧ W.cell? ⟨w2.heap.size, 1, none⟩ = some (.slice ba bl bc) ∧ W.cell? ⟨w2.heap.size, 2, none⟩ = some (.pointer m)) ∧ W.cell? ⟨w.heap.size, 3, none⟩ = some (.slice t.ad len t.cp)))
  have hf := fld2
  clear hl hbox hle
  go_loopg [3, 5] (len - 1) (fun q kv iv wr => ∃ k : Nat, 1 ≤ k ∧ k ≤ len ∧ q = len - k ∧ iv = .int .i64 k ∧ OwnI (w2.heap.size + 1) (w2.alloc (.cells #[.slice fa fl fc, .slice ba bl bc, .pointer m] 68)) wr kv (kidsTo R (len - 1) (k - 1)))
  case atStart => exact ⟨1, by omega, hne, by omega, rfl, by simpa [kidsTo] using OwnI.start (B := w2.heap.size + 1) (w := w2.alloc (.cells #[.slice fa fl fc, .slice ba bl bc, .pointer m] 68)) (by simp)⟩
  case round =>
    obtain ⟨k, hk1, hkl, rfl, rfl, ho⟩ := hrel
    have HO := Lib.hid ho
    have HBW : Hid (Below (w2.alloc (.cells #[.slice fa fl fc, .slice ba bl bc, .pointer m] 68)).heap.size (w2.alloc (.cells #[.slice fa fl fc, .slice ba bl bc, .pointer m] 68)) wr) := Lib.hid (by have := ho.below; simpa using this)
    obtain ⟨⟨x0, x1, x2⟩, q3⟩ := HW.out wr HBW.out
    have l1 : w2.heap.size < wr.heap.size := World.block_lt_of_cell? _ _ x0
    have l2 : w.heap.size < wr.heap.size := World.block_lt_of_cell? _ _ q3
    have hl := HL.out
    clear ho
    by_cases hlt : k < len
    · obtain ⟨p, hp⟩ := HSO.out (k - 1) (by omega)
      have HP := Lib.hid hp
      have gk : (k : Int) < (len : Int) := by omega
      obtain ⟨j, rfl⟩ : ∃ j, k = j + 1 := ⟨k - 1, by omega⟩
      have HB2 : Hid (Below w2.heap.size w2 wr) := Lib.hid (up (bel1 _ _) HBW.out)
      have ho2 := HO.out
      rw [Nat.add_sub_cancel] at ho2
      have HO2 := Lib.hid ho2
      have HPJ : Hid (R.at j (len - 1) = some p) := Lib.hid (by have := HP.out; rwa [Nat.add_sub_cancel] at this)
      clear ho2 hp
      have gj : ((j : Int) + 1) - 1 = (j : Int) := by omega
      have gl : (len : Int) - 1 = ((len - 1 : Nat) : Int) := by omega
      cases hp2 : p.isE with
      | true =>
        have HPE := Lib.hid hp2
        go_wp2_with (first
          | (go_at_call 59; refine (HAT.out _ HB2.out j (by omega) p HPJ.out).mono ?_; rintro e w3 ⟨vf, vi, ve, rfl, hpi, hB⟩; obtain ⟨K1, c1, rfl, hvi, rfl⟩ := hpi.vals; rw [HPE.out]; have HB3 := Lib.hid hB; clear hpi hB hvi)
          | (at_builtin; refine ownI_push rfl _ _ 25 rfl Tryz.underlying25 rfl ((HO2.out.next HB3.out).next (bel1 _ _)) ((j : Int) + 1) 1 _ rfl (heap_alloc_new _ _) (by have := kidsTo_len R (len - 1) j; omega) ?_; intro v4 w4 ho4 hg4; have HO4 := Lib.hid ho4; clear ho4 hg4))
        go_roundg (len - (j + 1 + 1))
        case measure => omega
        case rel => exact ⟨j + 1 + 1, by omega, by omega, rfl, by go_num, by rw [Nat.add_sub_cancel, kidsTo_yes HPJ.out HPE.out]; exact HO4.out⟩
      | false =>
        have HPE := Lib.hid hp2
        go_wp2_with (first
          | (go_at_call 59; refine (HAT.out _ HB2.out j (by omega) p HPJ.out).mono ?_; rintro e w3 ⟨vf, vi, ve, rfl, hpi, hB⟩; obtain ⟨K1, c1, rfl, hvi, rfl⟩ := hpi.vals; rw [HPE.out]; have HB3 := Lib.hid hB; clear hpi hB hvi))
        go_roundg (len - (j + 1 + 1))
        case measure => omega
        case rel => exact ⟨j + 1 + 1, by omega, by omega, rfl, by go_num, by rw [Nat.add_sub_cancel, kidsTo_no HPJ.out HPE.out]; exact HO2.out.next HB3.out⟩
    · have HE : Hid (k - 1 = len - 1) := Lib.hid (by omega)
      go_wp2_with fail
      refine bodyPost_ret (v := u3) (by simp [results, Tryz.results29, go_sem]) rfl ⟨_, rfl, ?_⟩
      have h := HO.out
      rw [HE.out] at h
      rw [HLE.out]
      exact h.lower (by omega) (up HB.out (up (bel1 _ _) HBW.out))
theorem exprKids_other (t : T) (w : World) (hk : t.kd ≠ 3) : Calls Tryz.prog 29 #[t.val] w fun e w' => ∃ v, e = .returned v ∧ OwnI w.heap.size w w' v [] := by
  have g : (t.kd != 3) = true := by simpa using hk
  clear hk
  go_enter Tryz.func29, Tryz.ntmps29
  go_wp2_with fail
  refine bodyPost_ret (v := .slice none 0 0) (by simp [results, Tryz.results29, go_sem]) rfl ⟨_, rfl, ?_⟩
  exact (OwnI.start (B := w.heap.size) (w := w.alloc _) (by simp)).lower (Nat.le_refl _) (bel1 _ _)
noncomputable def rowX (f : Fm) : Option RS := exprR (okE (SizeOf.sizeOf f)) f
noncomputable def kidsX (f : Fm) : List Int := if f.kd = 3 then (match rowX f with | some R => kidsTo R (f.ks.length - 1) (f.ks.length - 1) | none => []) else []
theorem okX_row {f : Fm} (h : okX f = true) (hk : f.kd = 3) : ∃ R, rowX f = some R ∧ R.lets (f.ks.length - 1) = true ∧ 1 ≤ f.ks.length := by
  unfold okX okE at h
  rw [if_neg (by omega), if_neg (by omega), if_pos hk] at h
  unfold rowX
  cases hr : exprR (okE (SizeOf.sizeOf f)) f with
  | none => rw [hr] at h; simp at h
  | some R =>
    rw [hr] at h
    refine ⟨R, rfl, ?_, ?_⟩
    · have h : R.ok (f.ks.drop 1) = true := h
      cases hl : R.lets (f.ks.length - 1) with
      | true => rfl
      | false => rw [ok_lets (by simpa using hl)] at h; exact absurd h (by simp)
    · cases hk0 : f.ks with
      | nil => rw [exprR_nil hk0] at hr; simp at hr
      | cons x r => simp
theorem exprKids_any (t : T) (w : World) (hin : In w t) (hv : validF t.form = true) (ho : okX t.form = true) : Calls Tryz.prog 29 #[t.val] w fun e w' => ∃ v, e = .returned v ∧ OwnI w.heap.size w w' v (kidsX t.form) := by
  have ek : t.form.kd = t.kd := T.form_kd t
  have el : t.form.ks.length = t.ks.length := by rw [T.form_ks, List.length_map]
  by_cases hk : t.kd = 3
  · obtain ⟨R, hr, hl, hne⟩ := okX_row ho (ek.trans hk)
    unfold kidsX
    rw [if_pos (ek.trans hk), hr, el]
    rw [el] at hl hne
    have := (valid_asked hv).len (ek.trans hk)
    exact exprKids_list _ _ (hAsk _) R t w hk hin (by omega) hr hl hne
  · unfold kidsX
    rw [if_neg (by rw [ek]; exact hk)]
    exact exprKids_other t w hk
set_option maxHeartbeats 1000000 in
theorem kids_any4 (t : T) (w : World) (hin : In w t) (hm : MaxIs w) :
    Calls Tryz.prog 6 #[t.val] w fun e w' => ∃ v, ∃ q : Int, e = .returned (.tuple #[v, .int .i64 q]) ∧ (q = 0 ↔ (validF t.form && okX t.form) = true) ∧ OwnI w.heap.size w w' v (if (validF t.form && okX t.form) = true then kidsX t.form else []) := by
  have HX := Lib.hid fun (W : World) (h : Below w.heap.size w W) => expr_any t W (hin.below h) (hm.below h)
  have HK := Lib.hid fun (W : World) (h : Below w.heap.size w W) (hok : (validF t.form && okX t.form) = true) => exprKids_any t W (hin.below h) (Bool.and_eq_true_iff.1 hok).1 (Bool.and_eq_true_iff.1 hok).2
  obtain ⟨ok, hok⟩ : ∃ ok, (validF t.form && okX t.form) = ok := ⟨_, rfl⟩
  rw [hok] at HX HK ⊢
  clear hin hm hok
  cases ok with
  | true =>
    have HKK := Lib.hid fun (W : World) (h : Below w.heap.size w W) => HK.out W h rfl
    clear HK
    go_enter Tryz.func6, Tryz.ntmps6
    go_wp2_with (first
      | (go_at_call 26; refine (HX.out _ (bel1 _ _)).mono ?_; rintro e w2 ⟨⟨q, rfl, hq⟩, hB⟩; obtain rfl := hq.2 rfl; have hbx := (hB.block w.heap.size (by simp)).trans (Box4.new w t); obtain ⟨b0, b1, b2, b3⟩ := Box4.cells (w := w2) (b := w.heap.size) (t := t) hbx; have HB := Lib.hid (up (bel1 _ _) hB); clear hB hq hbx)
      | (go_at_call 29; refine (HKK.out _ HB.out).mono ?_; rintro e w3 ⟨v3, rfl, ho⟩; have HO := Lib.hid ho; clear ho))
    refine bodyPost_ret (v := .tuple #[v3, .int .i64 0]) (by simp [results, Tryz.results6, go_sem]) rfl ⟨_, _, rfl, rfl, ?_⟩
    exact HO.out.lower HB.out.size (up HB.out HO.out.below)
  | false =>
    go_enter Tryz.func6, Tryz.ntmps6
    go_wp2_with (first
      | (go_at_call 26; refine (HX.out _ (bel1 _ _)).mono ?_; rintro e w2 ⟨⟨q, rfl, hq⟩, hB⟩; have hqn : ¬ q = 0 := (fun h => absurd (hq.1 h) (by simp)); have hq0 : (q == 0) = false := (beq_eq_false_iff_ne.2 hqn); have HQN := Lib.hid hqn; clear hqn; have HB := Lib.hid (up (bel1 _ _) hB); clear hB hq))
    all_goals
      refine bodyPost_ret (v := .tuple #[.slice none 0 0, _]) (by simp [results, Tryz.results6, go_sem]; rfl) rfl ⟨_, _, rfl, by decide, ?_⟩
      exact (OwnI.start (B := w2.heap.size) (w := w2) (Nat.le_refl _)).lower HB.out.size HB.out
end Go.Proofs.YtmlfiopbdlaaaaaGreat
