/- The document's own put. -/
import Derived.Test.YtkcckhchlhmhhaaDoorRPut0
import Derived.Deep.RegionHeld3
namespace Go.Proofs.YtkcckhchlhmhhaaDoor
open Go.RowKit Go.Deep

/-- The cells that are read whatever the order. -/
abbrev HeldP (W : World) (w : World) (g : T) (g0 n cap pb po : Nat) (j : Int) : Prop :=
  W.cell? ⟨w.heap.size, 3, none⟩ = some (.slice (some ⟨g0, 0, none⟩) n cap) ∧ W.cell? ⟨pb, po, none⟩ = some (.int .i64 j) ∧
    (W.cell? ⟨w.heap.size + 1, 0, none⟩ = some (.int .i64 g.kd) ∧ W.cell? ⟨w.heap.size + 1, 1, none⟩ = some (.int .i64 g.nn) ∧ W.cell? ⟨w.heap.size + 1, 2, none⟩ = some (.string g.tx) ∧ W.cell? ⟨w.heap.size + 1, 3, none⟩ = some (.slice g.ad g.ks.length g.cp))
theorem RPut.held {w W : World} {t g : T} {us : List T} {g0 cap pb po : Nat} {j : Int} (h : RPut w W t g us g0 cap) (hp : ∀ W, Below w.heap.size w W → W.cell? ⟨pb, po, none⟩ = some (.int .i64 j)) : HeldP W w g g0 t.ks.length cap pb po j := by
  obtain ⟨_, _, _, c3, _⟩ := h.bt.facts
  obtain ⟨d0, d1, d2, d3, _⟩ := h.bg.facts
  exact ⟨c3, hp W h.below, d0, d1, d2, d3⟩
theorem RPut.heldS {w W : World} {t g : T} {us : List T} {g0 cap pb po : Nat} {j : Int} (h : RPut w W t g us g0 cap) (hp : ∀ W, Below w.heap.size w W → W.cell? ⟨pb, po, none⟩ = some (.int .i64 j)) (o : Nat) (u0 u1 u2 u3 : Value) : HeldP (layAt W g0 o u0 u1 u2 u3) w g g0 t.ks.length cap pb po j := by
  have hge := h.ge
  have hb : Below w.heap.size w (layAt W g0 o u0 u1 u2 u3) := (((h.below.setCell (p := ⟨g0, o, none⟩) (by show w.heap.size ≤ g0; omega) _).setCell (p := ⟨g0, o + 1, none⟩) (by show w.heap.size ≤ g0; omega) _).setCell (p := ⟨g0, o + 2, none⟩) (by show w.heap.size ≤ g0; omega) _).setCell (p := ⟨g0, o + 3, none⟩) (by show w.heap.size ≤ g0; omega) _
  have e1 : Blk4 (layAt W g0 o u0 u1 u2 u3) w.heap.size (.int .i64 t.kd) (.int .i64 t.nn) (.string t.tx) (.slice (some ⟨g0, 0, none⟩) t.ks.length cap) := (layAt_other (by omega) _ _ _ _).trans h.bt
  have e2 : Blk4 (layAt W g0 o u0 u1 u2 u3) (w.heap.size + 1) (.int .i64 g.kd) (.int .i64 g.nn) (.string g.tx) (.slice g.ad g.ks.length g.cp) := (layAt_other (by omega) _ _ _ _).trans h.bg
  obtain ⟨_, _, _, c3, _⟩ := e1.facts
  obtain ⟨d0, d1, d2, d3, _⟩ := e2.facts
  exact ⟨c3, hp _ hb, d0, d1, d2, d3⟩

set_option linter.unusedSimpArgs false in
set_option maxHeartbeats 8000000 in
set_option maxRecDepth 100000 in
theorem rput_any (g : T) (hgb : bkF g.form ≤ 2000000) : ∀ (ps : List Int) (t : T) (pa : Option Addr) (pc : Nat) (w : World), In w t → In w g → InP w pa ps → ps.length ≤ pc → pc ≤ maxLen → bkF t.form ≤ 2000000 → (atF t.form ps).isSome = true →
    Calls Tryd.prog 56 #[t.val, .slice pa ps.length pc, g.val] w fun e w' => FreshEnd w w' (putF ps t.form g.form) e := by
  intro ps
  induction ps with
  | nil =>
    intro t pa pc w hin hg hp hl hc hbk hat
    have K0 := Lib.hid (Pub3.start w t g)
    have HO := Lib.hid fun W (h : In W g) => own_T g W h hgb
    have HG := Lib.hid hg
    clear hin hg hp hat hbk
    go_enter Tryd.func56, Tryd.ntmps56
    go_wp2_with (go_at_call 54; refine (HO.out _ (HG.out.below K0.out.below)).mono ?_; rintro e w2 ⟨u, rfl, hu, hi, hf, _, _, hB⟩; have KK := Lib.hid (K0.out.next hB); obtain ⟨c0, c1, c2, c3, y0, y1, y2, y3⟩ := KK.out.br.facts; have HU := Lib.hid hu; have HI := Lib.hid hi; have HF := Lib.hid hf; clear hu hi hf hB)
    refine bodyPost_ret (v := u.val) (by simp [results, Tryd.results56, go_sem, c0, c1, c2, c3]) rfl ?_
    have hsz := K0.out.size
    refine ⟨u, rfl, HU.out, HI.out.same _ (Nat.lt_succ_self _) fun b hb => ?_, fun b hb => by have := HF.out b hb; omega, below_lay4 KK.out.below (by omega) _ _ _ _⟩
    have hne : b ≠ w.heap.size + 1 + 1 := by have := HF.out b hb; omega
    rw [Below.heap_setCell _ _ _ _ hne, Below.heap_setCell _ _ _ _ hne, Below.heap_setCell _ _ _ _ hne, Below.heap_setCell _ _ _ _ hne]
  | cons i p ih =>
    intro t pa pc w hin hg hp hl hc hbk hat
    have hk : 0 ≤ i ∧ i.toNat < t.form.kids.length := by
      unfold atF at hat
      split at hat
      · assumption
      · simp at hat
    have hkd : t.kd = 3 := by
      have h2 := hk.2
      unfold Fm.kids at h2
      rw [T.form_kd] at h2
      by_cases h : t.kd = 3
      · exact h
      · rw [if_neg h] at h2; simp at h2
    have hks : t.ks.map T.form = t.form.kids := by rw [Fm.kids, T.form_kd, if_pos hkd, T.form_ks]
    obtain ⟨j, rfl⟩ := Int.eq_ofNat_of_zero_le hk.1
    have hj : j < t.ks.length := by
      have h2 := hk.2
      rw [← hks] at h2
      simpa using h2
    rw [atF_cons hks j hj] at hat
    have hlen := bk_len (t := t)
    have hl6 : t.ks.length ≤ 1000000 := by omega
    have hbkk := bk_kid hj
    obtain ⟨pb, po, rfl, hpc⟩ := hp 0 (by simp)
    simp only [Nat.add_zero, List.getElem_cons_zero] at hpc
    have hpl := World.block_lt_of_cell? _ _ hpc
    have HPC := Lib.hid fun W (h : Below w.heap.size w W) => (h.cell (p := ⟨pb, po, none⟩) hpl).trans hpc
    obtain ⟨A, hA, HPA⟩ : ∃ A, (if pc = 1 then some (⟨pb, po, none⟩ : Addr) else some ⟨pb, po + 1, none⟩) = some A ∧ Hid (∀ W, Below w.heap.size w W → InP W (some A) p) := by
      by_cases h1 : pc = 1
      · exact ⟨⟨pb, po, none⟩, by rw [if_pos h1], Lib.hid fun W _ k hk => by simp at hl; omega⟩
      · refine ⟨⟨pb, po + 1, none⟩, by rw [if_neg h1], Lib.hid fun W hB k hk => ?_⟩
        obtain ⟨b', o', e, hc'⟩ := (hp.below hB) (k + 1) (by simpa using hk)
        injection e with e
        injection e with e1 e2 e3
        subst e1 e2
        refine ⟨pb, po + 1, rfl, ?_⟩
        rw [show po + 1 + k = po + (k + 1) by omega]
        simpa using hc'
    have hl' : p.length + 1 ≤ pc := by simpa using hl
    have HIH : Hid (∀ (x : T) W, x.form = t.ks[j].form → In W x → Below w.heap.size w W → Calls Tryd.prog 56 #[x.val, .slice (some A) p.length (pc - 1), g.val] W fun e w' => FreshEnd W w' (putF p x.form g.form) e) :=
      Lib.hid fun x W hx hi hB => ih x (some A) (pc - 1) W hi (hg.below hB) (HPA.out W hB) (by omega) (by omega) (by rw [hx]; omega) (by rw [hx]; exact hat)
    have n0 : 0 < t.ks.length := by omega
    have HO := Lib.hid fun W (h : In W t) => (own_T t W h hbk).mono fun e w' hh => ownK_of hh n0
    have K0 := Lib.hid (Pub3.start w t g)
    have HIN := Lib.hid hin
    have p1 : (1 : Int) ≤ (p.length : Int) + 1 := by omega
    have p2 : 1 ≤ p.length + 1 := by omega
    clear hin hg hks hkd hat ih hp hk hpl hbk hlen hbkk
    go_enter Tryd.func56, Tryd.ntmps56
    go_wp2_with (go_at_call 54; refine (HO.out _ (HIN.out.below K0.out.below)).mono ?_; rintro e w2 ⟨g0, cap, us, rfl, hul, huf, hui, huc, huo, hB⟩; obtain ⟨c0, c1, c2, c3, y0, y1, y2, y3⟩ := (K0.out.next hB).bt.facts; have HP := Lib.hid (RPut.start K0.out hB hul huf hui huc huo); clear huf hui huc huo hB)
    replace HP : Hid (RPut w ((((w2.setCell ⟨w.heap.size, 0, none⟩ (.int .i64 t.kd)).setCell ⟨w.heap.size, 1, none⟩ (.int .i64 t.nn)).setCell ⟨w.heap.size, 2, none⟩ (.string t.tx)).setCell ⟨w.heap.size, 3, none⟩ (.slice (some ⟨g0, 0, none⟩) t.ks.length cap)) t g us g0 cap) := HP
    generalize hW1 : ((((w2.setCell ⟨w.heap.size, 0, none⟩ (.int .i64 t.kd)).setCell ⟨w.heap.size, 1, none⟩ (.int .i64 t.nn)).setCell ⟨w.heap.size, 2, none⟩ (.string t.tx)).setCell ⟨w.heap.size, 3, none⟩ (.slice (some ⟨g0, 0, none⟩) t.ks.length cap)) = W1 at *
    clear c0 c1 c2 c3 y0 y1 y2 y3 hW1 w2
    have hju : j < us.length := by omega
    have hjf : us[j].form = t.ks[j].form := by
      have h1 := congrArg (fun l => l[j]?) HP.out.forms
      simp only [List.getElem?_map, List.getElem?_eq_getElem hju, List.getElem?_eq_getElem hj, Option.map_some, Option.some.injEq] at h1
      exact h1
    have HJF := Lib.hid hjf
    have hp2 := HPC.out _ HP.out.below
    obtain ⟨k0, k1, k2, k3, q0, q1, q2, q3⟩ := HP.out.cells j hju
    obtain ⟨b0, b1, b2, b3, z0, z1, z2, z3⟩ := HP.out.bg.facts
    obtain ⟨d0, d1, d2, d3, x0, x1, x2, x3⟩ := HP.out.bt.facts
    clear hjf
    have HPD := Lib.hid (HP.out.next (Below.refl _ _).drew)
    refine wp_region_held_drew (S := fun W => HeldP W w g g0 t.ks.length cap pb po (j : Int)) (by kernel_rfl) (HPD.out.held HPC.out) (fun hHeld => ?_)
    refine wpAnyH_take (i := 0) (v := ?_) rfl (by kernel_rfl) (by kernel_rfl) (by kernel_rfl) (fun _ _ _ h => h) (Or.inl ⟨by rfl, ?_⟩) (by assumption) ?_
    rotate_left
    · intro W hSw
      obtain ⟨s0, s1, s2, s3, s4, s5⟩ := hSw
      go_simp
      try with_reducible rfl
    try simp only [Act.put, List.setIfInBounds_toArray, List.set_cons_zero, List.set_cons_succ]
    refine wpAnyH_take (i := 1) (v := ?_) rfl (by kernel_rfl) (by kernel_rfl) (by kernel_rfl) (fun _ _ _ h => h) (Or.inl ⟨by rfl, ?_⟩) (by assumption) ?_
    rotate_left
    · intro W hSw
      obtain ⟨s0, s1, s2, s3, s4, s5⟩ := hSw
      go_simp
      try with_reducible rfl
    try simp only [Act.put, List.setIfInBounds_toArray, List.set_cons_zero, List.set_cons_succ]
    refine wpAnyH_take (i := 2) (v := ?_) rfl (by kernel_rfl) (by kernel_rfl) (by kernel_rfl) (fun _ _ _ h => h) (Or.inl ⟨by rfl, ?_⟩) (by assumption) ?_
    rotate_left
    · intro W hSw
      obtain ⟨s0, s1, s2, s3, s4, s5⟩ := hSw
      go_simp
      try with_reducible rfl
    try simp only [Act.put, List.setIfInBounds_toArray, List.set_cons_zero, List.set_cons_succ]
    refine wpAnyH_take (i := 3) (v := ?_) rfl (by kernel_rfl) (by kernel_rfl) (by kernel_rfl) (fun _ _ _ h => h) (Or.inl ⟨by rfl, ?_⟩) (by assumption) ?_
    rotate_left
    · intro W hSw
      obtain ⟨s0, s1, s2, s3, s4, s5⟩ := hSw
      go_simp
      try with_reducible rfl
    try simp only [Act.put, List.setIfInBounds_toArray, List.set_cons_zero, List.set_cons_succ]
    refine wpAnyH_take (i := 4) (v := ?_) rfl (by kernel_rfl) (by kernel_rfl) (by kernel_rfl) (fun _ _ _ h => h) (Or.inl ⟨by rfl, ?_⟩) (by assumption) ?_
    rotate_left
    · intro W hSw
      obtain ⟨s0, s1, s2, s3, s4, s5⟩ := hSw
      go_simp
      try with_reducible rfl
    try simp only [Act.put, List.setIfInBounds_toArray, List.set_cons_zero, List.set_cons_succ]
    refine wpAnyH_take (i := 5) (v := ?_) rfl (by kernel_rfl) (by kernel_rfl) (by kernel_rfl) (fun _ _ _ h => h) (Or.inl ⟨by rfl, ?_⟩) (by assumption) ?_
    rotate_left
    · intro W hSw
      obtain ⟨s0, s1, s2, s3, s4, s5⟩ := hSw
      go_simp
      try with_reducible rfl
    try simp only [Act.put, List.setIfInBounds_toArray, List.set_cons_zero, List.set_cons_succ]
    refine wpAnyH_take (i := 6) (v := ?_) rfl (by kernel_rfl) (by kernel_rfl) (by kernel_rfl) (fun _ _ _ h => h) (Or.inl ⟨by rfl, ?_⟩) (by assumption) ?_
    rotate_left
    · intro W hSw
      obtain ⟨s0, s1, s2, s3, s4, s5⟩ := hSw
      go_simp
      try with_reducible rfl
    try simp only [Act.put, List.setIfInBounds_toArray, List.set_cons_zero, List.set_cons_succ]
    refine wpAnyH_take (i := 7) (v := ?_) rfl (by kernel_rfl) (by kernel_rfl) (by kernel_rfl) (fun _ _ _ h => h) (Or.inl ⟨by rfl, ?_⟩) (by assumption) ?_
    rotate_left
    · intro W hSw
      obtain ⟨s0, s1, s2, s3, s4, s5⟩ := hSw
      go_simp
      try with_reducible rfl
    try simp only [Act.put, List.setIfInBounds_toArray, List.set_cons_zero, List.set_cons_succ]
    refine wpAnyH_take (i := 8) (v := ?_) rfl (by kernel_rfl) (by kernel_rfl) (by kernel_rfl) (fun _ _ _ h => h) (Or.inl ⟨by rfl, ?_⟩) (by assumption) ?_
    rotate_left
    · intro W hSw
      obtain ⟨s0, s1, s2, s3, s4, s5⟩ := hSw
      go_simp
      try with_reducible rfl
    try simp only [Act.put, List.setIfInBounds_toArray, List.set_cons_zero, List.set_cons_succ]
    refine wpAnyH_take (i := 9) (v := ?_) rfl (by kernel_rfl) (by kernel_rfl) (by kernel_rfl) (fun _ _ _ h => h) (Or.inl ⟨by rfl, ?_⟩) (by assumption) ?_
    rotate_left
    · intro W hSw
      obtain ⟨s0, s1, s2, s3, s4, s5⟩ := hSw
      go_simp
      try with_reducible rfl
    try simp only [Act.put, List.setIfInBounds_toArray, List.set_cons_zero, List.set_cons_succ]
    refine wpAnyH_take (i := 10) (v := ?_) rfl (by kernel_rfl) (by kernel_rfl) (by kernel_rfl) (fun _ _ _ h => h) (Or.inl ⟨by rfl, ?_⟩) (by assumption) ?_
    rotate_left
    · intro W hSw
      obtain ⟨s0, s1, s2, s3, s4, s5⟩ := hSw
      go_simp
      try with_reducible rfl
    try simp only [Act.put, List.setIfInBounds_toArray, List.set_cons_zero, List.set_cons_succ]
    refine wpAnyH_take (i := 12) (v := ?_) rfl (by kernel_rfl) (by kernel_rfl) (by kernel_rfl) (fun _ _ _ h => h) (Or.inl ⟨by rfl, ?_⟩) (by assumption) ?_
    rotate_left
    · intro W hSw
      obtain ⟨s0, s1, s2, s3, s4, s5⟩ := hSw
      go_simp
      try with_reducible rfl
    try simp only [Act.put, List.setIfInBounds_toArray, List.set_cons_zero, List.set_cons_succ]
    refine wpAnyH_take (i := 13) (v := ?_) rfl (by kernel_rfl) (by kernel_rfl) (by kernel_rfl) (fun _ _ _ h => h) (Or.inl ⟨by rfl, ?_⟩) (by assumption) ?_
    rotate_left
    · intro W hSw
      obtain ⟨s0, s1, s2, s3, s4, s5⟩ := hSw
      go_simp
      try with_reducible rfl
    try simp only [Act.put, List.setIfInBounds_toArray, List.set_cons_zero, List.set_cons_succ]
    refine wpAnyH_take (i := 14) (v := ?_) rfl (by kernel_rfl) (by kernel_rfl) (by kernel_rfl) (fun _ _ _ h => h) (Or.inl ⟨by rfl, ?_⟩) (by assumption) ?_
    rotate_left
    · intro W hSw
      obtain ⟨s0, s1, s2, s3, s4, s5⟩ := hSw
      go_simp
      try with_reducible rfl
    try simp only [Act.put, List.setIfInBounds_toArray, List.set_cons_zero, List.set_cons_succ]
    refine wpAnyH_ready (rs := [11]) (by kernel_rfl) (by simp) ?_
    refine AllReadyH.cons rfl (fun K hK => ?_) AllReadyH.nil
    go_simp
    refine hK.out _ _ (HPD.out.held HPC.out) (fun hHeld => ?_)
    clear hK K
    try simp only [Act.put, List.setIfInBounds_toArray, List.set_cons_zero, List.set_cons_succ]
    refine wpAnyH_ready (rs := [15]) (by kernel_rfl) (by simp) ?_
    refine AllReadyH.cons rfl (fun K hK => ?_) AllReadyH.nil
    go_simp
    go_at_call 56
    refine (HIH.out us[j] _ HJF.out (HPD.out.ins _ (List.getElem_mem hju)) HPD.out.below).mono ?_
    rintro e w3 ⟨v, rfl, hv, hvi, hvo, hB3⟩
    have HP3 := Lib.hid (HPD.out.next hB3)
    obtain ⟨k0, k1, k2, k3, q0, q1, q2, q3⟩ := HP3.out.cells j hju
    have HV := Lib.hid hv
    have HVI := Lib.hid hvi
    have HVO := Lib.hid hvo
    clear hv hvi hvo hB3
    go_wp2_with fail
    refine hK.out _ _ (HP3.out.held HPC.out) (fun hHeld => ?_)
    clear hK K
    try simp only [Act.put, List.setIfInBounds_toArray, List.set_cons_zero, List.set_cons_succ]
    refine wpAnyH_take (i := 16) (v := ?_) rfl (by kernel_rfl) (by kernel_rfl) (by kernel_rfl) (fun _ _ _ h => h) (Or.inl ⟨by rfl, ?_⟩) (by assumption) ?_
    rotate_left
    · intro W hSw
      obtain ⟨s0, s1, s2, s3, s4, s5⟩ := hSw
      go_simp
      try with_reducible rfl
    try simp only [Act.put, List.setIfInBounds_toArray, List.set_cons_zero, List.set_cons_succ]
    refine wpAnyH_ready (rs := [17]) (by kernel_rfl) (by simp) ?_
    refine AllReadyH.cons rfl (fun K hK => ?_) AllReadyH.nil
    go_simp
    refine hK.out _ _ (HP3.out.heldS HPC.out _ _ _ _ _) (fun hHeld => ?_)
    clear hK K
    try simp only [Act.put, List.setIfInBounds_toArray, List.set_cons_zero, List.set_cons_succ]
    refine wpAnyH_done (by kernel_rfl) ?_ _
    have hs0 := HP3.out.store j hju v HVI.out (fun b hb => by
      have h1 := HVO.out b hb
      have h2 := HPD.out.lt
      have h3 := HPD.out.ge
      simp only [World.size_drew] at h1 h2
      omega)
    clear k0 k1 k2 k3 q0 q1 q2 q3 b0 b1 b2 b3 z0 z1 z2 z3 d0 d1 d2 d3 x0 x1 x2 x3
    generalize hW4 : (((w3.setCell ⟨g0, j * 4, none⟩ (.int .i64 v.kd)).setCell ⟨g0, j * 4 + 1, none⟩ (.int .i64 v.nn)).setCell ⟨g0, j * 4 + 2, none⟩ (.string v.tx)).setCell ⟨g0, j * 4 + 3, none⟩ (.slice v.ad v.ks.length v.cp) = W4
    have hs : RDone w W4 t (us.set j v) g0 cap := by rw [← hW4]; exact hs0
    clear hs0 hW4 hHeld
    obtain ⟨d0, d1, d2, d3, x0, x1, x2, x3⟩ := hs.bt.facts
    obtain ⟨c0, c1, c2, c3, y0, y1, y2, y3⟩ := hs.br.facts
    have HS := Lib.hid hs
    clear hs
    go_wp2_with fail
    refine bodyPost_ret (v := .agg #[.int .i64 t.kd, .int .i64 t.nn, .string t.tx, .slice (some ⟨g0, 0, none⟩) t.ks.length cap]) (by simp [results, Tryd.results56, go_sem, c0, c1, c2, c3]) rfl ?_
    exact rput_done HS.out HIN.out hl6 (rput_form HP.out.forms hju HV.out _ _) _ _ _ _
end Go.Proofs.YtkcckhchlhmhhaaDoor
