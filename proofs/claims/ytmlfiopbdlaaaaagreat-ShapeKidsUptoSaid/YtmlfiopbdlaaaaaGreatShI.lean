/- Lists with a head. -/
import Derived.Test.YtmlfiopbdlaaaaaGreatShH
namespace Go.Proofs.YtmlfiopbdlaaaaaGreat
open Go.RowKit Go.Deep
variable {S : Nat → Prop}
set_option linter.unusedSimpArgs false in
set_option maxHeartbeats 2000000 in
theorem behind1_any (n : Nat) (R : RS) (rv0 rv1 rv2 : Value) (B : Nat) (t : T) (w : World) (hm : MaxIs w) (hR : RowIs n S w (.agg #[rv0, rv1, rv2]) R) (hl : R.front.length ≤ 1000) (hl2 : R.back.length ≤ 1000)
    (h1 : w.heap[B]? = some (.cells #[rv0, rv1, rv2] 68 (0, 0))) (hin : In w t) (ha : Asked n t) (hk : t.form.kd = 3) (hne : t.form.ks ≠ []) :
    Calls Tryz.prog 192 #[t.val, .pointer (some ⟨B, 0, none⟩)] w fun e w' => AnsB (R.ok (t.form.ks.drop 1)) e ∧ Below w.heap.size w w' := by
  have e : t.ks.map T.form = t.form.ks := (T.form_ks t).symm
  obtain ⟨x, r, hks⟩ : ∃ x r, t.ks = x :: r := by
    cases h : t.ks with
    | nil => rw [h] at e; exact absurd e.symm hne
    | cons x r => exact ⟨x, r, rfl⟩
  have e2 : t.form.ks.drop 1 = r.map T.form := by rw [← e, hks]; rfl
  have hlen := ha.len hk
  have hcap := hin.ok.le
  have hcp := hin.ok.cp
  unfold maxLen at hcp
  have hInL := hin.inL
  rw [hks] at hInL hlen hcap
  obtain ⟨b, o, had, _⟩ := (hInL.at 0 (by simp)).1
  have HA := Lib.hid fun (W : World) (h : Below w.heap.size w W) (a : Option Addr) (c : Nat) (hi : InL W a 0 r) => ask_any n _ R a c r W (hm.below h) (hR.below h) (by omega) (by omega) hi (by simp at hlen; omega) (fun u hu => ha.kid hk (by rw [hks]; exact List.mem_cons_of_mem _ hu))
  have HI := Lib.hid fun (W : World) (h : Below w.heap.size w W) => (InL_mk fun j hj => by
    have := InL_get (hInL.below h) (j + 1) (by simpa using hj)
    obtain ⟨⟨b', o', ha', hc⟩, hi⟩ := this
    rw [had] at ha'
    injection ha' with ha'; injection ha' with q1 q2 q3; subst q1 q2
    exact ⟨⟨b, o + 4, rfl, by simpa [Nat.add_mul, Nat.add_assoc, Nat.add_comm, Nat.add_left_comm] using hc⟩, by simpa using hi⟩ : InL W (some ⟨b, o + 4, none⟩) 0 r)
  have x0 := cell_block h1 (j := 0) (v := rv0) rfl
  have x1 := cell_block h1 (j := 1) (v := rv1) rfl
  have x2 := cell_block h1 (j := 2) (v := rv2) rfl
  have lb1 := lt_of_block h1
  obtain ⟨fa, fc, ba, bc, m, hv, _⟩ := hR
  rw [e2]
  obtain ⟨res, hr⟩ : ∃ res, R.ok (r.map T.form) = res := ⟨_, rfl⟩
  rw [hr] at HA ⊢
  have hval : t.val = .agg #[.int .i64 t.kd, .int .i64 t.nn, .string t.tx, .slice (some ⟨b, o, none⟩) (r.length + 1) t.cp] := by
    rw [T.val, had, hks]; rfl
  rw [hval]
  clear e e2 hin ha hk hl hl2 hr h1 hval hne had
  injection hv with hv
  obtain ⟨rfl, rfl, rfl⟩ : rv0 = .slice fa R.front.length fc ∧ rv1 = .slice ba R.back.length bc ∧ rv2 = .pointer m := by simpa using hv
  clear hv
  have mixed : Tryz.prog.follows .mixedOrders = true := by kernel_rfl
  go_enter Tryz.func192, Tryz.ntmps192
  go_wp2_with fail
  obtain ⟨cp, hcpe⟩ : ∃ cp, t.cp = cp := ⟨_, rfl⟩
  rw [hcpe] at hcap hcp ⊢
  have hc1 : r.length + 1 ≤ cp := by simpa using hcap
  clear hcap hlen hInL hcpe hks
  have HX := Lib.hid (fun (W : World) (h : Below (w.alloc (Obj.cells #[.int .i64 t.kd, .int .i64 t.nn, .string t.tx, .slice (some ⟨b, o, none⟩) (r.length + 1) cp] 24)).heap.size (w.alloc (Obj.cells #[.int .i64 t.kd, .int .i64 t.nn, .string t.tx, .slice (some ⟨b, o, none⟩) (r.length + 1) cp] 24)) W) => (⟨⟨(h.cell (p := ⟨B, 0, none⟩) (by simp; omega)).trans ((World.cell?_alloc_lt w _ ⟨B, 0, none⟩ lb1).trans x0), (h.cell (p := ⟨B, 1, none⟩) (by simp; omega)).trans ((World.cell?_alloc_lt w _ ⟨B, 1, none⟩ lb1).trans x1), (h.cell (p := ⟨B, 2, none⟩) (by simp; omega)).trans ((World.cell?_alloc_lt w _ ⟨B, 2, none⟩ lb1).trans x2)⟩, cell_block ((h.block w.heap.size (by simp)).trans (heap_alloc_new _ _)) rfl, cell_block ((h.block w.heap.size (by simp)).trans (heap_alloc_new _ _)) rfl, cell_block ((h.block w.heap.size (by simp)).trans (heap_alloc_new _ _)) rfl, cell_block ((h.block w.heap.size (by simp)).trans (heap_alloc_new _ _)) rfl⟩ : (W.cell? ⟨B, 0, none⟩ = some (.slice fa R.front.length fc) ∧ W.cell? ⟨B, 1, none⟩ = some (.slice ba R.back.length bc) ∧ W.cell? ⟨B, 2, none⟩ = some (.pointer m)) ∧ W.cell? ⟨w.heap.size, 0, none⟩ = some (.int .i64 t.kd) ∧ W.cell? ⟨w.heap.size, 1, none⟩ = some (.int .i64 t.nn) ∧ W.cell? ⟨w.heap.size, 2, none⟩ = some (.string t.tx) ∧ W.cell? ⟨w.heap.size, 3, none⟩ = some (.slice (some ⟨b, o, none⟩) (r.length + 1) cp)))
  refine wp_region_held_drew (S := fun W => (W.cell? ⟨B, 0, none⟩ = some (.slice fa R.front.length fc) ∧ W.cell? ⟨B, 1, none⟩ = some (.slice ba R.back.length bc) ∧ W.cell? ⟨B, 2, none⟩ = some (.pointer m)) ∧ W.cell? ⟨w.heap.size, 0, none⟩ = some (.int .i64 t.kd) ∧ W.cell? ⟨w.heap.size, 1, none⟩ = some (.int .i64 t.nn) ∧ W.cell? ⟨w.heap.size, 2, none⟩ = some (.string t.tx) ∧ W.cell? ⟨w.heap.size, 3, none⟩ = some (.slice (some ⟨b, o, none⟩) (r.length + 1) cp)) mixed (HX.out _ (Below.refl _ _).drew) (fun hHeld => ?_)
  try simp only [Act.put, List.setIfInBounds_toArray, List.set_cons_zero, List.set_cons_succ]
  refine wpAnyH_take (i := 0) (v := ?_) rfl (by kernel_rfl) (by kernel_rfl) (by kernel_rfl) (fun _ _ _ h => h) (Or.inl ⟨by rfl, ?_⟩) (by assumption) ?_
  rotate_left
  · intro W hSw
    obtain ⟨⟨q0, q1, q2⟩, q3, q4, q5, q6⟩ := hSw
    go_simp
    try with_reducible rfl
  try simp only [Act.put, List.setIfInBounds_toArray, List.set_cons_zero, List.set_cons_succ]
  refine wpAnyH_take (i := 1) (v := ?_) rfl (by kernel_rfl) (by kernel_rfl) (by kernel_rfl) (fun _ _ _ h => h) (Or.inl ⟨by rfl, ?_⟩) (by assumption) ?_
  rotate_left
  · intro W hSw
    obtain ⟨⟨q0, q1, q2⟩, q3, q4, q5, q6⟩ := hSw
    go_simp
    try with_reducible rfl
  try simp only [Act.put, List.setIfInBounds_toArray, List.set_cons_zero, List.set_cons_succ]
  refine wpAnyH_take (i := 2) (v := ?_) rfl (by kernel_rfl) (by kernel_rfl) (by kernel_rfl) (fun _ _ _ h => h) (Or.inl ⟨by rfl, ?_⟩) (by assumption) ?_
  rotate_left
  · intro W hSw
    obtain ⟨⟨q0, q1, q2⟩, q3, q4, q5, q6⟩ := hSw
    go_simp
    try with_reducible rfl
  try simp only [Act.put, List.setIfInBounds_toArray, List.set_cons_zero, List.set_cons_succ]
  have hle : (1 : Int) ≤ (r.length : Int) + 1 := by omega
  refine wpAnyH_take (i := 3) (v := .slice (if cp = 1 then some ⟨b, o, none⟩ else some ⟨b, o + 4, none⟩) r.length (cp - 1)) rfl (by kernel_rfl) (by kernel_rfl) (by kernel_rfl) (fun _ _ _ h => h) (Or.inl ⟨by rfl, ?_⟩) (by assumption) ?_
  · intro W hSw
    obtain ⟨⟨q0, q1, q2⟩, q3, q4, q5, q6⟩ := hSw
    go_simp
    try with_reducible rfl
  try simp only [Act.put, List.setIfInBounds_toArray, List.set_cons_zero, List.set_cons_succ]
  have HIA := Lib.hid fun (W : World) (h : Below w.heap.size w W) => (by
    by_cases h1 : cp = 1
    · have : r = [] := List.length_eq_zero_iff.1 (by omega)
      subst this
      simp [InL]
    · rw [if_neg h1]; exact HI.out W h : InL W (if cp = 1 then some ⟨b, o, none⟩ else some ⟨b, o + 4, none⟩) 0 r)
  obtain ⟨aa, haa⟩ : ∃ aa, (if cp = 1 then some (⟨b, o, none⟩ : Addr) else some ⟨b, o + 4, none⟩) = aa := ⟨_, rfl⟩
  rw [haa] at HIA ⊢
  obtain ⟨cc, hcc⟩ : ∃ cc, cp - 1 = cc := ⟨_, rfl⟩
  rw [hcc]
  refine wpAnyH_ready (rs := [4]) (by kernel_rfl) (by simp) ?_
  refine AllReadyH.cons rfl (fun K9 hK9 => ?_) AllReadyH.nil
  go_simp
  cases res with
  | true =>
    go_at_call 80
    refine (HA.out _ (bel1 _ _).drew _ _ (HIA.out _ (bel1 _ _).drew)).mono ?_
    rintro e w2 ⟨he, hB⟩
    have he := he.yes
    subst he
    have HB := Lib.hid (up (bel1 _ _).drew hB)
    have HB2 := Lib.hid (up (Below.refl _ _).drew hB)
    clear hB
    go_wp2_with fail
    refine hK9.out _ _ (HX.out _ HB2.out) (fun hHeld => ?_)
    clear hK9 K9
    try simp only [Act.put, List.setIfInBounds_toArray, List.set_cons_zero, List.set_cons_succ]
    refine wpAnyH_done (by kernel_rfl) ?_ _
    go_wp2_with fail
    go_end0
    exact ⟨AnsB.ofYes, HB.out⟩
  | false =>
    go_at_call 80
    refine (HA.out _ (bel1 _ _).drew _ _ (HIA.out _ (bel1 _ _).drew)).mono ?_
    rintro e w2 ⟨he, hB⟩
    obtain ⟨c, hc, he⟩ := he.no
    subst he
    exact ⟨rfl, AnsB.ofNo hc, up (bel1 _ _).drew hB⟩
theorem enters_behind1 : Enters Tryz.prog 192 := enters_of Tryz.func192 (by kernel_rfl) rfl
theorem enters_headed1 : Enters Tryz.prog 153 := enters_of Tryz.func153 (by kernel_rfl) rfl
set_option maxHeartbeats 2000000 in
theorem headed1_any (n : Nat) (hs : List ByteArray) (q : Fm → Bool) (va : Value) (B1 B2 b o c : Nat) (t : T) (w : World) (hm : MaxIs w)
    (h1 : w.heap[B1]? = some (.cells #[.slice (some ⟨b, o, none⟩) hs.length c] 30 (0, 0))) (h2 : w.heap[B2]? = some (.cells #[va] 51 (0, 0)))
    (hb : b < w.heap.size) (hw : Words w b o hs) (hlen : hs.length ≤ 1000) (hA : FnA n S w va (fun f => listF f && memB (headF f) hs) q) (hin : In w t) (ha : Asked n t) (hk : t.form.kd = 3) :
    Calls Tryz.prog 153 #[t.val, .pointer (some ⟨B1, 0, none⟩), .pointer (some ⟨B2, 0, none⟩)] w fun e w' => AnsB (memB (headF t.form) hs && q t.form) e ∧ Below w.heap.size w w' := by
  have HH := Lib.hid fun (W : World) (h : Below w.heap.size w W) => hasHead_any t b o c hs W (hin.below h) (Nat.lt_of_lt_of_le hb h.size) (hw.below hb h) hlen
  obtain ⟨K, caps, rfl, eK, hcK⟩ := hA
  have HC := Lib.hid fun (W : World) (h : Below w.heap.size w W) (hq : memB (headF t.form) hs = true) => hcK W h.apart (hm.below h) t (hin.below h) ha (by simp [listF, hk, hq])
  have x1 := cell_block h1 (j := 0) (v := .slice (some ⟨b, o, none⟩) hs.length c) rfl
  have x2 := cell_block h2 (j := 0) (v := .func (.func K) #[] caps) rfl
  have l1 := lt_of_block h1
  have l2 := lt_of_block h2
  have HX := Lib.hid fun (W : World) (h : Below w.heap.size w W) => (⟨(h.cell (p := ⟨B1, 0, none⟩) l1).trans x1, (h.cell (p := ⟨B2, 0, none⟩) l2).trans x2⟩ : W.cell? ⟨B1, 0, none⟩ = _ ∧ W.cell? ⟨B2, 0, none⟩ = _)
  obtain ⟨r, hr⟩ : ∃ r, memB (headF t.form) hs = r := ⟨_, rfl⟩
  obtain ⟨k, hkk⟩ : ∃ k, hs.length = k := ⟨_, rfl⟩
  rw [hr] at HH HC ⊢
  rw [hkk] at HH x1 HX
  unfold Enters at eK
  clear hcK h1 h2 hb hw hlen hin ha hk hr hkk hm
  cases r with
  | false =>
    rw [Bool.false_and]
    go_enter Tryz.func153, Tryz.ntmps153
    go_wp2_with (first
      | (go_at_call 68; refine (HH.out _ (bel1 _ _)).mono ?_; rintro e w1 ⟨rfl, hB⟩; have HB := Lib.hid (up (bel1 _ _) hB); clear hB)
      | (go_at_call 78; refine (must_any _ _ _).mono ?_; rintro e w3 ⟨he, rfl⟩; simp only [AnsE, Bool.false_eq_true, if_false] at he; subst he))
    exact ⟨rfl, AnsB.ofNo (by decide), HB.out⟩
  | true =>
    rw [Bool.true_and]
    obtain ⟨res, hres⟩ : ∃ res, q t.form = res := ⟨_, rfl⟩
    have HCC := Lib.hid fun (W : World) (h : Below w.heap.size w W) => HC.out W h rfl
    rw [hres] at HCC ⊢
    clear HC hres
    have HBX : Hid (∀ W, Below (w.alloc (boxT t)).heap.size (w.alloc (boxT t)) W → (W.cell? ⟨w.heap.size, 0, none⟩ = some (.int .i64 t.kd) ∧ W.cell? ⟨w.heap.size, 1, none⟩ = some (.int .i64 t.nn) ∧ W.cell? ⟨w.heap.size, 2, none⟩ = some (.string t.tx) ∧ W.cell? ⟨w.heap.size, 3, none⟩ = some (.slice t.ad t.ks.length t.cp))) := Lib.hid fun W hW => Box4.cells (w := W) (b := w.heap.size) (t := t) ((hW.block _ (by simp)).trans (Box4.new w t))
    cases res with
    | true =>
      go_enter Tryz.func153, Tryz.ntmps153
      go_wp2_with (first
        | (go_at_call 68; refine (HH.out _ (bel1 _ _)).mono ?_; rintro e w1 ⟨rfl, hB⟩; have HB := Lib.hid (up (bel1 _ _) hB); obtain ⟨y1, y2⟩ := HX.out _ HB.out; obtain ⟨b0, b1, b2, b3⟩ := HBX.out _ hB; have HB0 := Lib.hid hB; clear hB)
        | (go_at_call 78; refine (must_any _ _ _).mono ?_; rintro e w3 ⟨he, rfl⟩; simp only [AnsE, if_true] at he; subst he)
        | (go_at_fn K; refine (HCC.out _ HB.out).mono ?_; rintro e w4 ⟨he, hB⟩; have he := he.yes; subst he; have HB4 := Lib.hid (up HB.out hB); clear hB))
      go_end0
      exact ⟨AnsB.ofYes, HB4.out⟩
    | false =>
      go_enter Tryz.func153, Tryz.ntmps153
      go_wp2_with (first
        | (go_at_call 68; refine (HH.out _ (bel1 _ _)).mono ?_; rintro e w1 ⟨rfl, hB⟩; have HB := Lib.hid (up (bel1 _ _) hB); obtain ⟨y1, y2⟩ := HX.out _ HB.out; obtain ⟨b0, b1, b2, b3⟩ := HBX.out _ hB; have HB0 := Lib.hid hB; clear hB)
        | (go_at_call 78; refine (must_any _ _ _).mono ?_; rintro e w3 ⟨he, rfl⟩; simp only [AnsE, if_true] at he; subst he)
        | (go_at_fn K; refine (HCC.out _ HB.out).mono ?_; rintro e w4 ⟨he, hB⟩; obtain ⟨cc, hcc, he⟩ := he.no; subst he; have HCC2 := Lib.hid hcc; have HB4 := Lib.hid (up HB.out hB); clear hB hcc))
      exact ⟨rfl, AnsB.ofNo HCC2.out, HB4.out⟩
/-- A list with one of some heads, and what is asked of it then. -/
def headedP (hs : List ByteArray) (q : Fm → Bool) : PS := ⟨listF, some (fun f => memB (headF f) hs && q f), false⟩
set_option maxHeartbeats 1000000 in
theorem headed_any (n : Nat) (hs : List ByteArray) (q : Fm → Bool) (va : Value) (b o c : Nat) (w : World) (hS : ∀ b, S b → b < w.heap.size)
    (hb : b < w.heap.size) (hbs : ¬ S b) (hw : Words w b o hs) (hlen : hs.length ≤ 1000) (hA : FnA n S w va (fun f => listF f && memB (headF f) hs) q) :
    Calls Tryz.prog 90 #[va, .slice (some ⟨b, o, none⟩) hs.length c] w (fun e w' => PartEnd n S w w' (headedP hs q) e) := by
  have hmf : ∀ (fn : Fn) (first cap : Array Value) (w : World), (Instr.makeFunc fn first cap).run Tryz.prog w = .ok (.func fn first cap) w := fun _ _ _ _ => rfl
  have HS := Lib.hid hS
  have HA := Lib.hid hA
  have HW := Lib.hid hw
  have HBB := Lib.hid (show b < w.heap.size ∧ ¬ S b from ⟨hb, hbs⟩)
  have HL := Lib.hid hlen
  have HF := Lib.hid (fnT_list (S := S) n w)
  obtain ⟨k, hk⟩ : ∃ k, hs.length = k := ⟨_, rfl⟩
  have HK := Lib.hid hk
  obtain ⟨K, caps, rfl, -, -⟩ := hA
  rw [hk]
  clear hS hb hbs hw hlen hk
  go_enter Tryz.func90, Tryz.ntmps90
  go_wp2_with fail
  refine bodyPost_ret (v := .agg #[.func (.func 62) #[] #[], .func (.func 153) #[] #[.pointer (some ⟨w.heap.size + 1, 0, none⟩), .pointer (some ⟨w.heap.size, 0, none⟩)], .bool false]) (by simp [results, Tryz.results90, go_sem]) rfl ⟨_, _, _, rfl, ⟨HF.out.below (bel3 _ _ _ _), ⟨_, _, rfl, enters_headed1, fun W hW hmW t hin ha hp => ?_⟩, rfl⟩, bel3 _ _ _ _⟩
  have hk : t.form.kd = 3 := by simpa [headedP, listF] using hp
  have e1 : ∀ o o' o'' : Obj, (((w.alloc o).alloc o').alloc o'').heap[w.heap.size]? = some o := fun o o' o'' => (Below.heap_alloc _ _ _ (by simp; omega)).trans ((Below.heap_alloc _ _ _ (by simp)).trans (heap_alloc_new w o))
  have e2 : ∀ o o' o'' : Obj, (((w.alloc o).alloc o').alloc o'').heap[w.heap.size + 1]? = some o' := fun o o' o'' => (Below.heap_alloc _ _ _ (by simp)).trans (heap2 w o o')
  have hb := ((bel3 w _ _ _).apart (S := S)).trans hW
  refine headed1_any (S := S) n hs q _ (w.heap.size + 1) w.heap.size b o c t W hmW ?_ ((hW.block _ (by simp; omega) (fun e => absurd (HS.out _ e) (by omega))).trans (e1 _ _ _)) (Nat.lt_of_lt_of_le HBB.out.1 hb.size) (fun i hi => (hb.cell (p := ⟨b, o + i, none⟩) HBB.out.1 HBB.out.2).trans (HW.out i hi)) HL.out (HA.out.apart hb) hin ha hk
  rw [HK.out]
  exact (hW.block _ (by simp) (fun e => absurd (HS.out _ e) (by omega))).trans (e2 _ _ _)
theorem FnT.re {n : Nat} {S₁ : Nat → Prop} {w : World} {v : Value} {q : Fm → Bool} (h : FnT n S w v q) (hs : ∀ b, b < w.heap.size → S₁ b → S b) : FnT n S₁ w v q := by
  obtain ⟨K, caps, h1, h2, h3⟩ := h
  exact ⟨K, caps, h1, h2, fun W hW => h3 W ⟨hW.size, fun k hk hn => hW.block k hk (fun e => hn (hs k hk e))⟩⟩
theorem FnA.re {n : Nat} {S₁ : Nat → Prop} {w : World} {v : Value} {p q : Fm → Bool} (h : FnA n S w v p q) (hs : ∀ b, b < w.heap.size → S₁ b → S b) : FnA n S₁ w v p q := by
  obtain ⟨K, caps, h1, h2, h3⟩ := h
  exact ⟨K, caps, h1, h2, fun W hW => h3 W ⟨hW.size, fun k hk hn => hW.block k hk (fun e => hn (hs k hk e))⟩⟩
theorem PartIs.re {n : Nat} {S₁ : Nat → Prop} {w : World} {vf vi ve : Value} {p : PS} (h : PartIs n S w vf vi ve p) (hs : ∀ b, b < w.heap.size → S₁ b → S b) : PartIs n S₁ w vf vi ve p := by
  obtain ⟨h1, h2, h3⟩ := h
  refine ⟨h1.re hs, ?_, h3⟩
  cases hp : p.ins with
  | none => rw [hp] at h2; exact h2
  | some q => rw [hp] at h2; exact h2.re hs
theorem PartAt.re {n : Nat} {S₁ : Nat → Prop} {w : World} {b o : Nat} {p : PS} (h : PartAt n S w b o p) (hs : ∀ b, b < w.heap.size → S₁ b → S b) : PartAt n S₁ w b o p := by
  obtain ⟨h0, hb, vf, vi, ve, h1, h2, h3, h4⟩ := h
  exact ⟨h0, fun e => hb (hs b h0 e), vf, vi, ve, h1, h2, h3, h4.re hs⟩
theorem PartsAt.re {n : Nat} {S₁ : Nat → Prop} {w : World} {a : Option Addr} {l : List PS} (h : PartsAt n S w a l) (hs : ∀ b, b < w.heap.size → S₁ b → S b) : PartsAt n S₁ w a l := by
  rcases h with h | ⟨b, o, h1, h2⟩
  · exact .inl h
  · exact .inr ⟨b, o, h1, fun i hi => (h2 i hi).re hs⟩
theorem RowIs.re {n : Nat} {S₁ : Nat → Prop} {w : World} {v : Value} {r : RS} (h : RowIs n S w v r) (hs : ∀ b, b < w.heap.size → S₁ b → S b) : RowIs n S₁ w v r := by
  obtain ⟨fa, fc, ba, bc, m, h1, h2, h3, h4⟩ := h
  refine ⟨fa, fc, ba, bc, m, h1, h2.re hs, h3.re hs, ?_⟩
  cases hm : r.more with
  | none => rw [hm] at h4; exact h4
  | some p => rw [hm] at h4; obtain ⟨b, e, h5⟩ := h4; exact ⟨b, e, h5.re hs⟩
theorem andFrom_re {w : World} {b k : Nat} (hb : w.heap.size ≤ b) : ∀ x, x < w.heap.size → andFrom S b k x → S x := by
  rintro x hx (h | h)
  · exact h
  · omega
theorem words1 {w : World} {b : Nat} {h : ByteArray} {ty : TypeId} (hb : w.heap[b]? = some (.cells #[.string h] ty (0, 0))) : Words w b 0 [h] := by
  intro i hi
  have : i = 0 := by simpa using hi
  subst this
  exact cell_block hb rfl
theorem heap3 (w : World) (o o' o'' : Obj) : (((w.alloc o).alloc o').alloc o'').heap[w.heap.size + 1 + 1]? = some o'' := by
  have := heap_alloc_new ((w.alloc o).alloc o') o''
  rwa [show ((w.alloc o).alloc o').heap.size = w.heap.size + 1 + 1 by simp] at this
theorem part_close2 {n k b B0 : Nat} {w w' : World} {vf vi ve : Value} {p : PS} (h0 : w.heap.size ≤ b) (h1 : B0 ≤ b) (h2 : b < B0 + k) (hb : Below w.heap.size w w') (hp : PartIs n (andFrom S B0 k) w' vf vi ve p) (u0 u1 u2 : Value) :
    PartEnd n S w (((w'.setCell ⟨b, 0, none⟩ u0).setCell ⟨b, 1, none⟩ u1).setCell ⟨b, 2, none⟩ u2) p (.returned (.agg #[vf, vi, ve])) :=
  ⟨_, _, _, rfl, hp.shift ((((Shift.start S B0 k w').set (.inr ⟨h1, h2⟩) _).set (.inr ⟨h1, h2⟩) _).set (.inr ⟨h1, h2⟩) _), ((hb.setCell h0 _).setCell h0 _).setCell h0 _⟩
def behindP (h : ByteArray) (R : RS) : PS := headedP [h] (fun f => R.ok (f.ks.drop 1))
theorem head_ne {f : Fm} {h : ByteArray} (hh : h.toList ≠ []) (hm : memB (headF f) [h] = true) : f.ks ≠ [] := by
  intro e
  have : headF f = ⟨#[]⟩ := headF_nil (by unfold Fm.kids; split <;> simp [e])
  rw [this] at hm
  simp [memB] at hm
  exact hh (by rw [← hm])
set_option maxHeartbeats 1000000 in
theorem behind_any (n : Nat) (h : ByteArray) (R : RS) (rv : Value) (w : World) (hh : h.toList ≠ []) (hS : ∀ b, S b → b < w.heap.size) (hR : RowIs n S w rv R) (hl : R.front.length ≤ 1000) (hl2 : R.back.length ≤ 1000) :
    Calls Tryz.prog 150 #[.string h, rv] w (fun e w' => PartEnd n S w w' (behindP h R) e) := by
  have hmf : ∀ (fn : Fn) (first cap : Array Value) (w : World), (Instr.makeFunc fn first cap).run Tryz.prog w = .ok (.func fn first cap) w := fun _ _ _ _ => rfl
  obtain ⟨S₁, hS₁⟩ : ∃ S₁, S₁ = andFrom S (w.heap.size + 1) 1 := ⟨_, rfl⟩
  have HS := Lib.hid hS
  have HS1 := Lib.hid (hS₁ ▸ andFrom_lt (k := 1) (fun x h => Nat.lt_succ_of_lt (hS x h)) : ∀ x, S₁ x → x < w.heap.size + 1 + 1)
  have HE := Lib.hid hS₁
  have HR := Lib.hid (hS₁ ▸ hR.re (andFrom_re (Nat.le_succ _)) : RowIs n S₁ w rv R)
  have HL := Lib.hid (show h.toList ≠ [] ∧ R.front.length ≤ 1000 ∧ R.back.length ≤ 1000 from ⟨hh, hl, hl2⟩)
  obtain ⟨fa, fl, fc, ba, bl, bc, m, rfl⟩ := hR.vals
  clear hS hS₁ hR hl hl2 hh
  go_enter Tryz.func150, Tryz.ntmps150
  have HN : Hid (¬ S₁ w.heap.size) := Lib.hid (by
    rw [HE.out]
    rintro (h | h)
    · exact absurd (HS.out _ h) (by omega)
    · omega)
  have HFA : Hid (∀ W, Below (w.alloc (Obj.cells #[.slice fa fl fc, .slice ba bl bc, .pointer m] 68)).heap.size (w.alloc (Obj.cells #[.slice fa fl fc, .slice ba bl bc, .pointer m] 68)) W → FnA n S₁ W (.func (.func 192) #[] #[.pointer (some ⟨w.heap.size, 0, none⟩)]) (fun f => listF f && memB (headF f) [h]) (fun f => R.ok (f.ks.drop 1))) := Lib.hid fun W1 hW1 => by
    refine ⟨_, _, rfl, enters_behind1, fun W hW hmW t hin ha hp => ?_⟩
    simp only [Bool.and_eq_true] at hp
    refine behind1_any (S := S₁) n R _ _ _ w.heap.size t W hmW ((HR.out.below (up (bel1 _ _) hW1)).apart hW) HL.out.2.1 HL.out.2.2 ?_ hin ha (by simpa [listF] using hp.1) (head_ne HL.out.1 hp.2)
    exact (hW.block _ (Nat.lt_of_lt_of_le (by simp) hW1.size) HN.out).trans ((hW1.block _ (by simp)).trans (heap_alloc_new _ _))
  go_wp2_with (first
    | (go_at_call 90; refine (headed_any (S := S₁) n [h] (fun f => R.ok (f.ks.drop 1)) _ _ _ _ _ (fun b e => by have := HS1.out b e; simp; omega) (by simp) (fun e => absurd (HS1.out _ e) (by omega)) (words1 (heap3 _ _ _ _)) (by simp) (HFA.out _ (bel2 _ _ _))).mono ?_; rintro e w4 ⟨vf4, vi4, ve4, rfl, hp4, hB⟩; obtain ⟨K4, c4, K4', c4', rfl, rfl, rfl⟩ := hp4.vals1 rfl; have HP4 := Lib.hid hp4; have HB4 := Lib.hid (up (bel1 _ _) hB); obtain ⟨⟨z0, z1, z2⟩, z3, z4, z5⟩ := cells3 ((HB4.out.block (w.heap.size + 1) (by simp)).trans (heap2 _ _ _)); clear hp4 hB))
  refine bodyPost_ret (v := .agg #[.func (.func K4) #[] c4, .func (.func K4') #[] c4', .bool (behindP h R).isE]) (by simp [results, Tryz.results150, go_sem, behindP, headedP, cell_set, z0, z1, z2]) rfl (part_close2 (k := 1) (B0 := w.heap.size + 1) (Nat.le_succ _) (Nat.le_refl _) (Nat.lt_succ_self _) (up (bel2 _ _ _) HB4.out) ?_ _ _ _)
  have hp := HP4.out
  rw [HE.out] at hp
  exact hp
end Go.Proofs.YtmlfiopbdlaaaaaGreat
