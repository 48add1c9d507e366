/- A row asked: what is seen from outside of all Kids, then what stands in them. -/
import Derived.Test.YtmlfiopbdlaaaaaGreatSh2
import Derived.Deep.RegionHeld3
import Derived.Deep.RegionLaw
namespace Go.Proofs.YtmlfiopbdlaaaaaGreat
open Go.RowKit Go.Deep
variable {S : Nat → Prop}

/-- The block of a variable that holds t. -/
abbrev boxT (t : T) : Obj := .cells #[.int .i64 t.kd, .int .i64 t.nn, .string t.tx, .slice t.ad t.ks.length t.cp] 24
theorem eq_nil (W : World) : Sem.run Tryz.prog (Op.equal 51 .nilFunc .nilFunc) W = .ok true W := by
  unfold Op.equal Op.maxDepth
  unfold Op.equalIn
  rw [Sem.run_bind, run_underlying Tryz.underlying51]
  rfl
theorem eq_func (K : FuncId) (caps : Array Value) (W : World) : Sem.run Tryz.prog (Op.equal 51 (.func (.func K) #[] caps) .nilFunc) W = .ok false W := by
  unfold Op.equal Op.maxDepth
  unfold Op.equalIn
  rw [Sem.run_bind, run_underlying Tryz.underlying51]
  rfl
theorem neq_nil (W : World) : Sem.run Tryz.prog (binOp .neq 51 .nilFunc .nilFunc) W = .ok (.bool false) W := by
  have e : binOp .neq 51 .nilFunc .nilFunc = (Op.equal 51 .nilFunc .nilFunc >>= fun b => pure (.bool (!b))) := by kernel_rfl
  rw [e, Sem.run_bind]
  simp only [eq_nil, Result.andThen_ok, Sem.run_pure, Bool.not_true]
theorem neq_func (K : FuncId) (caps : Array Value) (W : World) : Sem.run Tryz.prog (binOp .neq 51 (.func (.func K) #[] caps) .nilFunc) W = .ok (.bool true) W := by
  have e : binOp .neq 51 (.func (.func K) #[] caps) .nilFunc = (Op.equal 51 (.func (.func K) #[] caps) .nilFunc >>= fun b => pure (.bool (!b))) := by kernel_rfl
  rw [e, Sem.run_bind]
  simp only [eq_func, Result.andThen_ok, Sem.run_pure, Bool.not_false]
theorem fld0 (K : FuncId) (caps : Array Value) (b c : Value) (W : World) : Sem.run Tryz.prog (Instr.field 71 (.agg #[.func (.func K) #[] caps, b, c]) 0) W = .ok (.func (.func K) #[] caps) W := by
  simp [Instr.field, run_underlying Tryz.underlying71, go_sem, asAgg]
def FitsTo (R : RS) (ks : List Fm) (k : Nat) : Prop := ∀ j (h : j < ks.length), j < k → ∃ p, R.at j ks.length = some p ∧ p.fits ks[j] = true
def InTo (R : RS) (ks : List Fm) (k : Nat) : Prop := ∀ j (h : j < ks.length), j < k → ∃ p, R.at j ks.length = some p ∧ p.inB ks[j] = true
theorem ok_lets {R : RS} {ks : List Fm} (h : R.lets ks.length = false) : R.ok ks = false := by unfold RS.ok; rw [h]; simp
theorem ok_fit {R : RS} {ks : List Fm} {k : Nat} {p : PS} (hk : k < ks.length) (h : R.at k ks.length = some p) (hf : p.fits ks[k] = false) : R.ok ks = false := by
  unfold RS.ok
  have : ((List.range ks.length).all fun i => fitO (R.at i ks.length) ks[i]?) = false := by
    rw [List.all_eq_false]
    exact ⟨k, by simpa using hk, by simp [h, List.getElem?_eq_getElem hk, fitO, hf]⟩
  rw [this]; simp
theorem ok_in {R : RS} {ks : List Fm} {k : Nat} {p : PS} (hk : k < ks.length) (h : R.at k ks.length = some p) (hf : p.inB ks[k] = false) : R.ok ks = false := by
  unfold RS.ok
  have : ((List.range ks.length).all fun i => inO (R.at i ks.length) ks[i]?) = false := by
    rw [List.all_eq_false]
    exact ⟨k, by simpa using hk, by simp [h, List.getElem?_eq_getElem hk, inO, hf]⟩
  rw [this]; simp
theorem ok_yes {R : RS} {ks : List Fm} (h : R.lets ks.length = true) (h1 : FitsTo R ks ks.length) (h2 : InTo R ks ks.length) : R.ok ks = true := by
  unfold RS.ok
  rw [h, Bool.true_and, Bool.and_eq_true, List.all_eq_true, List.all_eq_true]
  refine ⟨fun j hj => ?_, fun j hj => ?_⟩
  · have hj : j < ks.length := by simpa using hj
    obtain ⟨p, e, hp⟩ := h1 j hj hj
    simp [e, List.getElem?_eq_getElem hj, fitO, hp]
  · have hj : j < ks.length := by simpa using hj
    obtain ⟨p, e, hp⟩ := h2 j hj hj
    simp [e, List.getElem?_eq_getElem hj, inO, hp]
theorem lets_le {R : RS} {m : Nat} (h : R.lets m = true) : R.front.length + R.back.length ≤ m := by
  unfold RS.lets at h
  rcases Bool.or_eq_true_iff.1 h with h | h
  · have := of_decide_eq_true h; omega
  · have := of_decide_eq_true (Bool.and_eq_true_iff.1 h).1; omega
set_option linter.unusedSimpArgs false in
set_option maxHeartbeats 8000000 in
set_option maxRecDepth 100000 in
theorem ask_any (n : Nat) (rv : Value) (R : RS) (a : Option Addr) (c : Nat) (ks : List T) (w : World) (hm : MaxIs w) (hR : RowIs n S w rv R) (hl : R.front.length ≤ 1000000) (hl2 : R.back.length ≤ 1000000) (hk : InL w a 0 ks) (hlen : ks.length ≤ 100000) (hs : ∀ t ∈ ks, Asked n t) :
    Calls Tryz.prog 80 #[rv, .slice a ks.length c] w fun e w' => AnsB (R.ok (ks.map T.form)) e ∧ Below w.heap.size w w' := by
  have HM := Lib.hid fun (W : World) (h : Below w.heap.size w W) => hm.below h
  clear hm
  have HL := Lib.hid fun (W : World) (h : Below w.heap.size w W) => lets_any n rv R ks.length W (hR.below h) hl hl2
  have HK := Lib.hid fun (W : World) (h : Below w.heap.size w W) => hk.below h
  have HS := Lib.hid fun j (h : j < ks.length) => hs ks[j] (List.getElem_mem h)
  have hmap : (ks.map T.form).length = ks.length := by simp
  have HML := Lib.hid hmap
  have mixed : Tryz.prog.follows .mixedOrders = true := by kernel_rfl
  cases hle : R.lets ks.length with
  | false =>
    rw [hle] at HL
    have e : R.ok (ks.map T.form) = false := ok_lets (by rw [hmap]; exact hle)
    rw [e]
    obtain ⟨fa, fc, ba, bc, mp, rfl, _⟩ := hR
    obtain ⟨fl, hfl⟩ : ∃ k, R.front.length = k := ⟨_, rfl⟩
    obtain ⟨bl, hbl⟩ : ∃ k, R.back.length = k := ⟨_, rfl⟩
    rw [hfl, hbl] at HL ⊢
    clear hle e hk hs hmap hl hl2 hfl hbl
    go_enter Tryz.func80, Tryz.ntmps80
    go_wp2_with (first
      | (go_at_call 137; refine (HL.out _ (bel1 _ _)).mono ?_; rintro e w2 ⟨rfl, hB⟩; have HB := Lib.hid (up (bel1 _ _) hB); clear hB)
      | (go_at_call 78; refine (must_any _ _ _).mono ?_; rintro e w3 ⟨he, rfl⟩; simp only [AnsE, Bool.false_eq_true, if_false] at he; subst he))
    exact ⟨rfl, AnsB.ofNo (by decide), HB.out⟩
  | true =>
    rw [hle] at HL
    have hrl := lets_le hle
    have HAT := Lib.hid fun (W : World) (h : Below w.heap.size w W) (j : Nat) (hj : j < ks.length) (p : PS) (hp : R.at j ks.length = some p) => at_row n rv R j ks.length p W (hR.below h) hl hl2 hj (by omega) hrl hp
    have HSO := Lib.hid fun j (hj : j < ks.length) => RS.lets_some hle j hj
    obtain ⟨r, hr⟩ : ∃ r, R.ok (ks.map T.form) = r := ⟨_, rfl⟩
    have HR1 : Hid (∀ (j : Nat) (hj : j < ks.length) (p : PS), R.at j ks.length = some p → p.fits ks[j].form = false → r = false) := Lib.hid fun j hj p hp hf => by
      rw [← hr]; exact ok_fit (k := j) (p := p) (by simpa using hj) (by rw [hmap]; exact hp) (by simpa using hf)
    have HR2 : Hid (∀ (j : Nat) (hj : j < ks.length) (p : PS), R.at j ks.length = some p → p.inB ks[j].form = false → r = false) := Lib.hid fun j hj p hp hf => by
      rw [← hr]; exact ok_in (k := j) (p := p) (by simpa using hj) (by rw [hmap]; exact hp) (by simpa using hf)
    have HR3 : Hid ((∀ (j : Nat) (hj : j < ks.length), ∃ p, R.at j ks.length = some p ∧ p.fits ks[j].form = true) → (∀ (j : Nat) (hj : j < ks.length), ∃ p, R.at j ks.length = some p ∧ p.inB ks[j].form = true) → r = true) := Lib.hid fun h1 h2 => by
      rw [← hr]
      refine ok_yes (by rw [hmap]; exact hle) (fun j hj _ => ?_) (fun j hj _ => ?_)
      · obtain ⟨p, e, hp⟩ := h1 j (by simpa using hj); exact ⟨p, by rw [hmap]; exact e, by simpa using hp⟩
      · obtain ⟨p, e, hp⟩ := h2 j (by simpa using hj); exact ⟨p, by rw [hmap]; exact e, by simpa using hp⟩
    rw [hr]
    obtain ⟨fa, fc, ba, bc, mp, rfl, _⟩ := hR
    obtain ⟨fl, hfl⟩ : ∃ k, R.front.length = k := ⟨_, rfl⟩
    obtain ⟨bl, hbl⟩ : ∃ k, R.back.length = k := ⟨_, rfl⟩
    rw [hfl, hbl] at HL HAT ⊢
    clear hle hk hs hmap hl hl2 hfl hbl hr hrl
    go_enter Tryz.func80, Tryz.ntmps80
    go_wp2_with (first
      | (go_at_call 137; refine (HL.out _ (bel1 _ _)).mono ?_; rintro e w2 ⟨rfl, hB⟩; have HX := Lib.hid ((hB.block w.heap.size (by simp)).trans (heap_alloc_new w _)); have HB := Lib.hid (up (bel1 _ _) hB); clear hB)
      | (go_at_call 78; refine (must_any _ _ _).mono ?_; rintro e w3 ⟨he, rfl⟩; simp only [AnsE, if_true] at he; subst he))
    have HXC : Hid (∀ W, Below w2.heap.size w2 W → W.cell? ⟨w.heap.size, 0, none⟩ = some (.slice fa fl fc) ∧ W.cell? ⟨w.heap.size, 1, none⟩ = some (.slice ba bl bc) ∧ W.cell? ⟨w.heap.size, 2, none⟩ = some (.pointer mp)) := Lib.hid fun W hW => by
      have hx := (hW.block w.heap.size (lt_of_block HX.out)).trans HX.out
      exact ⟨by simp [World.cell?, hx], by simp [World.cell?, hx], by simp [World.cell?, hx]⟩
    clear HX
    go_loopg [18] ks.length (fun q i wr => ∃ k : Nat, q = ks.length - k ∧ k ≤ ks.length ∧ i = .int .i64 k ∧ Below w2.heap.size w2 wr ∧ Hid (∀ j (hj : j < ks.length), j < k → ∃ p, R.at j ks.length = some p ∧ p.fits ks[j].form = true))
    case atStart => exact ⟨0, by omega, by omega, rfl, Below.refl _ _, Lib.hid fun j _ h => absurd h (by omega)⟩
    case round =>
      obtain ⟨k, rfl, hk, rfl, hBk, HFT⟩ := hrel
      have HBK := Lib.hid hBk
      by_cases hlt : k < ks.length
      · obtain ⟨⟨b, o, rfl, hx0, hx1, hx2, hx3⟩, hin⟩ := (HK.out wr (up HB.out hBk)).at k hlt
        have lb : b < wr.heap.size := World.block_lt_of_cell? _ _ hx0
        obtain ⟨z0, z1, z2⟩ := HXC.out wr hBk
        have lx : w.heap.size < wr.heap.size := World.block_lt_of_cell? _ _ z0
        obtain ⟨p, hp⟩ := HSO.out k hlt
        have HP := Lib.hid hp
        have HLT := Lib.hid hlt
        obtain ⟨t, ht⟩ : ∃ t, ks[k]'hlt = t := ⟨_, rfl⟩
        have HAS : Hid (Asked n t) := Lib.hid (by rw [← ht]; exact HS.out k hlt)
        have HIN : Hid (In wr t) := Lib.hid (by rw [← ht]; exact hin)
        have y0 : wr.cell? ⟨b, o + k * 4, none⟩ = some (.int .i64 t.kd) := by rw [← ht]; exact hx0
        have y1 : wr.cell? ⟨b, o + k * 4 + 1, none⟩ = some (.int .i64 t.nn) := by rw [← ht]; exact hx1
        have y2 : wr.cell? ⟨b, o + k * 4 + 2, none⟩ = some (.string t.tx) := by rw [← ht]; exact hx2
        have y3 : wr.cell? ⟨b, o + k * 4 + 3, none⟩ = some (.slice t.ad t.ks.length t.cp) := by rw [← ht]; exact hx3
        have HNO : Hid (p.fits t.form = false → r = false) := Lib.hid fun h => HR1.out k hlt p hp (by rw [ht]; exact h)
        have HTE := Lib.hid ht
        clear hp hin hBk ht hx0 hx1 hx2 hx3
        have gk : (k : Int) < (ks.length : Int) := by omega
        cases hf : p.fits t.form with
        | false =>
          have HNO2 := Lib.hid (HNO.out hf)
          have HF := Lib.hid hf
          clear hf
          have HW : ∀ W, Below (wr.alloc (boxT t)).heap.size (wr.alloc (boxT t)) W → (W.cell? ⟨w.heap.size, 0, none⟩ = some (.slice fa fl fc) ∧ W.cell? ⟨w.heap.size, 1, none⟩ = some (.slice ba bl bc) ∧ W.cell? ⟨w.heap.size, 2, none⟩ = some (.pointer mp)) ∧ (W.cell? ⟨wr.heap.size, 0, none⟩ = some (.int .i64 t.kd) ∧ W.cell? ⟨wr.heap.size, 1, none⟩ = some (.int .i64 t.nn) ∧ W.cell? ⟨wr.heap.size, 2, none⟩ = some (.string t.tx) ∧ W.cell? ⟨wr.heap.size, 3, none⟩ = some (.slice t.ad t.ks.length t.cp)) := fun W hW =>
            ⟨HXC.out W (up HBK.out (up (bel1 _ _) hW)), Box4.cells (w := W) (b := wr.heap.size) (t := t) ((hW.block _ (by simp)).trans (Box4.new wr t))⟩
          have HWW := Lib.hid HW
          clear HW
          have hf0 := fld0
          go_wp2_with fail
          refine wp_region_held_drew (S := (fun w' => (w'.cell? ⟨w.heap.size, 0, none⟩ = some (.slice fa fl fc) ∧ w'.cell? ⟨w.heap.size, 1, none⟩ = some (.slice ba bl bc) ∧ w'.cell? ⟨w.heap.size, 2, none⟩ = some (.pointer mp)) ∧ (w'.cell? ⟨wr.heap.size, 0, none⟩ = some (.int .i64 t.kd) ∧ w'.cell? ⟨wr.heap.size, 1, none⟩ = some (.int .i64 t.nn) ∧ w'.cell? ⟨wr.heap.size, 2, none⟩ = some (.string t.tx) ∧ w'.cell? ⟨wr.heap.size, 3, none⟩ = some (.slice t.ad t.ks.length t.cp)))) mixed (HWW.out _ (Below.refl _ _).drew) (fun hHeld => ?_)
          try simp only [Act.put, List.setIfInBounds_toArray, List.set_cons_zero, List.set_cons_succ]
          refine wpAnyH_take (i := 0) (v := ?_) rfl (by kernel_rfl) (by kernel_rfl) (by kernel_rfl) (fun _ _ _ h => h) (Or.inl ⟨by rfl, ?_⟩) (by assumption) ?_
          rotate_left
          · intro W hSw
            obtain ⟨⟨q0, q1, q2⟩, ⟨q3, q4, q5, q6⟩⟩ := hSw
            go_simp
            try with_reducible rfl
          try simp only [Act.put, List.setIfInBounds_toArray, List.set_cons_zero, List.set_cons_succ]
          refine wpAnyH_take (i := 1) (v := ?_) rfl (by kernel_rfl) (by kernel_rfl) (by kernel_rfl) (fun _ _ _ h => h) (Or.inl ⟨by rfl, ?_⟩) (by assumption) ?_
          rotate_left
          · intro W hSw
            obtain ⟨⟨q0, q1, q2⟩, ⟨q3, q4, q5, q6⟩⟩ := hSw
            go_simp
            try with_reducible rfl
          try simp only [Act.put, List.setIfInBounds_toArray, List.set_cons_zero, List.set_cons_succ]
          refine wpAnyH_take (i := 2) (v := ?_) rfl (by kernel_rfl) (by kernel_rfl) (by kernel_rfl) (fun _ _ _ h => h) (Or.inl ⟨by rfl, ?_⟩) (by assumption) ?_
          rotate_left
          · intro W hSw
            obtain ⟨⟨q0, q1, q2⟩, ⟨q3, q4, q5, q6⟩⟩ := hSw
            go_simp
            try with_reducible rfl
          try simp only [Act.put, List.setIfInBounds_toArray, List.set_cons_zero, List.set_cons_succ]
          refine wpAnyH_take (i := 5) (v := ?_) rfl (by kernel_rfl) (by kernel_rfl) (by kernel_rfl) (fun _ _ _ h => h) (Or.inl ⟨by rfl, ?_⟩) (by assumption) ?_
          rotate_left
          · intro W hSw
            obtain ⟨⟨q0, q1, q2⟩, ⟨q3, q4, q5, q6⟩⟩ := hSw
            go_simp
            try with_reducible rfl
          try simp only [Act.put, List.setIfInBounds_toArray, List.set_cons_zero, List.set_cons_succ]
          refine wpAnyH_ready (rs := [3]) (by kernel_rfl) (by simp) ?_
          refine AllReadyH.cons rfl (fun K9 hK9 => ?_) AllReadyH.nil
          go_simp
          go_at_call 59
          refine (HAT.out _ (up (up HB.out HBK.out) (up (bel1 _ _) (Below.refl _ _).drew)) k HLT.out p HP.out).mono ?_
          rintro e w3 ⟨vf, vi, ve, rfl, ⟨⟨K, caps, rfl, eK, hc⟩, _, rfl⟩, hB3⟩
          unfold Enters at eK
          have HC := Lib.hid hc
          have HB3 := Lib.hid (up (Below.refl _ _).drew hB3)
          clear hc hB3
          go_wp2_with fail
          refine hK9.out _ _ (HWW.out _ HB3.out) (fun hHeld => ?_)
          clear hK9 K9
          try simp only [Act.put, List.setIfInBounds_toArray, List.set_cons_zero, List.set_cons_succ]
          refine wpAnyH_take (i := 4) (v := ?_) rfl (by kernel_rfl) (by kernel_rfl) (by kernel_rfl) (fun _ _ _ h => h) (Or.inl ⟨by rfl, ?_⟩) (by assumption) ?_
          rotate_left
          · intro W hSw
            obtain ⟨⟨q0, q1, q2⟩, ⟨q3, q4, q5, q6⟩⟩ := hSw
            go_simp
            try with_reducible rfl
          try simp only [Act.put, List.setIfInBounds_toArray, List.set_cons_zero, List.set_cons_succ]
          refine wpAnyH_ready (rs := [6]) (by kernel_rfl) (by simp) ?_
          refine AllReadyH.cons rfl (fun K9 hK9 => ?_) AllReadyH.nil
          go_simp
          go_at_fn K
          refine (HC.out w3 (Apart.refl _ _) (HM.out _ (up (up HB.out HBK.out) (up (bel1 _ _) HB3.out))) t (HIN.out.below (up (bel1 _ _) HB3.out)) HAS.out).mono ?_
          rintro e w4 ⟨rfl, hB4⟩
          rw [HF.out]
          have HB4 := Lib.hid (up HB3.out hB4)
          clear hB4
          go_wp2_with fail
          refine hK9.out _ _ (HWW.out _ HB4.out) (fun hHeld => ?_)
          clear hK9 K9
          try simp only [Act.put, List.setIfInBounds_toArray, List.set_cons_zero, List.set_cons_succ]
          refine wpAnyH_ready (rs := [7]) (by kernel_rfl) (by simp) ?_
          refine AllReadyH.cons rfl (fun K9 hK9 => ?_) AllReadyH.nil
          go_simp
          go_at_call 78
          refine (must_any _ _ _).mono ?_
          rintro e w5 ⟨he, rfl⟩
          simp only [AnsE, Bool.false_eq_true, if_false] at he
          subst he
          exact ⟨rfl, by rw [HNO2.out]; exact AnsB.ofNo (by decide), up (up HB.out HBK.out) (up (bel1 _ _) HB4.out)⟩
        | true =>
          have HF := Lib.hid hf
          clear hf
          have HW : ∀ W, Below (wr.alloc (boxT t)).heap.size (wr.alloc (boxT t)) W → (W.cell? ⟨w.heap.size, 0, none⟩ = some (.slice fa fl fc) ∧ W.cell? ⟨w.heap.size, 1, none⟩ = some (.slice ba bl bc) ∧ W.cell? ⟨w.heap.size, 2, none⟩ = some (.pointer mp)) ∧ (W.cell? ⟨wr.heap.size, 0, none⟩ = some (.int .i64 t.kd) ∧ W.cell? ⟨wr.heap.size, 1, none⟩ = some (.int .i64 t.nn) ∧ W.cell? ⟨wr.heap.size, 2, none⟩ = some (.string t.tx) ∧ W.cell? ⟨wr.heap.size, 3, none⟩ = some (.slice t.ad t.ks.length t.cp)) := fun W hW =>
            ⟨HXC.out W (up HBK.out (up (bel1 _ _) hW)), Box4.cells (w := W) (b := wr.heap.size) (t := t) ((hW.block _ (by simp)).trans (Box4.new wr t))⟩
          have HWW := Lib.hid HW
          clear HW
          have hf0 := fld0
          go_wp2_with fail
          refine wp_region_held_drew (S := (fun w' => (w'.cell? ⟨w.heap.size, 0, none⟩ = some (.slice fa fl fc) ∧ w'.cell? ⟨w.heap.size, 1, none⟩ = some (.slice ba bl bc) ∧ w'.cell? ⟨w.heap.size, 2, none⟩ = some (.pointer mp)) ∧ (w'.cell? ⟨wr.heap.size, 0, none⟩ = some (.int .i64 t.kd) ∧ w'.cell? ⟨wr.heap.size, 1, none⟩ = some (.int .i64 t.nn) ∧ w'.cell? ⟨wr.heap.size, 2, none⟩ = some (.string t.tx) ∧ w'.cell? ⟨wr.heap.size, 3, none⟩ = some (.slice t.ad t.ks.length t.cp)))) mixed (HWW.out _ (Below.refl _ _).drew) (fun hHeld => ?_)
          try simp only [Act.put, List.setIfInBounds_toArray, List.set_cons_zero, List.set_cons_succ]
          refine wpAnyH_take (i := 0) (v := ?_) rfl (by kernel_rfl) (by kernel_rfl) (by kernel_rfl) (fun _ _ _ h => h) (Or.inl ⟨by rfl, ?_⟩) (by assumption) ?_
          rotate_left
          · intro W hSw
            obtain ⟨⟨q0, q1, q2⟩, ⟨q3, q4, q5, q6⟩⟩ := hSw
            go_simp
            try with_reducible rfl
          try simp only [Act.put, List.setIfInBounds_toArray, List.set_cons_zero, List.set_cons_succ]
          refine wpAnyH_take (i := 1) (v := ?_) rfl (by kernel_rfl) (by kernel_rfl) (by kernel_rfl) (fun _ _ _ h => h) (Or.inl ⟨by rfl, ?_⟩) (by assumption) ?_
          rotate_left
          · intro W hSw
            obtain ⟨⟨q0, q1, q2⟩, ⟨q3, q4, q5, q6⟩⟩ := hSw
            go_simp
            try with_reducible rfl
          try simp only [Act.put, List.setIfInBounds_toArray, List.set_cons_zero, List.set_cons_succ]
          refine wpAnyH_take (i := 2) (v := ?_) rfl (by kernel_rfl) (by kernel_rfl) (by kernel_rfl) (fun _ _ _ h => h) (Or.inl ⟨by rfl, ?_⟩) (by assumption) ?_
          rotate_left
          · intro W hSw
            obtain ⟨⟨q0, q1, q2⟩, ⟨q3, q4, q5, q6⟩⟩ := hSw
            go_simp
            try with_reducible rfl
          try simp only [Act.put, List.setIfInBounds_toArray, List.set_cons_zero, List.set_cons_succ]
          refine wpAnyH_take (i := 5) (v := ?_) rfl (by kernel_rfl) (by kernel_rfl) (by kernel_rfl) (fun _ _ _ h => h) (Or.inl ⟨by rfl, ?_⟩) (by assumption) ?_
          rotate_left
          · intro W hSw
            obtain ⟨⟨q0, q1, q2⟩, ⟨q3, q4, q5, q6⟩⟩ := hSw
            go_simp
            try with_reducible rfl
          try simp only [Act.put, List.setIfInBounds_toArray, List.set_cons_zero, List.set_cons_succ]
          refine wpAnyH_ready (rs := [3]) (by kernel_rfl) (by simp) ?_
          refine AllReadyH.cons rfl (fun K9 hK9 => ?_) AllReadyH.nil
          go_simp
          go_at_call 59
          refine (HAT.out _ (up (up HB.out HBK.out) (up (bel1 _ _) (Below.refl _ _).drew)) k HLT.out p HP.out).mono ?_
          rintro e w3 ⟨vf, vi, ve, rfl, ⟨⟨K, caps, rfl, eK, hc⟩, _, rfl⟩, hB3⟩
          unfold Enters at eK
          have HC := Lib.hid hc
          have HB3 := Lib.hid (up (Below.refl _ _).drew hB3)
          clear hc hB3
          go_wp2_with fail
          refine hK9.out _ _ (HWW.out _ HB3.out) (fun hHeld => ?_)
          clear hK9 K9
          try simp only [Act.put, List.setIfInBounds_toArray, List.set_cons_zero, List.set_cons_succ]
          refine wpAnyH_take (i := 4) (v := ?_) rfl (by kernel_rfl) (by kernel_rfl) (by kernel_rfl) (fun _ _ _ h => h) (Or.inl ⟨by rfl, ?_⟩) (by assumption) ?_
          rotate_left
          · intro W hSw
            obtain ⟨⟨q0, q1, q2⟩, ⟨q3, q4, q5, q6⟩⟩ := hSw
            go_simp
            try with_reducible rfl
          try simp only [Act.put, List.setIfInBounds_toArray, List.set_cons_zero, List.set_cons_succ]
          refine wpAnyH_ready (rs := [6]) (by kernel_rfl) (by simp) ?_
          refine AllReadyH.cons rfl (fun K9 hK9 => ?_) AllReadyH.nil
          go_simp
          go_at_fn K
          refine (HC.out w3 (Apart.refl _ _) (HM.out _ (up (up HB.out HBK.out) (up (bel1 _ _) HB3.out))) t (HIN.out.below (up (bel1 _ _) HB3.out)) HAS.out).mono ?_
          rintro e w4 ⟨rfl, hB4⟩
          rw [HF.out]
          have HB4 := Lib.hid (up HB3.out hB4)
          clear hB4
          go_wp2_with fail
          refine hK9.out _ _ (HWW.out _ HB4.out) (fun hHeld => ?_)
          clear hK9 K9
          try simp only [Act.put, List.setIfInBounds_toArray, List.set_cons_zero, List.set_cons_succ]
          refine wpAnyH_ready (rs := [7]) (by kernel_rfl) (by simp) ?_
          refine AllReadyH.cons rfl (fun K9 hK9 => ?_) AllReadyH.nil
          go_simp
          go_at_call 78
          refine (must_any _ _ _).mono ?_
          rintro e w5 ⟨he, rfl⟩
          simp only [AnsE, if_true] at he
          subst he
          go_wp2_with fail
          refine hK9.out _ _ (HWW.out _ HB4.out) (fun hHeld => ?_)
          clear hK9 K9
          try simp only [Act.put, List.setIfInBounds_toArray, List.set_cons_zero, List.set_cons_succ]
          refine wpAnyH_done (by kernel_rfl) ?_ _
          go_wp2_with fail
          go_roundg (ks.length - (k + 1))
          case measure => omega
          case rel =>
            refine ⟨k + 1, by omega, by omega, by go_num, up HBK.out (up (bel1 _ _) HB4.out), Lib.hid fun j hj hjk => ?_⟩
            by_cases e : j = k
            · subst e; exact ⟨p, HP.out, by rw [HTE.out]; exact HF.out⟩
            · exact HFT.out j hj (by omega)
      · have HFIT : Hid (∀ (j : Nat) (hj : j < ks.length), ∃ p, R.at j ks.length = some p ∧ p.fits ks[j].form = true) := Lib.hid fun j hj => HFT.out j hj (by omega)
        have HB2 := Lib.hid (up HB.out hBk)
        have hn1 := neq_nil
        have hn2 := neq_func
        go_wp2_with fail
        go_loopg [34] ks.length (fun q i wr => ∃ k : Nat, q = ks.length - k ∧ k ≤ ks.length ∧ i = .int .i64 k ∧ Below w2.heap.size w2 wr ∧ Hid (∀ j (hj : j < ks.length), j < k → ∃ p, R.at j ks.length = some p ∧ p.inB ks[j].form = true))
        case atStart => exact ⟨0, by omega, by omega, rfl, HBK.out, Lib.hid fun j _ h => absurd h (by omega)⟩
        case round =>
          obtain ⟨k, rfl, hk, rfl, hBk, HFT⟩ := hrel
          have HBK := Lib.hid hBk
          by_cases hlt : k < ks.length
          · obtain ⟨⟨b, o, rfl, hx0, hx1, hx2, hx3⟩, hin⟩ := (HK.out wr (up HB.out hBk)).at k hlt
            have lb : b < wr.heap.size := World.block_lt_of_cell? _ _ hx0
            obtain ⟨z0, z1, z2⟩ := HXC.out wr hBk
            have lx : w.heap.size < wr.heap.size := World.block_lt_of_cell? _ _ z0
            obtain ⟨p, hp⟩ := HSO.out k hlt
            have HP := Lib.hid hp
            have HLT := Lib.hid hlt
            obtain ⟨t, ht⟩ : ∃ t, ks[k]'hlt = t := ⟨_, rfl⟩
            have HAS : Hid (Asked n t) := Lib.hid (by rw [← ht]; exact HS.out k hlt)
            have HIN : Hid (In wr t) := Lib.hid (by rw [← ht]; exact hin)
            have y0 : wr.cell? ⟨b, o + k * 4, none⟩ = some (.int .i64 t.kd) := by rw [← ht]; exact hx0
            have y1 : wr.cell? ⟨b, o + k * 4 + 1, none⟩ = some (.int .i64 t.nn) := by rw [← ht]; exact hx1
            have y2 : wr.cell? ⟨b, o + k * 4 + 2, none⟩ = some (.string t.tx) := by rw [← ht]; exact hx2
            have y3 : wr.cell? ⟨b, o + k * 4 + 3, none⟩ = some (.slice t.ad t.ks.length t.cp) := by rw [← ht]; exact hx3
            have HNO : Hid (p.inB t.form = false → r = false) := Lib.hid fun h => HR2.out k hlt p hp (by rw [ht]; exact h)
            have HPF : Hid (p.fits t.form = true) := Lib.hid (by
              obtain ⟨p', e, h⟩ := HFIT.out k hlt
              rw [hp] at e; injection e with e; subst e; rw [← ht]; exact h)
            have HTE := Lib.hid ht
            clear hp hin hBk ht hx0 hx1 hx2 hx3
            have gk : (k : Int) < (ks.length : Int) := by omega
            cases hins : p.ins with
            | none =>
              have HIB : Hid (p.inB t.form = true) := Lib.hid (by unfold PS.inB; rw [hins])
              have HINS := Lib.hid hins
              clear hins
              go_wp2_with (first
                | (go_at_call 59; refine (HAT.out _ (up (up HB.out HBK.out) (bel1 _ _)) k HLT.out p HP.out).mono ?_; rintro e w3 ⟨vf, vi, ve, rfl, ⟨⟨K, caps, rfl, eK, hc⟩, hi, rfl⟩, hB3⟩; rw [HINS.out] at hi; (have hi : vi = .nilFunc := hi); subst hi; have HB3 := Lib.hid hB3; obtain ⟨v0, v1, v2, v3⟩ := Box4.cells (w := w3) (b := wr.heap.size) (t := t) ((hB3.block _ (by simp)).trans (Box4.new wr t)); have l3 : wr.heap.size < w3.heap.size := Nat.lt_of_lt_of_le (by simp) hB3.size; clear hc eK hB3))
              go_roundg (ks.length - (k + 1))
              case measure => omega
              case rel =>
                refine ⟨k + 1, by omega, by omega, by go_num, up HBK.out (up (up (bel1 _ _) HB3.out) (bel1 _ _)), Lib.hid fun j hj hjk => ?_⟩
                by_cases e : j = k
                · subst e; exact ⟨p, HP.out, by rw [HTE.out]; exact HIB.out⟩
                · exact HFT.out j hj (by omega)
            | some qf =>
              have HINS := Lib.hid hins
              have hib : p.inB t.form = qf t.form := by unfold PS.inB; rw [hins]
              clear hins
              cases hq : qf t.form with
              | true =>
                have HIB : Hid (p.inB t.form = true) := Lib.hid (by rw [hib]; exact hq)
                have HQ := Lib.hid hq
                clear hib hq
                go_wp2_with (first
                  | (go_at_call 59; refine (HAT.out _ (up (up HB.out HBK.out) (bel1 _ _)) k HLT.out p HP.out).mono ?_; rintro e w3 ⟨vf, vi, ve, rfl, ⟨⟨K, caps, rfl, eK, hc⟩, hi, rfl⟩, hB3⟩; rw [HINS.out] at hi; obtain ⟨K', caps', rfl, eK', hc'⟩ := hi; unfold Enters at eK'; have HC := Lib.hid hc'; clear hc'; have HB3 := Lib.hid hB3; obtain ⟨v0, v1, v2, v3⟩ := Box4.cells (w := w3) (b := wr.heap.size) (t := t) ((hB3.block _ (by simp)).trans (Box4.new wr t)); have l3 : wr.heap.size < w3.heap.size := Nat.lt_of_lt_of_le (by simp) hB3.size; clear hc eK hB3)
                  | (go_at_fn K'; refine (HC.out _ (bel1 _ _).apart (HM.out _ (up (up HB.out HBK.out) (up (up (bel1 _ _) HB3.out) (bel1 _ _)))) t ((HIN.out.below (up (bel1 _ _) HB3.out)).alloc _) HAS.out HPF.out).mono ?_; rintro e w4 ⟨he, hB4⟩; rw [HQ.out] at he; have he := he.yes; subst he; have HB4 := Lib.hid hB4; clear hB4))
                go_roundg (ks.length - (k + 1))
                case measure => omega
                case rel =>
                  refine ⟨k + 1, by omega, by omega, by go_num, up HBK.out (up (up (bel1 _ _) HB3.out) (up (bel1 _ _) HB4.out)), Lib.hid fun j hj hjk => ?_⟩
                  by_cases e : j = k
                  · subst e; exact ⟨p, HP.out, by rw [HTE.out]; exact HIB.out⟩
                  · exact HFT.out j hj (by omega)
              | false =>
                have HNO2 := Lib.hid (HNO.out (by rw [hib]; exact hq))
                have HQ := Lib.hid hq
                clear hib hq
                go_wp2_with (first
                  | (go_at_call 59; refine (HAT.out _ (up (up HB.out HBK.out) (bel1 _ _)) k HLT.out p HP.out).mono ?_; rintro e w3 ⟨vf, vi, ve, rfl, ⟨⟨K, caps, rfl, eK, hc⟩, hi, rfl⟩, hB3⟩; rw [HINS.out] at hi; obtain ⟨K', caps', rfl, eK', hc'⟩ := hi; unfold Enters at eK'; have HC := Lib.hid hc'; clear hc'; have HB3 := Lib.hid hB3; obtain ⟨v0, v1, v2, v3⟩ := Box4.cells (w := w3) (b := wr.heap.size) (t := t) ((hB3.block _ (by simp)).trans (Box4.new wr t)); have l3 : wr.heap.size < w3.heap.size := Nat.lt_of_lt_of_le (by simp) hB3.size; clear hc eK hB3)
                  | (go_at_fn K'; refine (HC.out _ (bel1 _ _).apart (HM.out _ (up (up HB.out HBK.out) (up (up (bel1 _ _) HB3.out) (bel1 _ _)))) t ((HIN.out.below (up (bel1 _ _) HB3.out)).alloc _) HAS.out HPF.out).mono ?_; rintro e w4 ⟨he, hB4⟩; rw [HQ.out] at he; obtain ⟨cc, hcc, he⟩ := he.no; subst he; have HCC := Lib.hid hcc; have HB4 := Lib.hid hB4; clear hB4 hcc))
                exact ⟨rfl, by rw [HNO2.out]; exact AnsB.ofNo HCC.out, up (up HB.out HBK.out) (up (up (bel1 _ _) HB3.out) (up (bel1 _ _) HB4.out))⟩
          · have HYES := Lib.hid (HR3.out HFIT.out (fun j hj => HFT.out j hj (by omega)))
            go_wp2_with fail
            go_end0
            exact ⟨by rw [HYES.out]; exact AnsB.ofYes, up HB.out HBK.out⟩
end Go.Proofs.YtmlfiopbdlaaaaaGreat
