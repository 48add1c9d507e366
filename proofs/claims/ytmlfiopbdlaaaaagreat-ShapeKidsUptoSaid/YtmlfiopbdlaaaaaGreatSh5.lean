/- Lists of a row; expressions; numbers. -/
import Derived.Test.YtmlfiopbdlaaaaaGreatSh4
namespace Go.Proofs.YtmlfiopbdlaaaaaGreat
open Go.RowKit Go.Deep
variable {S : Nat → Prop}

/-- askExpr, as a part's inside. -/
def HAsk (n : Nat) (E : Fm → Bool) : Prop := ∀ (S : Nat → Prop) w, FnA n S w (.func (.func 53) #[] #[]) (fun _ => true) E
def exprP (E : Fm → Bool) : PS := ⟨fun _ => true, some E, true⟩
theorem anExpr_any (n : Nat) (E : Fm → Bool) (hE : HAsk n E) (w : World) : Calls Tryz.prog 85 #[] w (fun e w' => PartEnd n S w w' (exprP E) e) := by
  have HF := Lib.hid (fnT_any (S := S) n w)
  have HA := Lib.hid (hE S w)
  clear hE
  go_enter Tryz.func85, Tryz.ntmps85
  go_wp2_with fail
  refine bodyPost_ret (v := .agg #[.func (.func 143) #[] #[], .func (.func 53) #[] #[], .bool true]) (by simp [results, Tryz.results85, go_sem]) rfl ⟨_, _, _, rfl, ⟨HF.out.below (bel1 _ _), HA.out.below (bel1 _ _), rfl⟩, bel1 _ _⟩
/-- A list of a row, with what is asked of all its Kids. -/
def listP (R : RS) (g : List Fm → Bool) : PS := ⟨listF, some (fun f => R.ok f.ks && g f.ks), false⟩
set_option maxHeartbeats 2000000 in
theorem aList1_none (n : Nat) (R : RS) (rv0 rv1 rv2 : Value) (B1 B2 : Nat) (t : T) (w : World) (hm : MaxIs w) (hR : RowIs n S w (.agg #[rv0, rv1, rv2]) R) (hl : R.front.length ≤ 1000) (hl2 : R.back.length ≤ 1000)
    (h1 : w.heap[B1]? = some (.cells #[rv0, rv1, rv2] 68 (0, 0))) (h2 : w.heap[B2]? = some (.cells #[.slice none 0 0] 121 (0, 0))) (hin : In w t) (ha : Asked n t) (hk : t.form.kd = 3) :
    Calls Tryz.prog 155 #[t.val, .pointer (some ⟨B1, 0, none⟩), .pointer (some ⟨B2, 0, none⟩)] w fun e w' => AnsB (R.ok t.form.ks && true) e ∧ Below w.heap.size w w' := by
  have HA := Lib.hid fun (W : World) (h : Below w.heap.size w W) => ask_any n _ R t.ad t.cp t.ks W (hm.below h) (hR.below h) (by omega) (by omega) ((hin.below h).inL) (by have := ha.len hk; omega) (fun u hu => ha.kid hk hu)
  have e : t.ks.map T.form = t.form.ks := (T.form_ks t).symm
  clear hm
  rw [e] at HA
  have x0 := cell_block h1 (j := 0) (v := rv0) rfl
  have x1 := cell_block h1 (j := 1) (v := rv1) rfl
  have x2 := cell_block h1 (j := 2) (v := rv2) rfl
  have lb1 := lt_of_block h1
  have HT := Lib.hid fun (W : World) (h : Below w.heap.size w W) => cell_block ((h.block B2 (lt_of_block h2)).trans h2) (j := 0) (v := .slice none 0 0) rfl
  obtain ⟨fa, fc, ba, bc, m, hv, _⟩ := hR
  rw [Bool.and_true]
  obtain ⟨r, hr⟩ : ∃ r, R.ok t.form.ks = r := ⟨_, rfl⟩
  rw [hr] at HA ⊢
  clear e hin ha hk hl hl2 hr h1 h2
  injection hv with hv
  obtain ⟨rfl, rfl, rfl⟩ : rv0 = .slice fa R.front.length fc ∧ rv1 = .slice ba R.back.length bc ∧ rv2 = .pointer m := by simpa using hv
  clear hv
  cases r with
  | false =>
    go_enter Tryz.func155, Tryz.ntmps155
    go_wp2_with (first
      | (go_at_call 80; refine (HA.out _ (bel1 _ _)).mono ?_; rintro e w2 ⟨he, hB⟩; obtain ⟨c, hc, he⟩ := he.no; subst he; have HC := Lib.hid hc; have HB := Lib.hid (up (bel1 _ _) hB); clear hB hc))
    exact ⟨rfl, AnsB.ofNo HC.out, HB.out⟩
  | true =>
    go_enter Tryz.func155, Tryz.ntmps155
    go_wp2_with (first
      | (go_at_call 80; refine (HA.out _ (bel1 _ _)).mono ?_; rintro e w2 ⟨he, hB⟩; have he := he.yes; subst he; have HB := Lib.hid (up (bel1 _ _) hB); have z0 := HT.out _ HB.out; clear hB))
    go_loopg [12] 0 (fun _ i wr => i = .int .i64 0 ∧ Below w.heap.size w wr)
    case atStart => exact ⟨rfl, HB.out⟩
    case round =>
      obtain ⟨rfl, hBr⟩ := hrel
      have HBR := Lib.hid hBr
      clear hBr
      go_wp2_with fail
      go_end0
      exact ⟨AnsB.ofYes, HBR.out⟩
set_option maxHeartbeats 2000000 in
theorem aList1_differ (n : Nat) (R : RS) (rv0 rv1 rv2 : Value) (B1 B2 B3 tc : Nat) (t : T) (w : World) (hm : MaxIs w) (hR : RowIs n S w (.agg #[rv0, rv1, rv2]) R) (hl : R.front.length ≤ 1000) (hl2 : R.back.length ≤ 1000)
    (hpre : ∀ ks : List Fm, R.ok ks = true → ∀ f ∈ ks, PreD f)
    (h1 : w.heap[B1]? = some (.cells #[rv0, rv1, rv2] 68 (0, 0))) (h2 : w.heap[B2]? = some (.cells #[.slice (some ⟨B3, 0, none⟩) 1 tc] 121 (0, 0))) (h3 : B3 < w.heap.size ∧ w.cell? ⟨B3, 0, none⟩ = some (.func (.func 139) #[] #[])) (hin : In w t) (ha : Asked n t) (hk : t.form.kd = 3) :
    Calls Tryz.prog 155 #[t.val, .pointer (some ⟨B1, 0, none⟩), .pointer (some ⟨B2, 0, none⟩)] w fun e w' => AnsB (R.ok t.form.ks && differB t.form.ks) e ∧ Below w.heap.size w w' := by
  have HA := Lib.hid fun (W : World) (h : Below w.heap.size w W) => ask_any n _ R t.ad t.cp t.ks W (hm.below h) (hR.below h) (by omega) (by omega) ((hin.below h).inL) (by have := ha.len hk; omega) (fun u hu => ha.kid hk hu)
  have e : t.ks.map T.form = t.form.ks := (T.form_ks t).symm
  clear hm
  have HD : Hid (R.ok t.form.ks = true → ∀ W, Below w.heap.size w W → Calls Tryz.prog 139 #[.slice t.ad t.ks.length t.cp] W fun e w' => AnsB (differB t.form.ks) e ∧ Below W.heap.size W w') := Lib.hid fun hok W h => by
    have := differ_any t.ad t.cp t.ks W (hin.below h).inL (by have := ha.len hk; omega) (fun u hu => hpre _ hok _ (by rw [← e]; exact List.mem_map_of_mem hu))
    rwa [e] at this
  rw [e] at HA
  have x0 := cell_block h1 (j := 0) (v := rv0) rfl
  have x1 := cell_block h1 (j := 1) (v := rv1) rfl
  have x2 := cell_block h1 (j := 2) (v := rv2) rfl
  have lb1 := lt_of_block h1
  have HT := Lib.hid fun (W : World) (h : Below w.heap.size w W) => (⟨cell_block ((h.block B2 (lt_of_block h2)).trans h2) (j := 0) (v := .slice (some ⟨B3, 0, none⟩) 1 tc) rfl, (h.cell (p := ⟨B3, 0, none⟩) h3.1).trans h3.2⟩ : _ ∧ _)
  have HTB : Hid (∀ W, Below w.heap.size w W → Box4 W w.heap.size t → (W.cell? ⟨w.heap.size, 3, none⟩ = some (.slice t.ad t.ks.length t.cp))) := Lib.hid fun W _ h => h.cells.2.2.2
  obtain ⟨fa, fc, ba, bc, m, hv, _⟩ := hR
  obtain ⟨r, hr⟩ : ∃ r, R.ok t.form.ks = r := ⟨_, rfl⟩
  rw [hr] at HA HD ⊢
  clear e hin ha hk hl hl2 hr h1 h2 h3 hpre
  injection hv with hv
  obtain ⟨rfl, rfl, rfl⟩ : rv0 = .slice fa R.front.length fc ∧ rv1 = .slice ba R.back.length bc ∧ rv2 = .pointer m := by simpa using hv
  clear hv
  cases r with
  | false =>
    rw [Bool.false_and]
    go_enter Tryz.func155, Tryz.ntmps155
    go_wp2_with (first
      | (go_at_call 80; refine (HA.out _ (bel1 _ _)).mono ?_; rintro e w2 ⟨he, hB⟩; obtain ⟨c, hc, he⟩ := he.no; subst he; have HC := Lib.hid hc; have HB := Lib.hid (up (bel1 _ _) hB); clear hB hc))
    exact ⟨rfl, AnsB.ofNo HC.out, HB.out⟩
  | true =>
    rw [Bool.true_and]
    obtain ⟨d, hd⟩ : ∃ d, differB t.form.ks = d := ⟨_, rfl⟩
    have HDD := Lib.hid (HD.out rfl)
    rw [hd] at HDD ⊢
    clear HD hd
    go_enter Tryz.func155, Tryz.ntmps155
    go_wp2_with (first
      | (go_at_call 80; refine (HA.out _ (bel1 _ _)).mono ?_; rintro e w2 ⟨he, hB⟩; have he := he.yes; subst he; have HB := Lib.hid (up (bel1 _ _) hB); have HX := Lib.hid (((hB.block _ (by simp)).trans (Box4.new w t) : Box4 w2 w.heap.size t)); obtain ⟨z0, z1⟩ := HT.out _ HB.out; clear hB))
    go_loopg [12] 1 (fun q i wr => ∃ k : Nat, i = .int .i64 k ∧ k ≤ 1 ∧ q = 1 - k ∧ Below w.heap.size w wr ∧ Box4 wr w.heap.size t ∧ (k = 1 → d = true))
    case atStart => exact ⟨0, rfl, by omega, by omega, HB.out, HX.out, fun h => by omega⟩
    case round =>
      obtain ⟨k, rfl, hk1, rfl, hBr, hbx, hdk⟩ := hrel
      have HBR := Lib.hid hBr
      have HBX := Lib.hid hbx
      by_cases hk0 : k = 0
      · subst hk0
        obtain ⟨u0, u1⟩ := HT.out _ hBr
        have u2 := HTB.out _ hBr hbx
        have lw : w.heap.size < wr.heap.size := lt_of_block hbx
        clear hBr hbx hdk
        cases d with
        | true =>
          go_wp2_with (go_at_call 139; refine (HDD.out _ HBR.out).mono ?_; rintro e w4 ⟨he, hB⟩; have he := he.yes; subst he; have HB4 := Lib.hid hB; clear hB)
          go_roundg 0
          case measure => omega
          case rel => exact ⟨1, by go_num, by omega, by omega, up HBR.out HB4.out, (HB4.out.block _ (lt_of_block HBX.out)).trans HBX.out, by simp⟩
        | false =>
          go_wp2_with (go_at_call 139; refine (HDD.out _ HBR.out).mono ?_; rintro e w4 ⟨he, hB⟩; obtain ⟨c, hc, he⟩ := he.no; subst he; have HC := Lib.hid hc; have HB4 := Lib.hid hB; clear hB hc)
          exact ⟨rfl, AnsB.ofNo HC.out, up HBR.out HB4.out⟩
      · obtain rfl : k = 1 := by omega
        obtain rfl := hdk rfl
        clear hBr hbx hk0
        go_wp2_with fail
        go_end0
        exact ⟨AnsB.ofYes, HBR.out⟩
theorem enters_aList1 : Enters Tryz.prog 155 := enters_of Tryz.func155 (by kernel_rfl) rfl
set_option maxHeartbeats 1000000 in
theorem aList_none (n : Nat) (R : RS) (rv : Value) (w : World) (hS : ∀ b, S b → b < w.heap.size) (hR : RowIs n S w rv R) (hl : R.front.length ≤ 1000) (hl2 : R.back.length ≤ 1000) :
    Calls Tryz.prog 94 #[rv, .slice none 0 0] w (fun e w' => PartEnd n S w w' (listP R fun _ => true) e) := by
  have hmf : ∀ (fn : Fn) (first cap : Array Value) (w : World), (Instr.makeFunc fn first cap).run Tryz.prog w = .ok (.func fn first cap) w := fun _ _ _ _ => rfl
  have HR := Lib.hid hR
  have HSS := Lib.hid hS
  clear hS
  have HF := Lib.hid (fnT_list (S := S) n w)
  obtain ⟨fa, fc, ba, bc, m, rfl, _⟩ := hR
  obtain ⟨fl, hfl⟩ : ∃ k, R.front.length = k := ⟨_, rfl⟩
  obtain ⟨bl, hbl⟩ : ∃ k, R.back.length = k := ⟨_, rfl⟩
  rw [hfl, hbl] at HR ⊢
  have HL := Lib.hid (show R.front.length ≤ 1000 ∧ R.back.length ≤ 1000 from ⟨hl, hl2⟩)
  clear hl hl2 hfl hbl
  go_enter Tryz.func94, Tryz.ntmps94
  go_wp2_with fail
  refine bodyPost_ret (v := .agg #[.func (.func 62) #[] #[], .func (.func 155) #[] #[.pointer (some ⟨w.heap.size, 0, none⟩), .pointer (some ⟨w.heap.size + 1, 0, none⟩)], .bool false]) (by simp [results, Tryz.results94, go_sem]) rfl ⟨_, _, _, rfl, ⟨HF.out.below (bel3 _ _ _ _), ⟨_, _, rfl, enters_aList1, fun W hW hmW t hin ha hp => ?_⟩, rfl⟩, bel3 _ _ _ _⟩
  have hk : t.form.kd = 3 := by simpa [listP, listF] using hp
  have e1 : ∀ o o' o'' : Obj, (((w.alloc o).alloc o').alloc o'').heap[w.heap.size]? = some o := fun o o' o'' => (Below.heap_alloc _ _ _ (by simp; omega)).trans ((Below.heap_alloc _ _ _ (by simp)).trans (heap_alloc_new w o))
  have e2 : ∀ o o' o'' : Obj, (((w.alloc o).alloc o').alloc o'').heap[w.heap.size + 1]? = some o' := fun o o' o'' => (Below.heap_alloc _ _ _ (by simp)).trans (heap2 w o o')
  exact aList1_none n R _ _ _ w.heap.size (w.heap.size + 1) t W hmW (HR.out.apart ((bel3 _ _ _ _).apart.trans hW)) HL.out.1 HL.out.2 ((hW.block _ (by simp; omega) (fun e => absurd (HSS.out _ e) (by omega))).trans (e1 _ _ _)) ((hW.block _ (by simp) (fun e => absurd (HSS.out _ e) (by omega))).trans (e2 _ _ _)) hin ha hk
set_option maxHeartbeats 1000000 in
theorem aList_differ (n : Nat) (R : RS) (rv : Value) (B3 tc : Nat) (w : World) (hS : ∀ b, S b → b < w.heap.size) (hR : RowIs n S w rv R) (hl : R.front.length ≤ 1000) (hl2 : R.back.length ≤ 1000) (hpre : ∀ ks : List Fm, R.ok ks = true → ∀ f ∈ ks, PreD f)
    (h3 : B3 < w.heap.size ∧ ¬ S B3 ∧ w.cell? ⟨B3, 0, none⟩ = some (.func (.func 139) #[] #[])) :
    Calls Tryz.prog 94 #[rv, .slice (some ⟨B3, 0, none⟩) 1 tc] w (fun e w' => PartEnd n S w w' (listP R differB) e) := by
  have hmf : ∀ (fn : Fn) (first cap : Array Value) (w : World), (Instr.makeFunc fn first cap).run Tryz.prog w = .ok (.func fn first cap) w := fun _ _ _ _ => rfl
  have HR := Lib.hid hR
  have HSS := Lib.hid hS
  clear hS
  have HF := Lib.hid (fnT_list (S := S) n w)
  have H3 := Lib.hid h3
  have HPRE := Lib.hid hpre
  obtain ⟨fa, fc, ba, bc, m, rfl, _⟩ := hR
  obtain ⟨fl, hfl⟩ : ∃ k, R.front.length = k := ⟨_, rfl⟩
  obtain ⟨bl, hbl⟩ : ∃ k, R.back.length = k := ⟨_, rfl⟩
  rw [hfl, hbl] at HR ⊢
  have HL := Lib.hid (show R.front.length ≤ 1000 ∧ R.back.length ≤ 1000 from ⟨hl, hl2⟩)
  clear hl hl2 hfl hbl h3 hpre
  go_enter Tryz.func94, Tryz.ntmps94
  go_wp2_with fail
  refine bodyPost_ret (v := .agg #[.func (.func 62) #[] #[], .func (.func 155) #[] #[.pointer (some ⟨w.heap.size, 0, none⟩), .pointer (some ⟨w.heap.size + 1, 0, none⟩)], .bool false]) (by simp [results, Tryz.results94, go_sem]) rfl ⟨_, _, _, rfl, ⟨HF.out.below (bel3 _ _ _ _), ⟨_, _, rfl, enters_aList1, fun W hW hmW t hin ha hp => ?_⟩, rfl⟩, bel3 _ _ _ _⟩
  have hk : t.form.kd = 3 := by simpa [listP, listF] using hp
  have e1 : ∀ o o' o'' : Obj, (((w.alloc o).alloc o').alloc o'').heap[w.heap.size]? = some o := fun o o' o'' => (Below.heap_alloc _ _ _ (by simp; omega)).trans ((Below.heap_alloc _ _ _ (by simp)).trans (heap_alloc_new w o))
  have e2 : ∀ o o' o'' : Obj, (((w.alloc o).alloc o').alloc o'').heap[w.heap.size + 1]? = some o' := fun o o' o'' => (Below.heap_alloc _ _ _ (by simp)).trans (heap2 w o o')
  have hb := ((bel3 w _ _ _).apart (S := S)).trans hW
  exact aList1_differ n R _ _ _ w.heap.size (w.heap.size + 1) B3 tc t W hmW (HR.out.apart hb) HL.out.1 HL.out.2 HPRE.out ((hW.block _ (by simp; omega) (fun e => absurd (HSS.out _ e) (by omega))).trans (e1 _ _ _)) ((hW.block _ (by simp) (fun e => absurd (HSS.out _ e) (by omega))).trans (e2 _ _ _)) ⟨Nat.lt_of_lt_of_le H3.out.1 hb.size, (hb.cell (p := ⟨B3, 0, none⟩) H3.out.1 H3.out.2.1).trans H3.out.2.2⟩ hin ha hk
end Go.Proofs.YtmlfiopbdlaaaaaGreat
