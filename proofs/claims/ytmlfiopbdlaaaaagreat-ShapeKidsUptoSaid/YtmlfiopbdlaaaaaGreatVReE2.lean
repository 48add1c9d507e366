/- The document's expr, put together. (Made by genre2.py.) -/
import Derived.Test.YtmlfiopbdlaaaaaGreatJ15
import Derived.Test.YtmlfiopbdlaaaaaGreatJ6
namespace Go.Proofs.YtmlfiopbdlaaaaaGreat
open Go.RowKit Go.Deep
theorem hdIn_of {f : Fm} {x : List UInt8} {L : List (List UInt8)} (h : (headF f).toList = x) (hx : L.contains x = true) : hdIn f L = true := by
  unfold hdIn; rw [any_mem, h]; simpa using hx
theorem hdIn_sub {f : Fm} {A B : List (List UInt8)} (h : hdIn f B = false) (d : (A.all fun x => B.contains x) = true) : hdIn f A = false := by
  cases ha : hdIn f A with
  | false => rfl
  | true =>
    unfold hdIn at h ha
    rw [any_mem, decide_eq_true_iff] at ha
    rw [any_mem, decide_eq_false_iff_not] at h
    have := List.all_eq_true.1 d _ ha
    exact absurd (by simpa using this) h
theorem hdIn_empty {f : Fm} {A : List (List UInt8)} (h : (headF f).toList = []) (d : A.contains [] = false) : hdIn f A = false := by
  unfold hdIn; rw [any_mem, h, decide_eq_false_iff_not]; simpa using d
theorem bind1_iff {E : Fm → Bool} {m : Nat} {l : List Fm} : BindL E m 1 l ↔ ∃ a b, l = [a, b] ∧ Ranged E m a ∧ E b = true := by
  unfold BindL
  constructor
  · rintro ⟨x, r, rfl, h, h1, h2⟩
    match r, h with
    | [y], _ => exact ⟨x, y, rfl, h1, h2 y (by simp)⟩
  · rintro ⟨a, b, rfl, h1, h2⟩
    exact ⟨a, [b], rfl, rfl, h1, fun z hz => by rw [List.mem_singleton] at hz; rw [hz]; exact h2⟩
theorem bind2_iff {E : Fm → Bool} {m : Nat} {l : List Fm} : BindL E m 2 l ↔ ∃ a b c, l = [a, b, c] ∧ Ranged E m a ∧ E b = true ∧ E c = true := by
  unfold BindL
  constructor
  · rintro ⟨x, r, rfl, h, h1, h2⟩
    match r, h with
    | [y, z], _ => exact ⟨x, y, z, rfl, h1, h2 y (by simp), h2 z (by simp)⟩
  · rintro ⟨a, b, c, rfl, h1, h2, h3⟩
    exact ⟨a, [b, c], rfl, rfl, h1, fun z hz => by
      simp only [List.mem_cons, List.not_mem_nil, or_false] at hz
      rcases hz with rfl | rfl
      · exact h2
      · exact h3⟩
theorem rexpr_empty (t : T) (hk3 : t.kd = 3) (hh : (headF t.form).toList = []) (P : Prop) (hP : ¬ P) (w : World) (hin : In w t) :
    Calls Tryz.prog 61 #[t.val] w fun e w' => AnsR P w e w' := by
  have HH := Lib.hid fun (W : World) (h : Below w.heap.size w W) => rhead_any t W (hin.below h)
  have e : headF t.form = ⟨#[]⟩ := by
    apply beq_bytes; rw [← Lib.toList_data]; exact hh
  rw [e] at HH
  have hv : t.val = .agg #[.int .i64 3, .int .i64 t.nn, .string t.tx, .slice t.ad t.ks.length t.cp] := by rw [T.val, hk3]
  have HP := Lib.hid hP
  rw [hv] at HH ⊢
  clear hv hk3 hin e hh hP
  go_enter Tryz.func61, Tryz.ntmps61
  go_wp2_with (first
    | (go_at_call 31; refine (HH.out _ (bel1 _ _)).mono ?_; rintro e w2 ⟨rfl, hB⟩; have HB := Lib.hid (up (bel1 _ _) hB); clear hB))
  go_ret
  exact AnsR.ofNo (by decide) HP.out HB.out
theorem rexpr_num (t : T) (hk : t.kd = 0) (P : Prop) (hP : P) (w : World) : Calls Tryz.prog 61 #[t.val] w fun e w' => AnsR P w e w' := by
  have hv : t.val = .agg #[.int .i64 0, .int .i64 t.nn, .string t.tx, .slice t.ad t.ks.length t.cp] := by rw [T.val, hk]
  have HP := Lib.hid hP
  rw [hv]
  clear hv hk hP
  go_enter Tryz.func61, Tryz.ntmps61
  go_wp2_with fail
  go_ret
  exact AnsR.of0 HP.out (bel1 _ _)
theorem rexpr_text (t : T) (hk : t.kd = 2) (P : Prop) (hP : ¬ P) (w : World) : Calls Tryz.prog 61 #[t.val] w fun e w' => AnsR P w e w' := by
  have hv : t.val = .agg #[.int .i64 2, .int .i64 t.nn, .string t.tx, .slice t.ad t.ks.length t.cp] := by rw [T.val, hk]
  have HP := Lib.hid hP
  rw [hv]
  clear hv hk hP
  go_enter Tryz.func61, Tryz.ntmps61
  go_wp2_with fail
  go_ret
  exact AnsR.ofNo (by decide) HP.out (bel1 _ _)
theorem rexpr_odd (t : T) (h0 : t.kd ≠ 0) (h1 : t.kd ≠ 1) (h2 : t.kd ≠ 2) (h3 : t.kd ≠ 3) (P : Prop) (hP : ¬ P) (w : World) (hin : In w t) : Calls Tryz.prog 61 #[t.val] w fun e w' => AnsR P w e w' := by
  have HH := Lib.hid fun (W : World) (h : Below w.heap.size w W) => rhead_any t W (hin.below h)
  have e : headF t.form = ⟨#[]⟩ := headF_nil (by unfold Fm.kids; rw [T.form_kd, if_neg h3])
  rw [e] at HH
  have g0 : (t.kd == 0) = false := by simpa using h0
  have g1 : (t.kd == 1) = false := by simpa using h1
  have g2 : (t.kd == 2) = false := by simpa using h2
  have HP := Lib.hid hP
  clear hin e h0 h1 h2 h3 hP
  go_enter Tryz.func61, Tryz.ntmps61
  go_wp2_with (first
    | (go_at_call 31; refine (HH.out _ (bel1 _ _)).mono ?_; rintro e w2 ⟨rfl, hB⟩; have HB := Lib.hid (up (bel1 _ _) hB); clear hB))
  go_ret
  exact AnsR.ofNo (by decide) HP.out HB.out
abbrev fiveR : ByteArray := ⟨#[116, 114, 117, 101, 32, 102, 97, 108, 115, 101, 32, 110, 117, 108, 108, 32, 116, 104, 105, 115, 32, 114, 101, 115, 117, 108, 116]⟩
theorem exprW_row {s : ByteArray} (h : (32 : UInt8) ∉ s.data.toList) : exprW s = (inB s.data.toList [] fiveR.data.toList || !inB s.data.toList [] rowB) := by
  have e5 : splitB [] fiveR.data.toList = fiveL := by kernel_rfl
  unfold exprW
  rw [row_mem, resv_mem h, inB_split, e5]
set_option maxHeartbeats 2000000 in
set_option maxRecDepth 100000 in
theorem rexpr_word (t : T) (hk : t.kd = 1) (_hs : t.tx.size ≤ 1000) (hb : (32 : UInt8) ∉ t.tx.data.toList) (w : World) : Calls Tryz.prog 61 #[t.val] w fun e w' => AnsR (exprW t.tx = true) w e w' := by
  have hv : t.val = .agg #[.int .i64 1, .int .i64 t.nn, .string t.tx, .slice t.ad t.ks.length t.cp] := by rw [T.val, hk]
  have hw := exprW_row hb
  have HF := Lib.hid fun (W : World) (b : Bool) (hb : inB t.tx.data.toList [] fiveR.data.toList = b) => in_val t.tx fiveR (by kernel_rfl) b hb W
  have HI : Hid (∀ (W : World) (b : Bool), inB t.tx.data.toList [] rowB = b → ∀ R : ByteArray, Nat.ble R.size 1000000 = true → R.data.toList = rowB → Calls Tryz.prog 32 #[.string t.tx, .string R] W fun e w' => e = .returned (.bool b) ∧ W = w') := Lib.hid fun W b hb R hR e => in_val t.tx R hR b (by rw [e]; exact hb) W
  rw [hv]
  clear hv hk hb _hs
  cases h5 : inB t.tx.data.toList [] fiveR.data.toList with
  | true =>
    have HFF := Lib.hid fun (W : World) => HF.out W true h5
    have HW : Hid (exprW t.tx = true) := Lib.hid (by rw [hw, h5]; rfl)
    clear h5 hw HF
    go_enter Tryz.func61, Tryz.ntmps61
    go_wp2_with (first
      | (go_at_call 32; with_reducible refine (HFF.out _).mono ?_; rintro e wi ⟨rfl, rfl⟩)
      | (go_at_call 102; refine (truth_any _ _).mono ?_; rintro e w4 ⟨rfl, rfl⟩))
    go_ret
    exact AnsR.of0 HW.out (bel1 _ _)
  | false =>
    have HFF := Lib.hid fun (W : World) => HF.out W false h5
    rw [h5] at hw
    obtain ⟨b, hb⟩ : ∃ b, inB t.tx.data.toList [] rowB = b := ⟨_, rfl⟩
    rw [hb] at hw
    have HII := Lib.hid fun (W : World) => HI.out W b hb
    have HW := Lib.hid hw
    clear h5 hw HF HI hb
    go_enter Tryz.func61, Tryz.ntmps61
    go_wp2_with (first
      | (go_at_call 32; with_reducible refine (HFF.out _).mono ?_; rintro e wi ⟨rfl, rfl⟩)
      | (go_at_call 32; refine (HII.out _ _ (by kernel_rfl) (by kernel_rfl)).mono ?_; rintro e wj ⟨rfl, rfl⟩)
      | (go_at_call 102; refine (truth_q _ _).mono ?_; rintro e w4 ⟨⟨q1, rfl, hq1⟩, rfl⟩; have HQ1 := Lib.hid hq1; clear hq1))
    go_ret
    exact ⟨_, rfl, HQ1.out.trans (by rw [HW.out]; simp), bel1 _ _⟩
abbrev cfive : List (List UInt8) := [[108, 101, 116], [112, 105, 99, 107], [97, 108, 108], [115, 111, 109, 101], [101, 118, 101, 114, 121], [97, 110, 121], [102, 110], [102, 111, 114, 97, 108, 108], [101, 120, 105, 115, 116, 115], [109, 97, 116, 99, 104]]
set_option maxHeartbeats 2000000 in
theorem rexpr_list (n : Nat) (E : Fm → Bool) (hE : HExp n E) (t : T) (w : World) (hk : t.kd = 3) (hin : In w t) (ha : Asked (n + 1) t) :
    Calls Tryz.prog 61 #[t.val] w fun e w' => AnsR (listOk E t.form = true) w e w' := by
  have hkf : t.form.kd = 3 := by rw [T.form_kd]; exact hk
  by_cases hne : (headF t.form).toList = []
  · refine rexpr_empty t hk hne _ ?_ w hin
    have : exprR E t.form = none := rowc_not (hdIn_empty hne (by kernel_rfl)) (hdIn_empty hne (by kernel_rfl)) (hdIn_empty hne (by kernel_rfl)) (hdIn_empty hne (by kernel_rfl)) (hdIn_empty hne (by kernel_rfl)) (hdIn_empty hne (by kernel_rfl)) (hdIn_empty hne (by kernel_rfl)) (hdIn_empty hne (by kernel_rfl)) (hdIn_empty hne (by kernel_rfl)) (hdIn_empty hne (by kernel_rfl)) (hdIn_empty hne (by kernel_rfl)) (hdIn_empty hne (by kernel_rfl)) (hdIn_empty hne (by kernel_rfl)) (hdIn_empty hne (by kernel_rfl)) (hdIn_empty hne (by kernel_rfl)) (hdIn_empty hne (by kernel_rfl)) (hdIn_empty hne (by kernel_rfl)) (hdIn_empty hne (by kernel_rfl)) (hdIn_empty hne (by kernel_rfl)) (hdIn_empty hne (by kernel_rfl))
    unfold listOk; rw [this]; simp
  obtain ⟨x, r, hxr⟩ : ∃ x r, t.ks = x :: r := by
    match h : t.ks with
    | [] => exact absurd (by rw [headF_nil (by unfold Fm.kids; rw [if_pos hkf, T.form_ks, h]; rfl)]; exact toList_nil rfl) hne
    | x :: r => exact ⟨x, r, rfl⟩
  have hks : t.form.ks = x.form :: r.map T.form := T.form_tail hxr
  have hd1 : t.form.ks.drop 1 = r.map T.form := by rw [hks]; rfl
  have hlen : r.length ≤ 1000000 := by have := ha.len hkf; rw [hxr, List.length_cons] at this; omega
  have hs : ∀ u ∈ r, Asked n u := fun u hu => ha.kidS hkf (by rw [hxr]; exact List.mem_cons_of_mem _ hu)
  cases h1 : hdIn t.form cneg with
  | true =>
    have hp := lo_neg (E := E) h1
    rw [hd1] at hp
    exact (rexpr_1 t _ x r hxr hk rfl hne ((inB_hd _ _ cneg (by kernel_rfl)).trans h1) _ w hin hlen (fun W a' c' _ hi _ => rsome_any n E hE a' c' r 1 1 W hi hlen hs)).mono fun e w' h => h.iff hp.symm
  | false =>
  cases h2 : hdIn t.form ctwo with
  | true =>
    have hp := lo_two (E := E) h2
    rw [hd1] at hp
    exact (rexpr_2 t _ x r hxr hk rfl hne ((inB_hd _ _ cneg (by kernel_rfl)).trans h1) ((inB_hd _ _ ctwo (by kernel_rfl)).trans h2) _ w hin hlen (fun W a' c' _ hi _ => rsome_any n E hE a' c' r 2 2 W hi hlen hs)).mono fun e w' h => h.iff hp.symm
  | false =>
  cases h3 : hdIn t.form cthree with
  | true =>
    have hp := lo_three (E := E) h3
    rw [hd1] at hp
    exact (rexpr_3 t _ x r hxr hk rfl hne ((inB_hd _ _ cneg (by kernel_rfl)).trans h1) ((inB_hd _ _ ctwo (by kernel_rfl)).trans h2) ((inB_hd _ _ cthree (by kernel_rfl)).trans h3) _ w hin hlen (fun W a' c' _ hi _ => rsome_any n E hE a' c' r 3 3 W hi hlen hs)).mono fun e w' h => h.iff hp.symm
  | false =>
  cases h4 : hdIn t.form cany with
  | true =>
    have hp := lo_any (E := E) h4
    rw [hd1] at hp
    exact (rexpr_4 t _ x r hxr hk rfl hne ((inB_hd _ _ cneg (by kernel_rfl)).trans h1) ((inB_hd _ _ ctwo (by kernel_rfl)).trans h2) ((inB_hd _ _ cthree (by kernel_rfl)).trans h3) ((inB_hd _ _ cany (by kernel_rfl)).trans h4) _ w hin hlen (fun W a' c' _ hi _ => rexprs_any n E hE a' c' r W hi hlen hs)).mono fun e w' h => h.iff hp.symm
  | false =>
  by_cases h6 : (headF t.form).toList = [97, 112, 112]
  · have hp := lo_app (E := E) (hdIn_of h6 (L := capp) (by kernel_rfl))
    rw [hd1] at hp
    have hp' : (1 ≤ (r.map T.form).length ∧ (r.map T.form).length ≤ r.length ∧ AllE E (r.map T.form)) ↔ listOk E t.form = true := by rw [hp]; simp
    exact (rexpr_app t _ x r hxr hk rfl hne ((inB_hd _ _ cneg (by kernel_rfl)).trans h1) ((inB_hd _ _ ctwo (by kernel_rfl)).trans h2) ((inB_hd _ _ cthree (by kernel_rfl)).trans h3) ((inB_hd _ _ cany (by kernel_rfl)).trans h4) h6 _ w hin hlen (fun W a' c' _ hi _ => rsome_any n E hE a' c' r 1 r.length W hi hlen hs)).mono fun e w' h => h.iff hp'
  have h6' : ((headF t.form).toList == [97, 112, 112]) = false := by simpa using h6
  cases h5 : hdIn t.form cfive with
  | true =>
    have bind : ∀ (P : Prop), (P ↔ listOk E t.form = true) → (∀ (W : World) (a' : Option Addr) (c' : Nat), InL W a' 0 r → r.length ≤ c' → Calls Tryz.prog 105 #[.string (headF t.form), .slice a' r.length c'] W fun e w' => AnsR P W e w') → Calls Tryz.prog 61 #[t.val] w fun e w' => AnsR (listOk E t.form = true) w e w' := fun P hP hC =>
      (rexpr_5 t _ x r hxr hk rfl hne ((inB_hd _ _ cneg (by kernel_rfl)).trans h1) ((inB_hd _ _ ctwo (by kernel_rfl)).trans h2) ((inB_hd _ _ cthree (by kernel_rfl)).trans h3) ((inB_hd _ _ cany (by kernel_rfl)).trans h4) h6' ((inB_hd _ _ cfive (by kernel_rfl)).trans h5) P w hin hlen (fun W a' c' _ hi hc => hC W a' c' hi hc)).mono fun e w' h => h.iff hP
    rcases hdIn_yes h5 with q | h5
    · have hp := lo_let (E := E) (hdIn_of q (L := clet) (by kernel_rfl))
      rw [hd1] at hp
      exact bind _ ((bind1_iff.trans hp.symm)) (fun W a' c' hi hc => rbind_let n E hE _ q a' c' r W hi hlen hc hs)
    rcases hdIn_yes h5 with q | h5
    · have hp := lo_pick (E := E) (hdIn_of q (L := cpick) (by kernel_rfl))
      rw [hd1] at hp
      exact bind _ ((bind2_iff.trans hp.symm)) (fun W a' c' hi hc => rbind_pick n E hE _ q a' c' r W hi hlen hc hs)
    rcases hdIn_yes h5 with q | h5
    · have hp := lo_all (E := E) (hdIn_of q (L := call) (by kernel_rfl))
      rw [hd1] at hp
      exact bind _ ((bind1_iff.trans hp.symm)) (fun W a' c' hi hc => rbind_all n E hE _ q a' c' r W hi hlen hc hs)
    rcases hdIn_yes h5 with q | h5
    · have hp := lo_all (E := E) (hdIn_of q (L := call) (by kernel_rfl))
      rw [hd1] at hp
      exact bind _ ((bind1_iff.trans hp.symm)) (fun W a' c' hi hc => rbind_some n E hE _ q a' c' r W hi hlen hc hs)
    rcases hdIn_yes h5 with q | h5
    · have hp := lo_let (E := E) (hdIn_of q (L := clet) (by kernel_rfl))
      rw [hd1] at hp
      exact bind _ ((bind1_iff.trans hp.symm)) (fun W a' c' hi hc => rbind_every n E hE _ q a' c' r W hi hlen hc hs)
    rcases hdIn_yes h5 with q | h5
    · have hp := lo_let (E := E) (hdIn_of q (L := clet) (by kernel_rfl))
      rw [hd1] at hp
      exact bind _ ((bind1_iff.trans hp.symm)) (fun W a' c' hi hc => rbind_any n E hE _ q a' c' r W hi hlen hc hs)
    rcases hdIn_yes h5 with q | h5
    · have hp := lo_fn (E := E) (hdIn_of q (L := cfn) (by kernel_rfl))
      rw [hd1] at hp
      exact bind _ (hp.symm) (fun W a' c' hi hc => rbind_fn n E hE _ q a' c' r W hi hlen hc hs)
    rcases hdIn_yes h5 with q | h5
    · have hp := lo_quant (E := E) (hdIn_of q (L := cquant) (by kernel_rfl))
      rw [hd1] at hp
      exact bind _ (hp.symm) (fun W a' c' hi hc => rbind_forall n E hE _ q a' c' r W hi hlen hc hs)
    rcases hdIn_yes h5 with q | h5
    · have hp := lo_quant (E := E) (hdIn_of q (L := cquant) (by kernel_rfl))
      rw [hd1] at hp
      exact bind _ (hp.symm) (fun W a' c' hi hc => rbind_exists n E hE _ q a' c' r W hi hlen hc hs)
    rcases hdIn_yes h5 with q | h5
    · have hp := lo_match (E := E) (hdIn_of q (L := cmatch) (by kernel_rfl))
      rw [hd1] at hp
      exact bind _ (hp.symm) (fun W a' c' hi hc => rbind_match n E hE _ q a' c' r W hi hlen hc hs)
    exact (hdIn_nil h5).elim
  | false =>
    have spec : ∀ (P : Prop), (P ↔ listOk E t.form = true) → (∀ (W : World) (a' : Option Addr) (c' : Nat), InL W a' 0 r → r.length ≤ c' → Calls Tryz.prog 106 #[.string (headF t.form), .slice a' r.length c'] W fun e w' => AnsR P W e w') → Calls Tryz.prog 61 #[t.val] w fun e w' => AnsR (listOk E t.form = true) w e w' := fun P hP hC =>
      (rexpr_sp t _ x r hxr hk rfl hne ((inB_hd _ _ cneg (by kernel_rfl)).trans h1) ((inB_hd _ _ ctwo (by kernel_rfl)).trans h2) ((inB_hd _ _ cthree (by kernel_rfl)).trans h3) ((inB_hd _ _ cany (by kernel_rfl)).trans h4) h6' ((inB_hd _ _ cfive (by kernel_rfl)).trans h5) P w hin hlen (fun W a' c' _ hi hc => hC W a' c' hi hc)).mono fun e w' h => h.iff hP
    by_cases q0 : (headF t.form).toList = [111, 108, 100]
    · have hp := lo_old (E := E) (hdIn_of q0 (L := cold) (by kernel_rfl))
      rw [hd1] at hp
      exact spec _ hp.symm (fun W a' c' hi hc => rspec_old n E hE _ q0 a' c' r W hi hlen hc hs)
    by_cases q1 : (headF t.form).toList = [105, 115]
    · have hp := lo_isget (E := E) (hdIn_of q1 (L := cisget) (by kernel_rfl))
      rw [hd1] at hp
      exact spec _ hp.symm (fun W a' c' hi hc => rspec_is n E hE _ q1 a' c' r W hi hlen hc hs)
    by_cases q2 : (headF t.form).toList = [103, 101, 116]
    · have hp := lo_isget (E := E) (hdIn_of q2 (L := cisget) (by kernel_rfl))
      rw [hd1] at hp
      exact spec _ hp.symm (fun W a' c' hi hc => rspec_get n E hE _ q2 a' c' r W hi hlen hc hs)
    by_cases q3 : (headF t.form).toList = [112, 114, 101, 102, 105, 120]
    · have hp := lo_prefix (E := E) (hdIn_of q3 (L := cprefix) (by kernel_rfl))
      rw [hd1] at hp
      exact spec _ hp.symm (fun W a' c' hi hc => rspec_prefix n E hE _ q3 a' c' r W hi hlen hc hs)
    by_cases q4 : (headF t.form).toList = [99, 97, 108, 108]
    · have hp := lo_call (E := E) (by rw [hks]; simp) (hdIn_of q4 (L := ccall) (by kernel_rfl))
      rw [hd1] at hp
      exact spec _ hp.symm (fun W a' c' hi hc => rspec_call n E hE _ q4 a' c' r W hi hlen hc hs)
    by_cases q5 : (headF t.form).toList = [109, 97, 107, 101]
    · have hp := lo_call (E := E) (by rw [hks]; simp) (hdIn_of q5 (L := ccall) (by kernel_rfl))
      rw [hd1] at hp
      exact spec _ hp.symm (fun W a' c' hi hc => rspec_make n E hE _ q5 a' c' r W hi hlen hc hs)
    by_cases q6 : (headF t.form).toList = [98, 105, 116, 115]
    · have hp := lo_bits (E := E) (hdIn_of q6 (L := cbits) (by kernel_rfl))
      rw [hd1] at hp
      exact spec _ hp.symm (fun W a' c' hi hc => rspec_bits n E hE _ q6 a' c' r W hi hlen hc hs)
    by_cases q7 : (headF t.form).toList = [102, 117, 101, 108]
    · have hp := lo_fuel (E := E) (hdIn_of q7 (L := cfuel) (by kernel_rfl))
      rw [hd1] at hp
      exact spec _ hp.symm (fun W a' c' hi hc => rspec_fuel n E hE _ q7 a' c' r W hi hlen hc hs)
    by_cases q8 : (headF t.form).toList = [101, 109, 112, 116, 121]
    · have hp := lo_empty (E := E) (hdIn_of q8 (L := cempty) (by kernel_rfl))
      rw [hd1] at hp
      exact spec _ hp.symm (fun W a' c' hi hc => rspec_empty n E hE _ q8 a' c' r W hi hlen hc hs)
    by_cases q9 : (headF t.form).toList = [105, 109, 97, 112]
    · have hp := lo_imap (E := E) (hdIn_of q9 (L := cimap) (by kernel_rfl))
      rw [hd1] at hp
      exact spec _ hp.symm (fun W a' c' hi hc => rspec_imap n E hE _ q9 a' c' r W hi hlen hc hs)
    by_cases q10 : (headF t.form).toList = [109, 97, 112]
    · have hp := lo_map (E := E) (hdIn_of q10 (L := cmap) (by kernel_rfl))
      rw [hd1] at hp
      exact spec _ hp.symm (fun W a' c' hi hc => rspec_map n E hE _ q10 a' c' r W hi hlen hc hs)
    have hno : exprR E t.form = none := rowc_not h1 h2 h3 h4 (show hdIn t.form cmap = false by unfold hdIn; rw [any_mem, decide_eq_false_iff_not]; simp only [List.mem_cons, List.not_mem_nil, or_false]; exact q10) (show hdIn t.form cbits = false by unfold hdIn; rw [any_mem, decide_eq_false_iff_not]; simp only [List.mem_cons, List.not_mem_nil, or_false]; exact q6) (show hdIn t.form cempty = false by unfold hdIn; rw [any_mem, decide_eq_false_iff_not]; simp only [List.mem_cons, List.not_mem_nil, or_false]; exact q8) (show hdIn t.form cimap = false by unfold hdIn; rw [any_mem, decide_eq_false_iff_not]; simp only [List.mem_cons, List.not_mem_nil, or_false]; exact q9) (show hdIn t.form capp = false by unfold hdIn; rw [any_mem, decide_eq_false_iff_not]; simp only [List.mem_cons, List.not_mem_nil, or_false]; exact h6) (show hdIn t.form cisget = false by unfold hdIn; rw [any_mem, decide_eq_false_iff_not]; simp only [List.mem_cons, List.not_mem_nil, or_false, not_or]; exact ⟨q1, q2⟩) (show hdIn t.form ccall = false by unfold hdIn; rw [any_mem, decide_eq_false_iff_not]; simp only [List.mem_cons, List.not_mem_nil, or_false, not_or]; exact ⟨q4, q5⟩) (show hdIn t.form cprefix = false by unfold hdIn; rw [any_mem, decide_eq_false_iff_not]; simp only [List.mem_cons, List.not_mem_nil, or_false]; exact q3) (show hdIn t.form cfuel = false by unfold hdIn; rw [any_mem, decide_eq_false_iff_not]; simp only [List.mem_cons, List.not_mem_nil, or_false]; exact q7) (show hdIn t.form cold = false by unfold hdIn; rw [any_mem, decide_eq_false_iff_not]; simp only [List.mem_cons, List.not_mem_nil, or_false]; exact q0) (hdIn_sub h5 (by kernel_rfl)) (hdIn_sub h5 (by kernel_rfl)) (hdIn_sub h5 (by kernel_rfl)) (hdIn_sub h5 (by kernel_rfl)) (hdIn_sub h5 (by kernel_rfl)) (hdIn_sub h5 (by kernel_rfl))
    refine spec False ⟨fun h => h.elim, fun h => by unfold listOk at h; rw [hno] at h; cases h⟩ (fun W a' c' _ _ => rspec_none _ (by simpa using q0) (by simpa using q1) (by simpa using q2) (by simpa using q3) (by simpa using q4) (by simpa using q5) (by simpa using q6) (by simpa using q7) (by simpa using q8) (by simpa using q9) (by simpa using q10) a' c' r W)
theorem word_blank {f : Fm} (h : fieldsF f = true) (hk : f.kd = 1) : (32 : UInt8) ∉ f.tx.data.toList := by
  rw [fieldsF_eq, Bool.and_eq_true] at h
  have h := h.1
  have e : aloneF f = ((f.nn == 0) && f.ks.isEmpty && wordB f.tx) := by
    unfold aloneF
    rw [if_neg (by rw [hk]; decide), if_pos hk]
  rw [e, Bool.and_eq_true] at h
  have h := h.2
  simp only [wordB, Bool.and_eq_true] at h
  have h := h.1.2
  intro hm
  have := List.all_eq_true.1 h 32 hm
  exact absurd this (by decide)
theorem hExp : ∀ n, HExp n (okE n)
  | 0 => fun t W _ ha => absurd ha.small (by omega)
  | n + 1 => fun t W hin ha => by
    have ek : t.form.kd = t.kd := T.form_kd t
    unfold okE
    rw [ek]
    by_cases h0 : t.kd = 0
    · rw [if_pos h0]; exact rexpr_num t h0 _ rfl W
    · rw [if_neg h0]
      by_cases h1 : t.kd = 1
      · rw [if_pos h1, T.form_tx]
        have hb := word_blank ha.good (ek.trans h1)
        have hz := good_word ha.good (ek.trans h1)
        rw [T.form_tx] at hb hz
        exact rexpr_word t h1 hz hb W
      · rw [if_neg h1]
        by_cases h3 : t.kd = 3
        · rw [if_pos h3]
          exact rexpr_list n (okE n) (hExp n) t W h3 hin ha
        · rw [if_neg h3]
          by_cases h2 : t.kd = 2
          · exact rexpr_text t h2 _ (by simp) W
          · exact rexpr_odd t h0 h1 h2 h3 _ (by simp) W hin
theorem rExpr_any (t : T) (w : World) (hin : In w t) (hb : szF t.form ≤ 4611686018427387903) :
    Calls Tryz.prog 30 #[t.val] w fun e w' => AnsR ((validF t.form && okX t.form) = true) w e w' := by
  have HV := Lib.hid fun (W : World) (h : Below w.heap.size w W) => rvalid_any t W (hin.below h) hb
  have HX := Lib.hid fun (hv : validF t.form = true) (W : World) (h : Below w.heap.size w W) => hExp _ t W (hin.below h) (valid_asked hv)
  change Hid (∀ (hv : validF t.form = true) (W : World) (h : Below w.heap.size w W), Calls Tryz.prog 61 #[t.val] W fun e w' => AnsR (okX t.form = true) W e w') at HX
  cases hv : validF t.form with
  | false =>
    rw [hv] at HV
    clear hin hv hb HX
    go_enter Tryz.func30, Tryz.ntmps30
    go_wp2_with (first
      | (go_at_call 60; refine (HV.out _ (bel1 _ _)).mono ?_; rintro e w2 ⟨rfl, hB⟩; have HB := Lib.hid (up (bel1 _ _) hB); clear hB))
    go_ret
    exact AnsR.ofNo (by decide) (by simp) HB.out
  | true =>
    rw [hv] at HV
    have HXX := Lib.hid (HX.out hv)
    clear hin hv hb HX
    go_enter Tryz.func30, Tryz.ntmps30
    go_wp2_with (first
      | (go_at_call 60; refine (HV.out _ (bel1 _ _)).mono ?_; rintro e w2 ⟨rfl, hB⟩; obtain ⟨b0, b1, b2, b3⟩ := Box4.cells (w := w2) (b := w.heap.size) (t := t) ((hB.block w.heap.size (by simp)).trans (Box4.new w t)); have HB := Lib.hid (up (bel1 _ _) hB); clear hB)
      | (go_at_call 61; refine (HXX.out _ HB.out).mono ?_; intro e w4 hA; have HA := Lib.hid hA; obtain ⟨q, rfl, hq, hB⟩ := hA; clear hB hq))
    go_ret
    exact (HA.out.iff (by simp)).up HB.out
end Go.Proofs.YtmlfiopbdlaaaaaGreat
