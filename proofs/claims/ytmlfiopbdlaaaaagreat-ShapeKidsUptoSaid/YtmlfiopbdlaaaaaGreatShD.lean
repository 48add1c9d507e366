/- shape.differ: no two Kids have one name. -/
import Derived.Test.YtmlfiopbdlaaaaaGreatSh3
import Derived.Maps.OwnOps
import Derived.Maps.Views
import Derived.StringKeys
namespace Go.Proofs.YtmlfiopbdlaaaaaGreat
open Go.RowKit Go.Deep Go.Maps Go.WideMaps

theorem lawStr : Keyed Tryz.prog 9 := string_keyed Tryz.underlying9
theorem zeroBool (w : World) : (zeroValue 4).run Tryz.prog w = .ok (.bool false) w := by kernel_rfl
/-- 'm[k]' at elements that are bools. -/
theorem wpList_lookup_own_bool {H : Type} {P : Program} (w : World) {ops : Array Oper} {rest : List Oper} {o : Oper} {a : Act} {Q : Exit → Act → World → Prop}
    (hg : o.guard = none) (m x : Operand) (t : TypeId) (hop : o.op = Op.lookup t m x false)
    (k e : TypeId) (K : Keyed P k) (ht : P.underlying t = some (.map k e)) (he : P.underlying e = some .bool) (hz : (zeroValue e).run P w = .ok (.bool false) w) (b n : Nat) (D : DataW H)
    (hm : a.eval m = .map (some b)) (hown : w.ownsMap P k (plainElem P e) b n D) (key : Value) (kl : Lit) (hx : a.eval x = key) (hkey : keyOf P k key = some kl)
    (hK : ∀ c : Bool, D.atKey kl (.lit (.bool false)) = .lit (.bool c) → wpList P ops Q rest (a.put o.dst (.bool c)) w) :
    wpList P ops Q (o :: rest) a w := by
  refine wpList_plain hg fun K' hK' => ?_
  obtain ⟨v, ps, hrun, hv⟩ := hown.lookup K ht hz (plainElem_bool he false) hkey
  have hvb : ∃ c : Bool, v = .bool c ∧ D.atKey kl (.lit (.bool false)) = .lit (.bool c) := by
    unfold plainElem at hv
    rw [he] at hv
    cases v <;> simp at hv
    rename_i c
    exact ⟨c, rfl, hv.1.symm⟩
  obtain ⟨c, rfl, hat⟩ := hvb
  unfold Oper.wp
  simp [execOp, hop, hm, hx, hrun, Result.andThen]
  exact hK' _ _ (hK c hat)

/-- The name of a Kid: as a word, or as a list that begins with it. -/
def nameOf (f : Fm) : List UInt8 := if f.kd = 3 then (match f.ks with | [] => [] | k :: _ => k.tx.data.toList) else f.tx.data.toList
def namesOf (ks : List Fm) : List (List UInt8) := ks.map nameOf
def differB (ks : List Fm) : Bool := decide (namesOf ks).Nodup
/-- What the map says of the names that were seen. -/
def SeenD (D : DataW Unit) (l : List (List UInt8)) : Prop := IsMap D ∧ ∀ s : List UInt8, D.atKey (.string s) (.lit (.bool false)) = .lit (.bool (decide (s ∈ l)))
theorem SeenD.start : SeenD (.map []) [] := ⟨by simp [IsMap], fun s => by simp [DataW.atKey]⟩
theorem SeenD.put {D : DataW Unit} {l : List (List UInt8)} (h : SeenD D l) (s : List UInt8) : SeenD (D.put (.string s) (.lit (.bool true))) (l ++ [s]) := by
  refine ⟨h.1.put _ _, fun z => ?_⟩
  by_cases e : z = s
  · subst e
    rw [atKey_put_same h.1 (by simp [WideAt.IsKeyLit])]
    simp
  · rw [atKey_put_other (by simpa using e), h.2 z]
    simp [e]
theorem seen_cc {D : DataW Unit} {l : List (List UInt8)} {s : List UInt8} {cc b : Bool} (h : SeenD D l) (hc : D.atKey (.string s) (.lit (.bool false)) = .lit (.bool cc)) (hb : decide (s ∈ l) = b) : cc = b := by
  have h9 := h.2 s
  rw [hc, hb] at h9
  injection h9 with h9
  injection h9 with h9
def PreD (f : Fm) : Prop := f.kd = 3 → f.ks ≠ []
theorem names_take {ks : List Fm} {k : Nat} (hk : k < ks.length) : namesOf (ks.take (k + 1)) = namesOf (ks.take k) ++ [nameOf ks[k]] := by
  unfold namesOf
  rw [List.take_add_one, List.getElem?_eq_getElem hk, List.map_append]; rfl
theorem differ_no {ks : List Fm} {k : Nat} (hk : k < ks.length) (h : nameOf ks[k] ∈ namesOf (ks.take k)) : differB ks = false := by
  unfold differB
  rw [decide_eq_false_iff_not]
  intro hn
  have : namesOf ks = namesOf (ks.take k) ++ (nameOf ks[k] :: namesOf (ks.drop (k + 1))) := by
    unfold namesOf
    rw [← List.map_cons, ← List.drop_eq_getElem_cons hk, ← List.map_append, List.take_append_drop]
  rw [this] at hn
  exact (List.nodup_append.1 hn).2.2 _ h _ (by simp) rfl
set_option linter.unusedSimpArgs false in
set_option maxHeartbeats 8000000 in
set_option maxRecDepth 100000 in
theorem differ_any (a : Option Addr) (c : Nat) (ks : List T) (w : World) (hk : InL w a 0 ks) (hlen : ks.length ≤ 100000) (hp : ∀ t ∈ ks, PreD t.form) :
    Calls Tryz.prog 139 #[.slice a ks.length c] w fun e w' => AnsB (differB (ks.map T.form)) e ∧ Below w.heap.size w w' := by
  have hmm := @run_makeMap Tryz.prog
  have HK := Lib.hid fun (W : World) (h : Below w.heap.size w W) => hk.below h
  have HPR := Lib.hid fun j (h : j < ks.length) => hp ks[j] (List.getElem_mem h)
  obtain ⟨r, hr⟩ : ∃ r, differB (ks.map T.form) = r := ⟨_, rfl⟩
  have HR1 : Hid (∀ (k : Nat) (hk : k < ks.length), nameOf ks[k].form ∈ namesOf ((ks.map T.form).take k) → r = false) := Lib.hid fun k hk h => by
    rw [← hr]; exact differ_no (k := k) (by simpa using hk) (by simpa using h)
  have HR2 : Hid ((namesOf ((ks.map T.form).take ks.length)).Nodup → r = true) := Lib.hid fun h => by
    rw [← hr]; unfold differB; rw [List.take_of_length_le (by simp)] at h; simpa using h
  rw [hr]
  clear hk hp hr
  have mixed : Tryz.prog.follows .mixedOrders = true := by kernel_rfl
  go_enter Tryz.func139, Tryz.ntmps139
  go_wp2_with fail
  go_loopg [8] ks.length (fun q i wr => ∃ (k : Nat) (D : DataW Unit), q = ks.length - k ∧ k ≤ ks.length ∧ i = .int .i64 k ∧ wr.ownsMap Tryz.prog 9 (plainElem Tryz.prog 4) w.heap.size k D ∧ SeenD D (namesOf ((ks.map T.form).take k)) ∧ (namesOf ((ks.map T.form).take k)).Nodup ∧ Below w.heap.size w wr)
  case atStart => exact ⟨0, .map [], by omega, by omega, rfl, World.ownsMap_made _ _ _ _, SeenD.start, by simp [namesOf], bel1 _ _⟩
  case round =>
    obtain ⟨k, D, rfl, hk, rfl, hM, hSD, hND, hB⟩ := hrel
    have HM := Lib.hid hM
    have HSD := Lib.hid hSD
    have HND := Lib.hid hND
    have HB := Lib.hid hB
    by_cases hlt : k < ks.length
    · obtain ⟨⟨b, o, rfl, hx0, hx1, hx2, hx3⟩, hin⟩ := (HK.out wr hB).at k hlt
      have lb : b < wr.heap.size := World.block_lt_of_cell? _ _ hx0
      obtain ⟨t, ht⟩ : ∃ t, ks[k]'hlt = t := ⟨_, rfl⟩
      have HIN : Hid (In wr t) := Lib.hid (by rw [← ht]; exact hin)
      have hpr : PreD t.form := by rw [← ht]; exact HPR.out k hlt
      have y0 : wr.cell? ⟨b, o + k * 4, none⟩ = some (.int .i64 t.kd) := by rw [← ht]; exact hx0
      have y1 : wr.cell? ⟨b, o + k * 4 + 1, none⟩ = some (.int .i64 t.nn) := by rw [← ht]; exact hx1
      have y2 : wr.cell? ⟨b, o + k * 4 + 2, none⟩ = some (.string t.tx) := by rw [← ht]; exact hx2
      have y3 : wr.cell? ⟨b, o + k * 4 + 3, none⟩ = some (.slice t.ad t.ks.length t.cp) := by rw [← ht]; exact hx3
      have HTE := Lib.hid ht
      have gk : (k : Int) < (ks.length : Int) := by omega
      clear hM hSD hND hB hin ht hx0 hx1 hx2 hx3
      by_cases hk3 : t.kd = 3
      · have g3 : (t.kd == 3) = true := by simpa using hk3
        have hks : t.ks ≠ [] := by
          intro e
          have := hpr (by rw [T.form_kd]; exact hk3)
          rw [T.form_ks, e] at this; simp at this
        obtain ⟨u, us, hu⟩ := List.exists_cons_of_ne_nil hks
        have hlu : 0 < t.ks.length := by rw [hu]; simp
        obtain ⟨⟨b2, o2, ha2, hz⟩, hinu⟩ := HIN.out.inL.at 0 hlu
        have hu0 : t.ks[0]'hlu = u := by simp [hu]
        rw [hu0] at hz hinu
        simp only [Nat.zero_mul, Nat.add_zero] at hz
        obtain ⟨z0, z1, z2, z3⟩ := hz
        have lb2 : b2 < wr.heap.size := World.block_lt_of_cell? _ _ z0
        have HNM : Hid (nameOf ks[k].form = u.tx.data.toList) := Lib.hid (by
          rw [HTE.out]; unfold nameOf
          rw [T.form_kd, if_pos hk3, T.form_ks, hu]; simp [T.form_tx])
        have HXL := Lib.hid hinu.tx_le
        rw [ha2] at y3
        obtain ⟨tl, htl⟩ : ∃ tl, t.ks.length = tl := ⟨_, rfl⟩
        rw [htl] at y3 hlu
        have gl : (0 : Int) < (tl : Int) := by omega
        clear hk3 hks hu ha2 hu0 hinu hpr htl
        by_cases hmem : u.tx.data.toList ∈ namesOf ((ks.map T.form).take k)
        · have HCC : Hid (∀ cc : Bool, D.atKey (.string u.tx.data.toList) (.lit (.bool false)) = .lit (.bool cc) → cc = true) := Lib.hid fun cc h => seen_cc HSD.out h (by simpa using hmem)
          have HNO := Lib.hid (HR1.out k hlt (by rw [HNM.out]; exact hmem))
          clear hmem
          go_wp2_with (first
            | (at_lookup; refine wpList_lookup_own_bool _ rfl _ _ 114 rfl 9 4 lawStr Tryz.underlying114 Tryz.underlying4 (zeroBool _) w.heap.size k D rfl (HM.out.alloc _) _ (.string u.tx.data.toList) rfl (keyOf_string_mk Tryz.underlying9 HXL.out) ?_; intro cc hat; obtain rfl := HCC.out cc hat)
            | (go_at_call 78; refine (must_any _ _ _).mono ?_; rintro e w3 ⟨he, rfl⟩; simp only [AnsE, Bool.not_true, Bool.false_eq_true, if_false] at he; subst he)
            | (at_mapUpdate; refine wpList_mapUpdate_own _ rfl _ _ _ 114 rfl 9 4 lawStr Tryz.underlying114 (plainElem (H := Unit) Tryz.prog 4) w.heap.size k D rfl (HM.out.alloc _) (by unfold maxLen; omega) _ _ (.string u.tx.data.toList) rfl rfl (keyOf_string_mk Tryz.underlying9 HXL.out) _ [] (plainElem_bool Tryz.underlying4 true) ?_; intro w4 hm4 hg4; have HM4 := Lib.hid hm4; have HG4 := Lib.hid hg4; clear hm4 hg4))
          exact ⟨rfl, by rw [HNO.out]; exact AnsB.ofNo (by decide), HB.out.alloc (by have := HB.out.size; omega) _⟩
        · have HCC : Hid (∀ cc : Bool, D.atKey (.string u.tx.data.toList) (.lit (.bool false)) = .lit (.bool cc) → cc = false) := Lib.hid fun cc h => seen_cc HSD.out h (by simpa using hmem)
          have HND2 : Hid ((namesOf ((ks.map T.form).take (k + 1))).Nodup) := Lib.hid (by
            rw [names_take (by simpa using hlt)]
            refine List.nodup_append.2 ⟨HND.out, by simp, fun a ha b hb e => hmem ?_⟩
            rw [List.mem_singleton] at hb
            rw [← HNM.out]
            rw [hb] at e
            simp only [List.getElem_map] at e
            rw [← e]; exact ha)
          clear hmem
          go_wp2_with (first
            | (at_lookup; refine wpList_lookup_own_bool _ rfl _ _ 114 rfl 9 4 lawStr Tryz.underlying114 Tryz.underlying4 (zeroBool _) w.heap.size k D rfl (HM.out.alloc _) _ (.string u.tx.data.toList) rfl (keyOf_string_mk Tryz.underlying9 HXL.out) ?_; intro cc hat; obtain rfl := HCC.out cc hat)
            | (go_at_call 78; refine (must_any _ _ _).mono ?_; rintro e w3 ⟨he, rfl⟩; simp only [AnsE, Bool.not_false, if_true] at he; subst he)
            | (at_mapUpdate; refine wpList_mapUpdate_own _ rfl _ _ _ 114 rfl 9 4 lawStr Tryz.underlying114 (plainElem (H := Unit) Tryz.prog 4) w.heap.size k D rfl (HM.out.alloc _) (by unfold maxLen; omega) _ _ (.string u.tx.data.toList) rfl rfl (keyOf_string_mk Tryz.underlying9 HXL.out) _ [] (plainElem_bool Tryz.underlying4 true) ?_; intro w4 hm4 hg4; have HM4 := Lib.hid hm4; have HG4 := Lib.hid hg4; clear hm4 hg4))
          go_roundg (ks.length - (k + 1))
          case measure => omega
          case rel =>
            refine ⟨k + 1, _, by omega, by omega, by go_num, HM4.out, ?_, HND2.out, ?_⟩
            · rw [names_take (by simpa using hlt)]
              have e : nameOf ((ks.map T.form)[k]'(by simpa using hlt)) = u.tx.data.toList := by rw [← HNM.out]; simp
              rw [e]; exact HSD.out.put _
            · exact (HB.out.alloc (by have := HB.out.size; omega) _).grown HG4.out (by have := HB.out.size; simp; omega) (fun j hj => by cases hj; exact Nat.le_refl _)
      · have g3 : (t.kd == 3) = false := by simpa using hk3
        have HNM : Hid (nameOf ks[k].form = t.tx.data.toList) := Lib.hid (by
          rw [HTE.out]; unfold nameOf
          rw [T.form_kd, if_neg hk3, T.form_tx])
        have HXL := Lib.hid HIN.out.tx_le
        clear hk3 hpr
        by_cases hmem : t.tx.data.toList ∈ namesOf ((ks.map T.form).take k)
        · have HCC : Hid (∀ cc : Bool, D.atKey (.string t.tx.data.toList) (.lit (.bool false)) = .lit (.bool cc) → cc = true) := Lib.hid fun cc h => seen_cc HSD.out h (by simpa using hmem)
          have HNO := Lib.hid (HR1.out k hlt (by rw [HNM.out]; exact hmem))
          clear hmem
          go_wp2_with (first
            | (at_lookup; refine wpList_lookup_own_bool _ rfl _ _ 114 rfl 9 4 lawStr Tryz.underlying114 Tryz.underlying4 (zeroBool _) w.heap.size k D rfl (HM.out.alloc _) _ (.string t.tx.data.toList) rfl (keyOf_string_mk Tryz.underlying9 HXL.out) ?_; intro cc hat; obtain rfl := HCC.out cc hat)
            | (go_at_call 78; refine (must_any _ _ _).mono ?_; rintro e w3 ⟨he, rfl⟩; simp only [AnsE, Bool.not_true, Bool.false_eq_true, if_false] at he; subst he)
            | (at_mapUpdate; refine wpList_mapUpdate_own _ rfl _ _ _ 114 rfl 9 4 lawStr Tryz.underlying114 (plainElem (H := Unit) Tryz.prog 4) w.heap.size k D rfl (HM.out.alloc _) (by unfold maxLen; omega) _ _ (.string t.tx.data.toList) rfl rfl (keyOf_string_mk Tryz.underlying9 HXL.out) _ [] (plainElem_bool Tryz.underlying4 true) ?_; intro w4 hm4 hg4; have HM4 := Lib.hid hm4; have HG4 := Lib.hid hg4; clear hm4 hg4))
          exact ⟨rfl, by rw [HNO.out]; exact AnsB.ofNo (by decide), HB.out.alloc (by have := HB.out.size; omega) _⟩
        · have HCC : Hid (∀ cc : Bool, D.atKey (.string t.tx.data.toList) (.lit (.bool false)) = .lit (.bool cc) → cc = false) := Lib.hid fun cc h => seen_cc HSD.out h (by simpa using hmem)
          have HND2 : Hid ((namesOf ((ks.map T.form).take (k + 1))).Nodup) := Lib.hid (by
            rw [names_take (by simpa using hlt)]
            refine List.nodup_append.2 ⟨HND.out, by simp, fun a ha b hb e => hmem ?_⟩
            rw [List.mem_singleton] at hb
            rw [← HNM.out]
            rw [hb] at e
            simp only [List.getElem_map] at e
            rw [← e]; exact ha)
          clear hmem
          go_wp2_with (first
            | (at_lookup; refine wpList_lookup_own_bool _ rfl _ _ 114 rfl 9 4 lawStr Tryz.underlying114 Tryz.underlying4 (zeroBool _) w.heap.size k D rfl (HM.out.alloc _) _ (.string t.tx.data.toList) rfl (keyOf_string_mk Tryz.underlying9 HXL.out) ?_; intro cc hat; obtain rfl := HCC.out cc hat)
            | (go_at_call 78; refine (must_any _ _ _).mono ?_; rintro e w3 ⟨he, rfl⟩; simp only [AnsE, Bool.not_false, if_true] at he; subst he)
            | (at_mapUpdate; refine wpList_mapUpdate_own _ rfl _ _ _ 114 rfl 9 4 lawStr Tryz.underlying114 (plainElem (H := Unit) Tryz.prog 4) w.heap.size k D rfl (HM.out.alloc _) (by unfold maxLen; omega) _ _ (.string t.tx.data.toList) rfl rfl (keyOf_string_mk Tryz.underlying9 HXL.out) _ [] (plainElem_bool Tryz.underlying4 true) ?_; intro w4 hm4 hg4; have HM4 := Lib.hid hm4; have HG4 := Lib.hid hg4; clear hm4 hg4))
          go_roundg (ks.length - (k + 1))
          case measure => omega
          case rel =>
            refine ⟨k + 1, _, by omega, by omega, by go_num, HM4.out, ?_, HND2.out, ?_⟩
            · rw [names_take (by simpa using hlt)]
              have e : nameOf ((ks.map T.form)[k]'(by simpa using hlt)) = t.tx.data.toList := by rw [← HNM.out]; simp
              rw [e]; exact HSD.out.put _
            · exact (HB.out.alloc (by have := HB.out.size; omega) _).grown HG4.out (by have := HB.out.size; simp; omega) (fun j hj => by cases hj; exact Nat.le_refl _)
    · have hkk : k = ks.length := by omega
      have HYES := Lib.hid (HR2.out (by rw [← hkk]; exact hND))
      clear hkk hM hSD hND hB
      go_wp2_with fail
      go_end0
      exact ⟨by rw [HYES.out]; exact AnsB.ofYes, HB.out⟩
end Go.Proofs.YtmlfiopbdlaaaaaGreat
