/- Several texts, one behind the other. -/
import Derived.Test.YtmlfiopbdlaaaaaGreatJ21
import Derived.Test.YtmlfiopbdlaaaaaGreatJ9
import Derived.Deep.CutRange
import Derived.Deep.CutBlock
import Derived.Test.YtmlfiopbdlaaaaaGreatVNSort
namespace Go.Proofs.YtmlfiopbdlaaaaaGreat
open Go.RowKit Go.Deep
theorem run_append_nothing {P : Program} {w : World} {t ty e : TypeId} {i : TypeInfo} (ht : P.underlying t = some (.slice e)) (hi : P.info? e = some i) (a : Option Addr) (n c : Nat) (h : n ≤ c) :
    (Builtin.append_ #[t, t] ty #[.slice a n c, .slice none 0 0]).run P w = .ok (.slice a n c) w := by
  cases a <;> simp [Builtin.append_, run_underlying ht, sizeOf, typeInfo, hi, Builtin.lenOf, Builtin.firstCells, loadCells, h, storeCells]
theorem ownS_nothing {ops : Array Oper} {rest : List Oper} {o : Oper} {a : Act} {Q : Exit → Act → World → Prop} {w : World} (hgd : o.guard = none) (s x : Operand) (t : TypeId)
    (ho : o.op = .call { callee := .builtin .append, args := #[s, x], argTypes := #[t, t] }) (ht : Tryz.prog.underlying t = some (.slice 9)) (va : Option Addr) (n c : Nat) (hs : a.eval s = .slice va n c) (hx : a.eval x = .slice none 0 0) (hn : n ≤ c)
    (h : wpList Tryz.prog ops Q rest (a.put o.dst (.slice va n c)) w) : wpList Tryz.prog ops Q (o :: rest) a w := by
  obtain ⟨i0, hi0, hz0, hz1, hz2⟩ := infoS
  refine wpList_plain hgd fun _ hK => ?_
  have hr := run_append_nothing (P := Tryz.prog) (w := w) (ty := o.type) ht hi0 va n c hn
  unfold Oper.wp execOp
  simp only [ho, resolve, invoke, builtin, Sem.run_bind, Sem.run_pure, Result.andThen_ok, List.map_toArray, List.map_cons, List.map_nil, hs, hx, hr]
  exact hK _ _ h
theorem placeF_cases (f : Fm) : (((headF f).toList == [99, 97, 108, 108]) = true ∧ placeF f = (if firstL f then 2 else 1)) ∨
    (((headF f).toList == [99, 97, 108, 108]) = false ∧ ((headF f).toList == [112, 114, 101, 102, 105, 120]) = true ∧ placeF f = 1) ∨
    (((headF f).toList == [99, 97, 108, 108]) = false ∧ ((headF f).toList == [112, 114, 101, 102, 105, 120]) = false ∧ ((headF f).toList == [102, 117, 101, 108]) = true ∧ placeF f = 2) ∨
    (((headF f).toList == [99, 97, 108, 108]) = false ∧ ((headF f).toList == [112, 114, 101, 102, 105, 120]) = false ∧ ((headF f).toList == [102, 117, 101, 108]) = false ∧ ((headF f).toList == [108, 101, 109, 109, 97]) = true ∧ placeF f = (if firstL f then 3 else 0)) ∨
    (((headF f).toList == [99, 97, 108, 108]) = false ∧ ((headF f).toList == [112, 114, 101, 102, 105, 120]) = false ∧ ((headF f).toList == [102, 117, 101, 108]) = false ∧ ((headF f).toList == [108, 101, 109, 109, 97]) = false ∧ placeF f = 0) := by
  unfold placeF
  dsimp only
  by_cases h0 : (headF f).toList = [99, 97, 108, 108]
  · simp [h0]
  by_cases h1 : (headF f).toList = [112, 114, 101, 102, 105, 120]
  · simp [h1]
  by_cases h2 : (headF f).toList = [102, 117, 101, 108]
  · simp [h2]
  by_cases h3 : (headF f).toList = [108, 101, 109, 109, 97]
  · simp [h3]
  simp [h0, h1, h2, h3]
theorem firstL_two {f x u : Fm} {r : List Fm} (h : f.ks = x :: u :: r) : firstL f = decide (u.kd = 3) := by unfold firstL; rw [h]
theorem firstL_short {f : Fm} (h : f.ks.length ≤ 1) : firstL f = false := by
  unfold firstL
  match hk : f.ks with
  | [] => rfl
  | [_] => rfl
  | _ :: _ :: _ => rw [hk] at h; simp at h
set_option maxHeartbeats 4000000 in
set_option maxRecDepth 100000 in
theorem rcalls_any (n : Nat) : ∀ (t : T), SizeOf.sizeOf t < n → ∀ (w : World), In w t → szF t.form ≤ 50000000 →
    Calls Tryz.prog 39 #[t.val] w fun e w' => ∃ v, e = .returned v ∧ OwnS w.heap.size w w' v (callsF t.form) := by
  induction n with
  | zero => intro t h; omega
  | succ n ih =>
    intro t hn w hin hsz
    by_cases hk : t.kd = 3
    · have n1 := Nat.le_trans hin.ok.le hin.ok.cp
      unfold maxLen at n1
      have b3 : (t.kd != 3) = false := by simpa using hk
      have HH := Lib.hid fun (W : World) (h : Below w.heap.size w W) => rhead_any t W (hin.below h)
      have K0 := Lib.hid (Boxed.start w t)
      obtain ⟨a, ha⟩ : ∃ a, t.ad = a := ⟨_, rfl⟩
      have HBXC := Lib.hid fun (W : World) (h : Boxed w W t) => box_cells h.1 ha
      have HIL : Hid (∀ W, Below w.heap.size w W → InL W a 0 t.ks) := Lib.hid fun W h => by rw [← ha]; exact (hin.below h).inL
      have HTK := Lib.hid (T.form_ks t)
      have HIN := Lib.hid hin
      have HNN := Lib.hid hn
      have HSZ := Lib.hid hsz
      have HIH := Lib.hid ih
      have HKD := Lib.hid hk
      clear ha hin hn hsz ih hk
      go_enter Tryz.func39, Tryz.ntmps39
      go_upto_block 0 with (go_at_call 31; refine (HH.out _ K0.out.2).mono ?_; rintro e w2 ⟨rfl, hB⟩; have HBX := Lib.hid (K0.out.next hB); obtain ⟨c0, c1, c2, c3⟩ := HBXC.out _ HBX.out; have HW1 := Lib.hid (by simpa using hB : Below (w.heap.size + 1) (w.alloc (.cells #[.int .i64 t.kd, .int .i64 t.nn, .string t.tx, .slice t.ad t.ks.length t.cp] 24)) w2); clear hB)
      go_cut [3] from 7 (fun s3 wr => s3 = .int .i64 (placeF t.form) ∧ wr = w2)
      case first =>
        by_cases h1 : 1 < t.ks.length
        · obtain ⟨x, u, r, hks⟩ : ∃ x u r, t.ks = x :: u :: r := by
            match h : t.ks, h1 with
            | x :: u :: r, _ => exact ⟨x, u, r, rfl⟩
          have HF : Hid (firstL t.form = decide (u.kd = 3)) := Lib.hid (by rw [firstL_two (f := t.form) (by rw [T.form_ks, hks]; rfl), T.form_kd])
          obtain ⟨⟨b, o, rfl, x0, x1, x2, x3⟩, -⟩ := (HIL.out _ HBX.out.2).at 1 h1
          have eu : t.ks[1] = u := by simp [hks]
          rw [eu] at x0 x1 x2 x3
          have g8 : (1 : Int) < (t.ks.length : Int) := by omega
          clear hks eu
          rcases placeF_cases t.form with ⟨q0, hpl⟩ | ⟨q0, q1, hpl⟩ | ⟨q0, q1, q2, hpl⟩ | ⟨q0, q1, q2, q3, hpl⟩ | ⟨q0, q1, q2, q3, hpl⟩
          all_goals
            by_cases hu : u.kd = 3
            · have gu : (u.kd == 3) = true := by simpa using hu
              have HPL := Lib.hid hpl
              have HFF : Hid (firstL t.form = true) := Lib.hid (by rw [HF.out]; simpa using hu)
              clear hpl hu
              go_wp2_with fail
              all_goals
                go_meet
                exact ⟨by simp [HPL.out, HFF.out], rfl⟩
            · have gu : (u.kd == 3) = false := by simpa using hu
              have HPL := Lib.hid hpl
              have HFF : Hid (firstL t.form = false) := Lib.hid (by rw [HF.out]; simpa using hu)
              clear hpl hu
              go_wp2_with fail
              all_goals
                go_meet
                exact ⟨by simp [HPL.out, HFF.out], rfl⟩
        · have g8 : (t.ks.length : Int) ≤ 1 := by omega
          have HFF : Hid (firstL t.form = false) := Lib.hid (firstL_short (by rw [T.form_ks, List.length_map]; omega))
          rcases placeF_cases t.form with ⟨q0, hpl⟩ | ⟨q0, q1, hpl⟩ | ⟨q0, q1, q2, hpl⟩ | ⟨q0, q1, q2, q3, hpl⟩ | ⟨q0, q1, q2, q3, hpl⟩
          all_goals
            have HPL := Lib.hid hpl
            clear hpl h1
            go_wp2_with fail
            all_goals
              go_meet
              exact ⟨by simp [HPL.out, HFF.out], rfl⟩
      case rest =>
        obtain ⟨e3, ew⟩ := hcut
        rw [e3, ew]; clear e3 ew
        have HBXN : Hid (∀ W, Below (w.heap.size + 1) w2 W → Boxed w W t) := Lib.hid fun W h => ⟨(h.block w.heap.size (by omega)).trans HBX.out.1, HBX.out.2.trans (h.mono (by omega))⟩
        have HZ2 : Hid (w.heap.size + 1 ≤ w2.heap.size) := Lib.hid (by have := HW1.out.size; simpa using this)
        have HCF : Hid (callsF t.form = oneL (calledF t.form) ++ callsL (t.ks.map T.form)) := Lib.hid (by rw [callsF_eq, if_pos (by rw [T.form_kd]; exact HKD.out), T.form_ks])
        have HSL : Hid (1 + szL (t.ks.map T.form) ≤ 50000000) := Lib.hid (by have h := HSZ.out; rw [szF_eq, Fm.kids, if_pos (by rw [T.form_kd]; exact HKD.out), T.form_ks] at h; exact h)
        obtain ⟨p, hp, hp3⟩ := placeF_nat t.form
        have ec : calledF t.form = if 0 < p then (match t.form.ks[p]? with | some k => if nameF k then some k.tx else none | none => none) else none := by unfold calledF; rw [hp]; rfl
        rw [hp]
        clear hp
        by_cases h0 : p = 0
        · subst h0
          rw [if_neg (by omega)] at ec
          have HEC := Lib.hid ec
          clear ec hp3
          go_wp2_with fail
          go_loopg [5, 6] (t.ks.length) (fun m v i wr => ∃ k : Nat, k ≤ t.ks.length ∧ m = t.ks.length - k ∧ i = .int .i64 k ∧ OwnS (w.heap.size + 1) w2 wr v (oneL (calledF t.form) ++ callsL ((t.ks.map T.form).take k)))
          case atStart => exact ⟨0, by omega, by omega, rfl, by rw [HEC.out]; exact OwnS.start HZ2.out⟩
          case round =>
            obtain ⟨k, hk, rfl, rfl, hO⟩ := hrel
            obtain ⟨L, hL⟩ : ∃ L, oneL (calledF t.form) ++ callsL ((t.ks.map T.form).take k) = L := ⟨_, rfl⟩
            rw [hL] at hO
            have HL := Lib.hid hL
            clear hL
            have HO := Lib.hid hO
            have HBK := Lib.hid (HBXN.out _ hO.below)
            obtain ⟨c0, c1, c2, c3⟩ := HBXC.out _ HBK.out
            obtain ⟨va, vc, rfl, hvc, -⟩ := hO.slice
            have HVC := Lib.hid hvc
            clear hO hvc
            by_cases hlt : k < t.ks.length
            · obtain ⟨⟨b1, o1, had1, z0, z1, z2, z3⟩, hink⟩ := (HIL.out _ HBK.out.2).at k hlt
              subst had1
              have lb1 : b1 < wr.heap.size := World.block_lt_of_cell? _ _ z0
              have gk : (k : Int) < (t.ks.length : Int) := by omega
              have hmk := List.getElem_mem hlt
              have HMO := Lib.hid (callsL_more (l := t.ks.map T.form) (k := k) (by simpa using hlt))
              have h1 := szL_next (t.ks.map T.form) k (by simpa using hlt)
              have h2 := szL_takesR (t.ks.map T.form) (k + 1)
              have h3 := HSL.out
              have h4 := oneL_len (calledF t.form)
              have h5 := callsL_le ((t.ks.map T.form).take k)
              have h6 := calls_le t.ks[k].form
              simp only [List.getElem_map] at h1
              have HR := Lib.hid fun (W : World) (h : Below wr.heap.size wr W) => HIH.out t.ks[k] (by have := T.kid_lt hmk; have := HNN.out; omega) W (hink.below h) (by omega)
              have HLN : Hid (L.length + (callsF t.ks[k].form).length ≤ 1000000000) := Lib.hid (by rw [← HL.out, List.length_append]; omega)
              clear hmk h1 h2 h3 h4 h5 h6 hink
              go_wp2_with (first
                | (go_at_call 39; refine (HR.out _ (Below.refl _ _)).mono ?_; rintro e w5 ⟨v5, rfl, hO5⟩; have HB5 := Lib.hid hO5.below; rcases hO5.slice2 with ⟨rfl, he⟩ | ⟨g5, c5, rfl, hc5, -, hg5, hcl5⟩; all_goals (first | (have HE5 := Lib.hid he; clear hO5 he) | (have HCL5 := Lib.hid hcl5; clear hO5 hcl5)))
                | (at_builtin; refine ownS_nothing rfl _ _ 30 rfl Tryz.underlying30 va _ vc rfl rfl HVC.out ?_; have HO6 := Lib.hid ((by rw [HE5.out, List.append_nil]; exact HO.out.next HB5.out) : OwnS (w.heap.size + 1) w2 w5 (.slice va L.length vc) (L ++ callsF t.ks[k].form)))
                | (at_builtin; refine ownS_more rfl _ _ 30 rfl Tryz.underlying30 rfl (HO.out.next HB5.out) (callsF t.ks[k].form) g5 0 _ c5 rfl rfl (fun j u' hj => ?_) HLN.out ?_; (simp only [strV, List.getElem?_map, Option.map_eq_some_iff] at hj; obtain ⟨x', hx', rfl⟩ := hj; obtain ⟨e1, e2⟩ := List.getElem?_eq_some_iff.1 hx'; rw [← e2, Nat.zero_add]; exact HCL5.out j e1); intro v6 w6 ho6 hg6; have HO6 := Lib.hid ho6; clear ho6 hg6))
              all_goals
                go_roundg (t.ks.length - (k + 1))
                case measure => omega
                case rel => exact ⟨k + 1, by omega, rfl, by go_num, by rw [HMO.out, ← List.append_assoc, HL.out, List.getElem_map]; exact HO6.out⟩
            · have HE : Hid ((t.ks.map T.form).take k = t.ks.map T.form) := Lib.hid (List.take_of_length_le (by simp; omega))
              go_wp2_with fail
              go_ret
              have ho := HO.out
              have e : L = callsF t.form := by rw [← HL.out, HE.out, HCF.out]
              refine ⟨_, rfl, ?_⟩
              rw [← e]
              exact ⟨Joins.ownsRow_le ho.own (Nat.le_succ _), HBX.out.2.trans (ho.below.mono (Nat.le_succ _)), Nat.le_of_succ_le ho.le⟩
        · rw [if_pos (by omega)] at ec
          have g0 : (0 : Int) < (p : Int) := by omega
          have g0' : 0 < p := by omega
          by_cases hpl : p < t.ks.length
          · obtain ⟨⟨b, o, had, x0, x1, x2, x3⟩, hinu⟩ := (HIL.out _ HBX.out.2).at p hpl
            obtain ⟨u, hu⟩ : ∃ u, t.ks[p] = u := ⟨_, rfl⟩
            have ek : t.form.ks[p]? = some u.form := by rw [HTK.out, List.getElem?_map, List.getElem?_eq_getElem hpl, hu]; rfl
            rw [ek] at ec
            dsimp only at ec
            rw [hu] at x0 x1 x2 x3 hinu
            subst had
            have lb : b < w2.heap.size := World.block_lt_of_cell? _ _ x0
            have HN := Lib.hid fun (W : World) (h : Below w2.heap.size w2 W) => rnamed_any u W (hinu.below h)
            have g1 : (p : Int) < (t.ks.length : Int) := by omega
            have HC := Lib.hid fun (W : World) (h : Below w2.heap.size w2 W) => (⟨(h.cell (p := ⟨b, o + p * 4, none⟩) lb).trans x0, (h.cell (p := ⟨b, o + p * 4 + 1, none⟩) lb).trans x1, (h.cell (p := ⟨b, o + p * 4 + 2, none⟩) lb).trans x2, (h.cell (p := ⟨b, o + p * 4 + 3, none⟩) lb).trans x3⟩ : W.cell? ⟨b, o + p * 4, none⟩ = _ ∧ W.cell? ⟨b, o + p * 4 + 1, none⟩ = _ ∧ W.cell? ⟨b, o + p * 4 + 2, none⟩ = _ ∧ W.cell? ⟨b, o + p * 4 + 3, none⟩ = _)
            cases hnm : nameF u.form with
            | true =>
              rw [hnm] at HN
              rw [if_pos hnm, T.form_tx] at ec
              have HEC := Lib.hid ec
              clear ec ek hinu hu hp3 h0 hnm
              go_wp2_with (first
                | (go_at_call 67; refine (HN.out _ (Below.refl _ _)).mono ?_; rintro e w3 ⟨rfl, hB⟩; obtain ⟨d0, d1, d2, d3⟩ := HBXC.out _ (HBXN.out _ (hB.mono HZ2.out)); obtain ⟨y0, y1, y2, y3⟩ := HC.out _ hB; have HB3 := Lib.hid (hB.mono HZ2.out); have HZ3 := Lib.hid (Nat.le_trans HZ2.out hB.size); clear hB)
                | (at_builtin; refine ownS_push rfl _ _ 30 rfl Tryz.underlying30 rfl ((OwnS.start HZ3.out).next (bel1 _ _)) u.tx 1 _ rfl (heap_alloc_new _ _) (by simp) ?_; intro v4 w4 ho4 hg4; have HO4 := Lib.hid ho4; obtain ⟨va4, vc4, rfl, -, -⟩ := ho4.slice; clear ho4 hg4))
              go_loopg [5, 6] (t.ks.length) (fun m v i wr => ∃ k : Nat, k ≤ t.ks.length ∧ m = t.ks.length - k ∧ i = .int .i64 k ∧ OwnS (w.heap.size + 1) w2 wr v (oneL (calledF t.form) ++ callsL ((t.ks.map T.form).take k)))
              case atStart => exact ⟨0, by omega, by omega, rfl, by rw [HEC.out]; exact ⟨HO4.out.own, HB3.out.trans HO4.out.below, HO4.out.le⟩⟩
              case round =>
                obtain ⟨k, hk, rfl, rfl, hO⟩ := hrel
                obtain ⟨L, hL⟩ : ∃ L, oneL (calledF t.form) ++ callsL ((t.ks.map T.form).take k) = L := ⟨_, rfl⟩
                rw [hL] at hO
                have HL := Lib.hid hL
                clear hL
                have HO := Lib.hid hO
                have HBK := Lib.hid (HBXN.out _ hO.below)
                obtain ⟨c0, c1, c2, c3⟩ := HBXC.out _ HBK.out
                obtain ⟨va, vc, rfl, hvc, -⟩ := hO.slice
                have HVC := Lib.hid hvc
                clear hO hvc
                by_cases hlt : k < t.ks.length
                · obtain ⟨⟨b1, o1, had1, z0, z1, z2, z3⟩, hink⟩ := (HIL.out _ HBK.out.2).at k hlt
                  injection had1 with had1; injection had1 with e1 e2 e3; have e1 := e1.symm; have e2 := e2.symm; subst e1 e2
                  have lb1 : b1 < wr.heap.size := World.block_lt_of_cell? _ _ z0
                  have gk : (k : Int) < (t.ks.length : Int) := by omega
                  have hmk := List.getElem_mem hlt
                  have HMO := Lib.hid (callsL_more (l := t.ks.map T.form) (k := k) (by simpa using hlt))
                  have h1 := szL_next (t.ks.map T.form) k (by simpa using hlt)
                  have h2 := szL_takesR (t.ks.map T.form) (k + 1)
                  have h3 := HSL.out
                  have h4 := oneL_len (calledF t.form)
                  have h5 := callsL_le ((t.ks.map T.form).take k)
                  have h6 := calls_le t.ks[k].form
                  simp only [List.getElem_map] at h1
                  have HR := Lib.hid fun (W : World) (h : Below wr.heap.size wr W) => HIH.out t.ks[k] (by have := T.kid_lt hmk; have := HNN.out; omega) W (hink.below h) (by omega)
                  have HLN : Hid (L.length + (callsF t.ks[k].form).length ≤ 1000000000) := Lib.hid (by rw [← HL.out, List.length_append]; omega)
                  clear hmk h1 h2 h3 h4 h5 h6 hink
                  go_wp2_with (first
                    | (go_at_call 39; refine (HR.out _ (Below.refl _ _)).mono ?_; rintro e w5 ⟨v5, rfl, hO5⟩; have HB5 := Lib.hid hO5.below; rcases hO5.slice2 with ⟨rfl, he⟩ | ⟨g5, c5, rfl, hc5, -, hg5, hcl5⟩; all_goals (first | (have HE5 := Lib.hid he; clear hO5 he) | (have HCL5 := Lib.hid hcl5; clear hO5 hcl5)))
                    | (at_builtin; refine ownS_nothing rfl _ _ 30 rfl Tryz.underlying30 va _ vc rfl rfl HVC.out ?_; have HO6 := Lib.hid ((by rw [HE5.out, List.append_nil]; exact HO.out.next HB5.out) : OwnS (w.heap.size + 1) w2 w5 (.slice va L.length vc) (L ++ callsF t.ks[k].form)))
                    | (at_builtin; refine ownS_more rfl _ _ 30 rfl Tryz.underlying30 rfl (HO.out.next HB5.out) (callsF t.ks[k].form) g5 0 _ c5 rfl rfl (fun j u' hj => ?_) HLN.out ?_; (simp only [strV, List.getElem?_map, Option.map_eq_some_iff] at hj; obtain ⟨x', hx', rfl⟩ := hj; obtain ⟨e1, e2⟩ := List.getElem?_eq_some_iff.1 hx'; rw [← e2, Nat.zero_add]; exact HCL5.out j e1); intro v6 w6 ho6 hg6; have HO6 := Lib.hid ho6; clear ho6 hg6))
                  all_goals
                    go_roundg (t.ks.length - (k + 1))
                    case measure => omega
                    case rel => exact ⟨k + 1, by omega, rfl, by go_num, by rw [HMO.out, ← List.append_assoc, HL.out, List.getElem_map]; exact HO6.out⟩
                · have HE : Hid ((t.ks.map T.form).take k = t.ks.map T.form) := Lib.hid (List.take_of_length_le (by simp; omega))
                  go_wp2_with fail
                  go_ret
                  have ho := HO.out
                  have e : L = callsF t.form := by rw [← HL.out, HE.out, HCF.out]
                  refine ⟨_, rfl, ?_⟩
                  rw [← e]
                  exact ⟨Joins.ownsRow_le ho.own (Nat.le_succ _), HBX.out.2.trans (ho.below.mono (Nat.le_succ _)), Nat.le_of_succ_le ho.le⟩
            | false =>
              rw [hnm] at HN
              rw [if_neg (by simp [hnm])] at ec
              have HEC := Lib.hid ec
              clear ec ek hinu hu hp3 h0 hnm
              go_wp2_with (first
                | (go_at_call 67; refine (HN.out _ (Below.refl _ _)).mono ?_; rintro e w3 ⟨rfl, hB⟩; obtain ⟨d0, d1, d2, d3⟩ := HBXC.out _ (HBXN.out _ (hB.mono HZ2.out)); obtain ⟨y0, y1, y2, y3⟩ := HC.out _ hB; have HB3 := Lib.hid (hB.mono HZ2.out); have HZ3 := Lib.hid (Nat.le_trans HZ2.out hB.size); clear hB))
              go_loopg [5, 6] (t.ks.length) (fun m v i wr => ∃ k : Nat, k ≤ t.ks.length ∧ m = t.ks.length - k ∧ i = .int .i64 k ∧ OwnS (w.heap.size + 1) w2 wr v (oneL (calledF t.form) ++ callsL ((t.ks.map T.form).take k)))
              case atStart => exact ⟨0, by omega, by omega, rfl, by rw [HEC.out]; exact ⟨(OwnS.start HZ3.out).own, HB3.out, HZ3.out⟩⟩
              case round =>
                obtain ⟨k, hk, rfl, rfl, hO⟩ := hrel
                obtain ⟨L, hL⟩ : ∃ L, oneL (calledF t.form) ++ callsL ((t.ks.map T.form).take k) = L := ⟨_, rfl⟩
                rw [hL] at hO
                have HL := Lib.hid hL
                clear hL
                have HO := Lib.hid hO
                have HBK := Lib.hid (HBXN.out _ hO.below)
                obtain ⟨c0, c1, c2, c3⟩ := HBXC.out _ HBK.out
                obtain ⟨va, vc, rfl, hvc, -⟩ := hO.slice
                have HVC := Lib.hid hvc
                clear hO hvc
                by_cases hlt : k < t.ks.length
                · obtain ⟨⟨b1, o1, had1, z0, z1, z2, z3⟩, hink⟩ := (HIL.out _ HBK.out.2).at k hlt
                  injection had1 with had1; injection had1 with e1 e2 e3; have e1 := e1.symm; have e2 := e2.symm; subst e1 e2
                  have lb1 : b1 < wr.heap.size := World.block_lt_of_cell? _ _ z0
                  have gk : (k : Int) < (t.ks.length : Int) := by omega
                  have hmk := List.getElem_mem hlt
                  have HMO := Lib.hid (callsL_more (l := t.ks.map T.form) (k := k) (by simpa using hlt))
                  have h1 := szL_next (t.ks.map T.form) k (by simpa using hlt)
                  have h2 := szL_takesR (t.ks.map T.form) (k + 1)
                  have h3 := HSL.out
                  have h4 := oneL_len (calledF t.form)
                  have h5 := callsL_le ((t.ks.map T.form).take k)
                  have h6 := calls_le t.ks[k].form
                  simp only [List.getElem_map] at h1
                  have HR := Lib.hid fun (W : World) (h : Below wr.heap.size wr W) => HIH.out t.ks[k] (by have := T.kid_lt hmk; have := HNN.out; omega) W (hink.below h) (by omega)
                  have HLN : Hid (L.length + (callsF t.ks[k].form).length ≤ 1000000000) := Lib.hid (by rw [← HL.out, List.length_append]; omega)
                  clear hmk h1 h2 h3 h4 h5 h6 hink
                  go_wp2_with (first
                    | (go_at_call 39; refine (HR.out _ (Below.refl _ _)).mono ?_; rintro e w5 ⟨v5, rfl, hO5⟩; have HB5 := Lib.hid hO5.below; rcases hO5.slice2 with ⟨rfl, he⟩ | ⟨g5, c5, rfl, hc5, -, hg5, hcl5⟩; all_goals (first | (have HE5 := Lib.hid he; clear hO5 he) | (have HCL5 := Lib.hid hcl5; clear hO5 hcl5)))
                    | (at_builtin; refine ownS_nothing rfl _ _ 30 rfl Tryz.underlying30 va _ vc rfl rfl HVC.out ?_; have HO6 := Lib.hid ((by rw [HE5.out, List.append_nil]; exact HO.out.next HB5.out) : OwnS (w.heap.size + 1) w2 w5 (.slice va L.length vc) (L ++ callsF t.ks[k].form)))
                    | (at_builtin; refine ownS_more rfl _ _ 30 rfl Tryz.underlying30 rfl (HO.out.next HB5.out) (callsF t.ks[k].form) g5 0 _ c5 rfl rfl (fun j u' hj => ?_) HLN.out ?_; (simp only [strV, List.getElem?_map, Option.map_eq_some_iff] at hj; obtain ⟨x', hx', rfl⟩ := hj; obtain ⟨e1, e2⟩ := List.getElem?_eq_some_iff.1 hx'; rw [← e2, Nat.zero_add]; exact HCL5.out j e1); intro v6 w6 ho6 hg6; have HO6 := Lib.hid ho6; clear ho6 hg6))
                  all_goals
                    go_roundg (t.ks.length - (k + 1))
                    case measure => omega
                    case rel => exact ⟨k + 1, by omega, rfl, by go_num, by rw [HMO.out, ← List.append_assoc, HL.out, List.getElem_map]; exact HO6.out⟩
                · have HE : Hid ((t.ks.map T.form).take k = t.ks.map T.form) := Lib.hid (List.take_of_length_le (by simp; omega))
                  go_wp2_with fail
                  go_ret
                  have ho := HO.out
                  have e : L = callsF t.form := by rw [← HL.out, HE.out, HCF.out]
                  refine ⟨_, rfl, ?_⟩
                  rw [← e]
                  exact ⟨Joins.ownsRow_le ho.own (Nat.le_succ _), HBX.out.2.trans (ho.below.mono (Nat.le_succ _)), Nat.le_of_succ_le ho.le⟩
          · have g1 : (t.ks.length : Int) ≤ (p : Int) := by omega
            have ek : t.form.ks[p]? = none := by rw [HTK.out, List.getElem?_map, List.getElem?_eq_none (by omega)]; rfl
            rw [ek] at ec
            have HEC := Lib.hid ec
            clear ec ek hp3 h0 hpl
            go_wp2_with fail
            go_loopg [5, 6] (t.ks.length) (fun m v i wr => ∃ k : Nat, k ≤ t.ks.length ∧ m = t.ks.length - k ∧ i = .int .i64 k ∧ OwnS (w.heap.size + 1) w2 wr v (oneL (calledF t.form) ++ callsL ((t.ks.map T.form).take k)))
            case atStart => exact ⟨0, by omega, by omega, rfl, by rw [HEC.out]; exact OwnS.start HZ2.out⟩
            case round =>
              obtain ⟨k, hk, rfl, rfl, hO⟩ := hrel
              obtain ⟨L, hL⟩ : ∃ L, oneL (calledF t.form) ++ callsL ((t.ks.map T.form).take k) = L := ⟨_, rfl⟩
              rw [hL] at hO
              have HL := Lib.hid hL
              clear hL
              have HO := Lib.hid hO
              have HBK := Lib.hid (HBXN.out _ hO.below)
              obtain ⟨c0, c1, c2, c3⟩ := HBXC.out _ HBK.out
              obtain ⟨va, vc, rfl, hvc, -⟩ := hO.slice
              have HVC := Lib.hid hvc
              clear hO hvc
              by_cases hlt : k < t.ks.length
              · obtain ⟨⟨b1, o1, had1, z0, z1, z2, z3⟩, hink⟩ := (HIL.out _ HBK.out.2).at k hlt
                subst had1
                have lb1 : b1 < wr.heap.size := World.block_lt_of_cell? _ _ z0
                have gk : (k : Int) < (t.ks.length : Int) := by omega
                have hmk := List.getElem_mem hlt
                have HMO := Lib.hid (callsL_more (l := t.ks.map T.form) (k := k) (by simpa using hlt))
                have h1 := szL_next (t.ks.map T.form) k (by simpa using hlt)
                have h2 := szL_takesR (t.ks.map T.form) (k + 1)
                have h3 := HSL.out
                have h4 := oneL_len (calledF t.form)
                have h5 := callsL_le ((t.ks.map T.form).take k)
                have h6 := calls_le t.ks[k].form
                simp only [List.getElem_map] at h1
                have HR := Lib.hid fun (W : World) (h : Below wr.heap.size wr W) => HIH.out t.ks[k] (by have := T.kid_lt hmk; have := HNN.out; omega) W (hink.below h) (by omega)
                have HLN : Hid (L.length + (callsF t.ks[k].form).length ≤ 1000000000) := Lib.hid (by rw [← HL.out, List.length_append]; omega)
                clear hmk h1 h2 h3 h4 h5 h6 hink
                go_wp2_with (first
                  | (go_at_call 39; refine (HR.out _ (Below.refl _ _)).mono ?_; rintro e w5 ⟨v5, rfl, hO5⟩; have HB5 := Lib.hid hO5.below; rcases hO5.slice2 with ⟨rfl, he⟩ | ⟨g5, c5, rfl, hc5, -, hg5, hcl5⟩; all_goals (first | (have HE5 := Lib.hid he; clear hO5 he) | (have HCL5 := Lib.hid hcl5; clear hO5 hcl5)))
                  | (at_builtin; refine ownS_nothing rfl _ _ 30 rfl Tryz.underlying30 va _ vc rfl rfl HVC.out ?_; have HO6 := Lib.hid ((by rw [HE5.out, List.append_nil]; exact HO.out.next HB5.out) : OwnS (w.heap.size + 1) w2 w5 (.slice va L.length vc) (L ++ callsF t.ks[k].form)))
                  | (at_builtin; refine ownS_more rfl _ _ 30 rfl Tryz.underlying30 rfl (HO.out.next HB5.out) (callsF t.ks[k].form) g5 0 _ c5 rfl rfl (fun j u' hj => ?_) HLN.out ?_; (simp only [strV, List.getElem?_map, Option.map_eq_some_iff] at hj; obtain ⟨x', hx', rfl⟩ := hj; obtain ⟨e1, e2⟩ := List.getElem?_eq_some_iff.1 hx'; rw [← e2, Nat.zero_add]; exact HCL5.out j e1); intro v6 w6 ho6 hg6; have HO6 := Lib.hid ho6; clear ho6 hg6))
                all_goals
                  go_roundg (t.ks.length - (k + 1))
                  case measure => omega
                  case rel => exact ⟨k + 1, by omega, rfl, by go_num, by rw [HMO.out, ← List.append_assoc, HL.out, List.getElem_map]; exact HO6.out⟩
              · have HE : Hid ((t.ks.map T.form).take k = t.ks.map T.form) := Lib.hid (List.take_of_length_le (by simp; omega))
                go_wp2_with fail
                go_ret
                have ho := HO.out
                have e : L = callsF t.form := by rw [← HL.out, HE.out, HCF.out]
                refine ⟨_, rfl, ?_⟩
                rw [← e]
                exact ⟨Joins.ownsRow_le ho.own (Nat.le_succ _), HBX.out.2.trans (ho.below.mono (Nat.le_succ _)), Nat.le_of_succ_le ho.le⟩
    · have b3 : (t.kd != 3) = true := by simpa using hk
      have hcf : callsF t.form = [] := by rw [callsF_eq, if_neg (by rw [T.form_kd]; exact hk)]
      rw [hcf]
      clear hk hn hsz ih hcf hin
      go_enter Tryz.func39, Tryz.ntmps39
      go_wp2_with fail
      go_ret
      exact ⟨_, rfl, OwnS.start (Nat.le_refl _) |>.next (bel1 _ _)⟩
end Go.Proofs.YtmlfiopbdlaaaaaGreat

namespace Go.Proofs.YtmlfiopbdlaaaaaGreat
open Go.RowKit Go.Deep
def EqTo (l m : List (List UInt8)) (k : Nat) : Prop := ∀ j (h : j < l.length) (h' : j < m.length), j < k → l[j] = m[j]
theorem EqTo.ends {l m : List (List UInt8)} {k : Nat} (h : EqTo l m k) (he : l.length = m.length) (hk : l.length ≤ k) : l = m :=
  List.ext_getElem he fun j h1 h2 => h j h1 h2 (by omega)
set_option maxHeartbeats 4000000 in
theorem texts_any (a b : Option Addr) (l m : List (List UInt8)) (ac bc : Nat) (w : World) (hl : l.length ≤ 1000000000) (ha : RowS w a l) (hb : RowS w b m) :
    Calls Tryz.prog 8 #[.slice a l.length ac, .slice b m.length bc] w fun e w' => e = .returned (.bool (decide (l = m))) ∧ Below w.heap.size w w' := by
  have HA := Lib.hid ha
  have HB := Lib.hid hb
  clear ha hb
  have mixed : Tryz.prog.follows .mixedOrders = true := by kernel_rfl
  by_cases he : l.length = m.length
  · have g1 : ((l.length : Int) != (m.length : Int)) = false := by rw [he]; simp
    go_enter Tryz.func8, Tryz.ntmps8
    go_wp2_with fail
    go_loopg [5] (l.length) (fun q i wr => ∃ k : Nat, q = l.length - k ∧ k ≤ l.length ∧ i = .int .i64 k ∧ EqTo l m k ∧ Below w.heap.size w wr)
    case atStart => exact ⟨0, by omega, by omega, rfl, fun j _ _ h => absurd h (by omega), Below.refl _ _⟩
    case round =>
      obtain ⟨k, rfl, hk, rfl, hE, hBl⟩ := hrel
      have HE := Lib.hid hE
      have HBL := Lib.hid hBl
      by_cases hlt : k < l.length
      · rcases HA.out.below hBl with h0 | ⟨b1, o1, rfl, hb1, hc1⟩
        · rw [h0] at hlt; simp at hlt
        rcases HB.out.below hBl with h0 | ⟨b2, o2, rfl, hb2, hc2⟩
        · rw [h0] at he; simp at he; rw [he] at hlt; simp at hlt
        have hlt2 : k < m.length := by omega
        have x0 := hc1 k hlt
        have y0 := hc2 k hlt2
        obtain ⟨x, hx⟩ : ∃ x : ByteArray, (⟨l[k].toArray⟩ : ByteArray) = x := ⟨_, rfl⟩
        obtain ⟨y, hy⟩ : ∃ y : ByteArray, (⟨m[k].toArray⟩ : ByteArray) = y := ⟨_, rfl⟩
        rw [hx] at x0
        rw [hy] at y0
        have HXE : Hid (l[k] = x.data.toList) := Lib.hid (by rw [← hx])
        have HYE : Hid (m[k] = y.data.toList) := Lib.hid (by rw [← hy])
        have HLT := Lib.hid (show k < l.length ∧ k < m.length from ⟨hlt, hlt2⟩)
        clear hx hy hc1 hc2 hE hBl
        by_cases hxy : x = y
        · have hq : (x.toList != y.toList) = false := by simp [bne, eqT hxy]
          have hq2 := eqT hxy
          have HS : Hid (EqTo l m (k + 1)) := Lib.hid (fun j h1 h2 h3 => by
            by_cases e : j = k
            · subst e; rw [HXE.out, HYE.out, hxy]
            · exact HE.out j h1 h2 (by omega))
          clear hxy
          go_wp2_with fail
          go_big_region_o
          all_goals go_wp2
          go_roundg (l.length - (k + 1))
          case measure => omega
          case rel => exact ⟨k + 1, by omega, by omega, by go_num, HS.out, HBL.out.drew⟩
        · have hq : (x.toList != y.toList) = true := by simp [bne, eqF hxy]
          have hq2 := eqF hxy
          have HS : Hid (decide (l = m) = false) := Lib.hid (by
            simp only [decide_eq_false_iff_not]; intro e
            have : l[k]'HLT.out.1 = m[k]'HLT.out.2 := by simp [e]
            rw [HXE.out, HYE.out] at this
            exact hxy (beq_bytes this))
          clear hxy
          go_wp2_with fail
          go_big_region_o
          all_goals go_wp2
          go_ret
          exact ⟨ret_bool HS.out.symm, HBL.out.drew⟩
      · have HS : Hid (decide (l = m) = true) := Lib.hid (by simpa using hE.ends he (by omega))
        clear hE hBl
        go_wp2_with fail
        go_ret
        exact ⟨ret_bool HS.out.symm, HBL.out⟩
  · have g1 : ((l.length : Int) != (m.length : Int)) = true := by simp; omega
    have e : decide (l = m) = false := by simp; intro e; exact he (by rw [e])
    rw [e]
    clear e he
    go_enter Tryz.func8, Tryz.ntmps8
    go_wp2_with fail
    go_ret
    exact ⟨rfl, Below.refl _ _⟩
end Go.Proofs.YtmlfiopbdlaaaaaGreat
