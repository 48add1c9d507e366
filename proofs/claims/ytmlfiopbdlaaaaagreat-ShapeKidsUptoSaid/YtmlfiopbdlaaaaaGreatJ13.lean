/- Several texts, one behind the other. -/
import Derived.Test.YtmlfiopbdlaaaaaGreatJ11
namespace Go.Proofs.YtmlfiopbdlaaaaaGreat
open Go.RowKit Go.Deep
theorem in_val (s r : ByteArray) (hr : Nat.ble r.size 1000000 = true) (b : Bool) (hb : inB s.data.toList [] r.data.toList = b) (w : World) : Calls Tryz.prog 32 #[.string s, .string r] w fun e w' => e = .returned (.bool b) ∧ w = w' := by
  have := in_any s r (Nat.le_of_ble_eq_true hr) w
  rwa [hb] at this
theorem truth_q (b : Bool) (w : World) : Calls Tryz.prog 102 #[.bool b] w fun e w' => (∃ q : Int, e = .returned (.int .i64 q) ∧ (q = 0 ↔ b = true)) ∧ w = w' := (truth_any b w).mono fun _ _ ⟨h1, h2⟩ => ⟨⟨_, h1, by cases b <;> simp⟩, h2⟩
theorem InL_tail2 {w : World} {b o : Nat} {x y : T} {r : List T} (h : InL w (some ⟨b, o, none⟩) 0 (x :: y :: r)) : InL w (some ⟨b, o + 8, none⟩) 0 r := InL_mk fun j hj => by
  obtain ⟨⟨b', o', e, hc⟩, hi⟩ := InL_get h (j + 2) (by simpa using hj)
  injection e with e; injection e with e1 e2 e3; subst e1 e2
  exact ⟨⟨b, o + 8, rfl, by simpa [Nat.add_mul, Nat.add_assoc, Nat.add_comm, Nat.add_left_comm] using hc⟩, by simpa using hi⟩
def CallL (E : Fm → Bool) (l : List Fm) : Prop := ∃ a r, l = a :: r ∧ nameF a = true ∧ ((∃ u s, r = u :: s ∧ isOfK u ∧ Types u ∧ AllE E s) ∨ ((∀ u s, r = u :: s → ¬ isOfK u) ∧ AllE E r))
theorem call_plain {E : Fm → Bool} {x : T} {r : List T} (hn : nameF x.form = true) (hr : ∀ u s, r = u :: s → ¬ isOfK u.form) : CallL E ((x :: r).map T.form) ↔ AllE E (r.map T.form) := by
  have hr' : ∀ u s, r.map T.form = u :: s → ¬ isOfK u := fun u s e => by
    match r, e with
    | v :: t, e => injection e with e1 e2; rw [← e1]; exact hr v t rfl
  constructor
  · rintro ⟨a, s, e, _, h⟩
    injection e with e1 e2
    rcases h with ⟨u, t, e3, h3, _⟩ | ⟨_, h⟩
    · exact absurd h3 (hr' u t (e2.trans e3))
    · rw [e2]; exact h
  · intro h; exact ⟨_, _, rfl, hn, .inr ⟨hr', h⟩⟩
theorem call_of {E : Fm → Bool} {x u : T} {s : List T} (hn : nameF x.form = true) (hu : isOfK u.form) : CallL E ((x :: u :: s).map T.form) ↔ Types u.form ∧ AllE E (s.map T.form) := by
  constructor
  · rintro ⟨a, r, e, _, h⟩
    injection e with e1 e2
    rcases h with ⟨u', t, e3, _, h4, h5⟩ | ⟨h, _⟩
    · rw [← e2] at e3; injection e3 with e4 e5
      exact ⟨by rw [e4]; exact h4, by rw [e5]; exact h5⟩
    · exact absurd hu (h _ _ (e2.symm : r = u.form :: s.map T.form))
  · rintro ⟨h1, h2⟩; exact ⟨_, _, rfl, hn, .inl ⟨_, _, rfl, hu, h1, h2⟩⟩
theorem call_no {E : Fm → Bool} {x : T} {r : List T} (hn : nameF x.form = false) : ¬ CallL E ((x :: r).map T.form) := by
  rintro ⟨a, s, e, h, _⟩
  injection e with e1 e2
  rw [← e1, hn] at h; cases h
def YTo (u : T) (k : Nat) : Prop := ∀ j (h : j < u.ks.length), 1 ≤ j → j < k → typeF u.ks[j].form = true
theorem types_to {u : T} (h : 2 ≤ u.ks.length) (hY : YTo u u.ks.length) : Types u.form := by
  refine ⟨by rw [T.form_ks, List.length_map]; exact h, fun x hx => ?_⟩
  rw [T.form_ks, List.drop_one, ← List.map_tail] at hx
  obtain ⟨v, hv, rfl⟩ := List.mem_map.1 hx
  obtain ⟨i, hi, rfl⟩ := List.getElem_of_mem hv
  have hi' : i + 1 < u.ks.length := by simp at hi; omega
  have := hY (i + 1) hi' (by omega) hi'
  rw [List.getElem_tail]; exact this
theorem types_of {u : T} (h : Types u.form) : ∀ j (h : j < u.ks.length), 1 ≤ j → typeF u.ks[j].form = true := fun j hj h1 => by
  refine h.2 _ ?_
  rw [T.form_ks, List.drop_one, ← List.map_tail]
  refine List.mem_map_of_mem ?_
  obtain ⟨i, rfl⟩ : ∃ i, j = i + 1 := ⟨j - 1, by omega⟩
  rw [← List.getElem_tail (l := u.ks) (i := i) (by simp; omega)]
  exact List.getElem_mem _
set_option maxHeartbeats 8000000 in
set_option maxRecDepth 100000 in
theorem rcalled_any (n : Nat) (E : Fm → Bool) (hE : HExp n E) (a : Option Addr) (c : Nat) (x : T) (r : List T) (w : World) (hk : InL w a 0 (x :: r)) (hlen : r.length ≤ 1000000) (hc : r.length + 1 ≤ c) (hs : ∀ u ∈ r, Asked n u) :
    Calls Tryz.prog 166 #[.slice a (r.length + 1) c] w fun e w' => AnsR (CallL E ((x :: r).map T.form)) w e w' := by
  obtain ⟨⟨b, o, rfl, z0, z1, z2, z3⟩, hinx⟩ := hk.at 0 (by simp)
  simp only [List.getElem_cons_zero, Nat.zero_mul, Nat.add_zero] at z0 z1 z2 z3 hinx
  have lb : b < w.heap.size := World.block_lt_of_cell? _ _ z0
  have HX := Lib.hid fun (W : World) (h : Below w.heap.size w W) => rnamed_any x W (hinx.below h)
  have HT := Lib.hid fun (W : World) (a' : Option Addr) (c' : Nat) (hi : InL W a' 0 r) => rexprs_any n E hE a' c' r W hi hlen hs
  have HI := Lib.hid fun (W : World) (h : Below w.heap.size w W) => InL_tail (hk.below h)
  cases hn : nameF x.form with
  | false =>
    have HN : Hid (¬ CallL E ((x :: r).map T.form)) := Lib.hid (call_no hn)
    rw [hn] at HX
    clear hn hinx hk hs hE
    go_enter Tryz.func166, Tryz.ntmps166
    go_wp2_with (first
      | (go_at_call 67; refine (HX.out _ (Below.refl _ _)).mono ?_; rintro e w2 ⟨rfl, hB⟩; have HB1 := Lib.hid hB; clear hB))
    go_ret
    exact AnsR.ofNo (by decide) HN.out HB1.out
  | true =>
    rw [hn] at HX
    rcases r with _ | ⟨u, s⟩
    · have HP := Lib.hid (call_plain (E := E) (x := x) (r := []) hn (fun u s e => by cases e))
      clear hn hinx hk hs hE
      simp only [List.length_nil] at HT hc ⊢
      go_enter Tryz.func166, Tryz.ntmps166
      go_wp2_with (first
        | (go_at_call 67; refine (HX.out _ (Below.refl _ _)).mono ?_; rintro e w2 ⟨rfl, hB⟩; have HB1 := Lib.hid hB; clear hB)
        | (go_at_call 104; refine (HT.out _ _ _ (InL_nil rfl)).mono ?_; intro e w4 hA; have HA := Lib.hid hA; obtain ⟨q, rfl, hq, hB⟩ := hA; clear hB hq))
      all_goals
        go_ret
        exact (HA.out.iff HP.out.symm).up HB1.out
    · obtain ⟨⟨b', o', hbo, v0, v1, v2, v3⟩, hinu⟩ := hk.at 1 (by simp)
      injection hbo with hbo
      injection hbo with e1 e2 e3
      subst e1 e2
      simp only [List.getElem_cons_succ, List.getElem_cons_zero] at v0 v1 v2 v3 hinu
      have HH := Lib.hid fun (W : World) (h : Below w.heap.size w W) => rhead_any u W (hinu.below h)
      have HZ := Lib.hid fun (W : World) (h : Below w.heap.size w W) => (⟨(h.cell (p := ⟨b, o + 1 * 4, none⟩) lb).trans v0, (h.cell (p := ⟨b, o + 1 * 4 + 1, none⟩) lb).trans v1, (h.cell (p := ⟨b, o + 1 * 4 + 2, none⟩) lb).trans v2, (h.cell (p := ⟨b, o + 1 * 4 + 3, none⟩) lb).trans v3⟩ : W.cell? ⟨b, o + 1 * 4, none⟩ = some (.int .i64 u.kd) ∧ W.cell? ⟨b, o + 1 * 4 + 1, none⟩ = some (.int .i64 u.nn) ∧ W.cell? ⟨b, o + 1 * 4 + 2, none⟩ = some (.string u.tx) ∧ W.cell? ⟨b, o + 1 * 4 + 3, none⟩ = some (.slice u.ad u.ks.length u.cp))
      obtain ⟨m, hm⟩ : ∃ m, s.length = m := ⟨_, rfl⟩
      have HM := Lib.hid hm
      simp only [List.length_cons, hm] at HT hc hlen ⊢
      have hul := Nat.le_trans hinu.ok.le hinu.ok.cp
      unfold maxLen at hul
      have hg : isOfK u.form ↔ (headF u.form).toList = [111, 102] := Iff.rfl
      have g1 : (1 : Int) < (m : Int) + 1 + 1 := by omega
      have g1' : 1 < m + 1 + 1 := by omega
      by_cases ho : isOfK u.form
      · have HP := Lib.hid (call_of (E := E) (s := s) hn ho)
        have HT2 := Lib.hid fun (W : World) (a' : Option Addr) (c' : Nat) (hi : InL W a' 0 s) => rexprs_any n E hE a' c' s W hi (by omega) (fun z hz => hs z (List.mem_cons_of_mem _ hz))
        have HI2 := Lib.hid fun (W : World) (h : Below w.heap.size w W) => (by
          split
          · exact InL_nil (by omega)
          · exact InL_tail2 (hk.below h) : InL W (if c = 2 then some ⟨b, o, none⟩ else some ⟨b, o + 8, none⟩) 0 s)
        rw [hm] at HT2
        have ht := hg.1 ho
        have hkl := hinu.inL
        by_cases h2 : u.ks.length < 2
        · have g2 : (u.ks.length : Int) < 2 := by omega
          have HNN : Hid (¬ CallL E ((x :: u :: s).map T.form)) := Lib.hid fun h => by
            have := (HP.out.1 h).1.1
            rw [T.form_ks, List.length_map] at this; omega
          obtain ⟨hd, hhd⟩ : ∃ hd, headF u.form = hd := ⟨_, rfl⟩
          rw [hhd] at ht HH
          clear hn hinx hk hs hE ho hg hkl hinu hhd hm h2
          go_enter Tryz.func166, Tryz.ntmps166
          go_wp2_with (first
            | (go_at_call 67; refine (HX.out _ (Below.refl _ _)).mono ?_; rintro e w2 ⟨rfl, hB⟩; have HB1 := Lib.hid hB; obtain ⟨y0, y1, y2, y3⟩ := HZ.out _ hB; clear hB)
            | (go_at_call 31; refine (HH.out _ HB1.out).mono ?_; rintro e w3 ⟨rfl, hB⟩; have HB2 := Lib.hid (up HB1.out hB); obtain ⟨x0, x1, x2, x3⟩ := HZ.out _ HB2.out; clear hB))
          go_ret
          exact AnsR.ofNo (by decide) HNN.out HB2.out
        · have g2 : decide ((u.ks.length : Int) < 2) = false := by simp; omega
          have H2 : Hid (2 ≤ u.ks.length) := Lib.hid (by omega)
          obtain ⟨⟨b3, o3, had, -⟩, -⟩ := hinu.inL.at 0 (by omega)
          have HK := Lib.hid fun (W : World) (h : Below w.heap.size w W) => (had ▸ (hinu.below h).inL : InL W (some ⟨b3, o3, none⟩) 0 u.ks)
          have hv : u.val = .agg #[.int .i64 u.kd, .int .i64 u.nn, .string u.tx, .slice (some ⟨b3, o3, none⟩) u.ks.length u.cp] := by rw [T.val, had]
          rw [hv] at HH
          rw [had] at HZ
          have HTN : Hid (∀ j (h : j < u.ks.length), 1 ≤ j → typeF u.ks[j].form = false → ¬ CallL E ((x :: u :: s).map T.form)) := Lib.hid fun j hj h1 hf h => by
            have := types_of (HP.out.1 h).1 j hj h1
            rw [hf] at this; cases this
          have HTY : Hid (YTo u u.ks.length → (AllE E (s.map T.form) ↔ CallL E ((x :: u :: s).map T.form))) := Lib.hid fun h => ⟨fun h3 => HP.out.2 ⟨types_to H2.out h, h3⟩, fun h3 => (HP.out.1 h3).2⟩
          obtain ⟨hd, hhd⟩ : ∃ hd, headF u.form = hd := ⟨_, rfl⟩
          rw [hhd] at ht HH
          clear hn hinx hk hs hE ho hg hkl hinu hhd hm h2 had hv v3
          go_enter Tryz.func166, Tryz.ntmps166
          go_wp2_with (first
            | (go_at_call 67; refine (HX.out _ (Below.refl _ _)).mono ?_; rintro e w2 ⟨rfl, hB⟩; have HB1 := Lib.hid hB; obtain ⟨y0, y1, y2, y3⟩ := HZ.out _ hB; clear hB)
            | (go_at_call 31; refine (HH.out _ HB1.out).mono ?_; rintro e w3 ⟨rfl, hB⟩; have HB2 := Lib.hid (up HB1.out hB); obtain ⟨x0, x1, x2, x3⟩ := HZ.out _ HB2.out; clear hB))
          go_loopg [4] (u.ks.length) (fun m i wr => ∃ k : Nat, 1 ≤ k ∧ k ≤ u.ks.length ∧ m = u.ks.length + 1 - k ∧ i = .int .i64 k ∧ YTo u k ∧ Below w.heap.size w wr)
          case atStart => exact ⟨1, by omega, by have := H2.out; omega, by omega, rfl, fun j _ h1 h2 => by omega, HB2.out⟩
          case round =>
            obtain ⟨k, hk1, hkp, rfl, rfl, hQ, hB⟩ := hrel
            have HQ := Lib.hid hQ
            have HB := Lib.hid hB
            obtain ⟨t0, t1, t2, t3⟩ := HZ.out _ hB
            clear hQ hB z0 z1 z2 z3 v0 v1 v2 y0 y1 y2 y3 x0 x1 x2 x3
            have lbr : b < wr.heap.size := World.block_lt_of_cell? _ _ t0
            by_cases hlt : k < u.ks.length
            · obtain ⟨⟨b3', o3', hbo, q0, q1, q2, q3⟩, -⟩ := (HK.out _ HB.out).at k hlt
              injection hbo with hbo
              injection hbo with e1 e2 e3
              subst e1 e2
              have lb3 : b3 < wr.heap.size := World.block_lt_of_cell? _ _ q0
              have HN := Lib.hid (HTN.out k hlt hk1)
              have HS : Hid (typeF u.ks[k].form = true → YTo u (k + 1)) := Lib.hid fun h j hj h1 h2 => by
                by_cases e : j = k
                · subst e; exact h
                · exact HQ.out j hj h1 (by omega)
              obtain ⟨v, hv⟩ : ∃ v, u.ks[k] = v := ⟨_, rfl⟩
              rw [hv] at q0 q1 q2 q3 HN HS
              have HY := Lib.hid (rtyped_any v wr)
              clear hv
              cases hp : typeF v.form with
              | true =>
                rw [hp] at HY
                have HSS := Lib.hid (HS.out hp)
                clear hp
                go_wp2_with (go_at_call 124; refine HY.out.mono ?_; rintro e w5 ⟨rfl, hB⟩; have HB5 := Lib.hid (up HB.out hB); clear hB)
                go_roundg (u.ks.length + 1 - (k + 1))
                case measure => omega
                case rel => exact ⟨k + 1, by omega, by omega, rfl, by go_num, HSS.out, HB5.out⟩
              | false =>
                rw [hp] at HY
                have HNN := Lib.hid (HN.out hp)
                clear hp
                go_wp2_with (go_at_call 124; refine HY.out.mono ?_; rintro e w5 ⟨rfl, hB⟩; have HB5 := Lib.hid (up HB.out hB); clear hB)
                go_ret
                exact AnsR.ofNo (by decide) HNN.out HB5.out
            · have gk : decide ((k : Int) < (u.ks.length : Int)) = false := by simp; omega
              have HPP := Lib.hid (HTY.out fun j hj h1 h2 => HQ.out j hj h1 (by omega))
              go_wp2_with (go_at_call 104; refine (HT2.out _ _ _ (HI2.out _ HB.out)).mono ?_; intro e w4 hA; have HA := Lib.hid hA; obtain ⟨q, rfl, hq, hB⟩ := hA; clear hB hq)
              all_goals
                go_ret
                exact (HA.out.iff HPP.out).up HB.out
      · have HP := Lib.hid (call_plain (E := E) (x := x) (r := u :: s) hn (fun v t e => by injection e with e1 e2; rw [← e1]; exact ho))
        have g2 : ((headF u.form).toList == [111, 102]) = false := by simpa using fun e => ho (hg.2 e)
        obtain ⟨hd, hhd⟩ : ∃ hd, headF u.form = hd := ⟨_, rfl⟩
        rw [hhd] at g2 HH
        clear hn hinx hk hs hE ho hg hinu hhd hm
        go_enter Tryz.func166, Tryz.ntmps166
        go_wp2_with (first
          | (go_at_call 67; refine (HX.out _ (Below.refl _ _)).mono ?_; rintro e w2 ⟨rfl, hB⟩; have HB1 := Lib.hid hB; obtain ⟨y0, y1, y2, y3⟩ := HZ.out _ hB; clear hB)
          | (go_at_call 31; refine (HH.out _ HB1.out).mono ?_; rintro e w3 ⟨rfl, hB⟩; have HB2 := Lib.hid (up HB1.out hB); obtain ⟨x0, x1, x2, x3⟩ := HZ.out _ HB2.out; clear hB)
          | (go_at_call 104; refine (HT.out _ _ _ (by first | exact HI.out _ HB2.out | exact InL_nil (by have := HM.out; simp; omega))).mono ?_; intro e w4 hA; have HA := Lib.hid hA; obtain ⟨q, rfl, hq, hB⟩ := hA; clear hB hq))
        all_goals
          go_ret
          exact (HA.out.iff HP.out.symm).up HB2.out
end Go.Proofs.YtmlfiopbdlaaaaaGreat

namespace Go.Proofs.YtmlfiopbdlaaaaaGreat
open Go.RowKit Go.Deep
def NE2 (E : Fm → Bool) (l : List Fm) : Prop := ∃ a b, l = [a, b] ∧ nameF a = true ∧ E b = true
def NE3 (E : Fm → Bool) (l : List Fm) : Prop := ∃ a b r, l = a :: b :: r ∧ nameF a = true ∧ AllE E (b :: r)
set_option maxHeartbeats 4000000 in
set_option maxRecDepth 100000 in
theorem rspec_is (n : Nat) (E : Fm → Bool) (hE : HExp n E) (hd : ByteArray) (hq : hd.toList = [105, 115]) (a : Option Addr) (c : Nat) (l : List T) (w : World) (hk : InL w a 0 l) (hlen : l.length ≤ 1000000) (hc : l.length ≤ c) (hs : ∀ u ∈ l, Asked n u) :
    Calls Tryz.prog 106 #[.string hd, .slice a l.length c] w fun e w' => AnsR (NE2 E (l.map T.form)) w e w' := by
  have HIA := Lib.hid fun (W : World) => in_val hd ⟨#[105, 115, 32, 103, 101, 116]⟩ (by kernel_rfl) true (by rw [← Lib.toList_data, hq]; kernel_rfl) W
  have HIB := Lib.hid fun (W : World) => in_val hd ⟨#[99, 97, 108, 108, 32, 109, 97, 107, 101]⟩ (by kernel_rfl) false (by rw [← Lib.toList_data, hq]; kernel_rfl) W
  by_cases hl : l.length = 2
  · obtain ⟨x, r, hxr⟩ : ∃ x r, l = x :: r := by
      match l, hl with
      | x :: r, _ => exact ⟨x, r, rfl⟩
    subst hxr
    obtain ⟨⟨b, o, rfl, z0, z1, z2, z3⟩, hinx⟩ := hk.at 0 (by simp)
    simp only [List.getElem_cons_zero, Nat.zero_mul, Nat.add_zero] at z0 z1 z2 z3 hinx
    have lb : b < w.heap.size := World.block_lt_of_cell? _ _ z0
    have HX := Lib.hid fun (W : World) (h : Below w.heap.size w W) => rnamed_any x W (hinx.below h)
    have HT := Lib.hid fun (W : World) (h : Below w.heap.size w W) => rbehind_any n E hE (some ⟨b, o, none⟩) c x r W (hk.below h) (by simp at hlen; omega) (by simpa using hc) (fun u hu => hs u (List.mem_cons_of_mem _ hu))
    have HP : Hid (nameF x.form = true ∧ AllE E (r.map T.form) ↔ NE2 E ((x :: r).map T.form)) := Lib.hid (by
      unfold NE2
      constructor
      · rintro ⟨h1, h2⟩
        obtain ⟨y, hy⟩ : ∃ y, r = [y] := by
          have hl : r.length = 1 := by simpa using hl
          match r, hl with
          | [y], _ => exact ⟨y, rfl⟩
        subst hy
        exact ⟨_, _, rfl, h1, h2 _ (by simp)⟩
      · rintro ⟨a', b', e, h1, h2⟩
        injection e with e1 e2
        refine ⟨by rw [e1]; exact h1, fun z hz => ?_⟩
        rw [e2, List.mem_singleton] at hz
        rw [hz]; exact h2)
    obtain ⟨m, hm⟩ : ∃ m, r.length = m := ⟨_, rfl⟩
    rw [List.length_cons, hm] at hl hc hlen ⊢
    rw [hm] at HT
    obtain ⟨nx, hnx⟩ : ∃ nx, nameF x.form = nx := ⟨_, rfl⟩
    rw [hnx] at HX HP
    obtain rfl : m = 1 := by omega
    clear hk hinx hm hs hE hnx
    go_enter Tryz.func106, Tryz.ntmps106
    go_wp2_with (first
      | (go_at_call 32; with_reducible refine (HIA.out _).mono ?_; rintro e wi ⟨rfl, rfl⟩)
      | (go_at_call 32; with_reducible refine (HIB.out _).mono ?_; rintro e wj ⟨rfl, rfl⟩)
      | (go_at_call 67; refine (HX.out _ (Below.refl _ _)).mono ?_; rintro e w2 ⟨rfl, hB⟩; have HB1 := Lib.hid hB; clear hB)
      | (go_at_call 102; refine (truth_q _ _).mono ?_; rintro e w3 ⟨⟨q1, rfl, hq1⟩, rfl⟩; have HQ1 := Lib.hid hq1; clear hq1)
      | (go_at_call 128; refine (HT.out _ HB1.out).mono ?_; intro e w4 hA; obtain ⟨q2, rfl, hq2, hB⟩ := hA; have HQ2 := Lib.hid hq2; have HB2 := Lib.hid (up HB1.out hB); clear hB hq2)
      | (go_at_call 126; refine (first_q _ _ _).mono ?_; rintro e w5 ⟨⟨q3, rfl, hq3⟩, rfl⟩; have HQ3 := Lib.hid hq3; clear hq3))
    go_ret
    exact ⟨_, rfl, HQ3.out.trans ((and_congr HQ1.out HQ2.out).trans HP.out), HB2.out⟩
  · have g : ((l.length : Int) == 2) = false := by simp; omega
    have HN : Hid (¬ NE2 E (l.map T.form)) := Lib.hid (by
      rintro ⟨a', b', e, _⟩
      have : (l.map T.form).length = 2 := by rw [e]; rfl
      rw [List.length_map] at this
      exact hl this)
    clear hk hs hE
    go_enter Tryz.func106, Tryz.ntmps106
    go_wp2_with (first
      | (go_at_call 32; with_reducible refine (HIA.out _).mono ?_; rintro e wi ⟨rfl, rfl⟩)
      | (go_at_call 32; with_reducible refine (HIB.out _).mono ?_; rintro e wj ⟨rfl, rfl⟩))
    go_ret
    exact AnsR.ofNo (by decide) HN.out (Below.refl _ _)
set_option maxHeartbeats 4000000 in
set_option maxRecDepth 100000 in
theorem rspec_get (n : Nat) (E : Fm → Bool) (hE : HExp n E) (hd : ByteArray) (hq : hd.toList = [103, 101, 116]) (a : Option Addr) (c : Nat) (l : List T) (w : World) (hk : InL w a 0 l) (hlen : l.length ≤ 1000000) (hc : l.length ≤ c) (hs : ∀ u ∈ l, Asked n u) :
    Calls Tryz.prog 106 #[.string hd, .slice a l.length c] w fun e w' => AnsR (NE2 E (l.map T.form)) w e w' := by
  have HIA := Lib.hid fun (W : World) => in_val hd ⟨#[105, 115, 32, 103, 101, 116]⟩ (by kernel_rfl) true (by rw [← Lib.toList_data, hq]; kernel_rfl) W
  have HIB := Lib.hid fun (W : World) => in_val hd ⟨#[99, 97, 108, 108, 32, 109, 97, 107, 101]⟩ (by kernel_rfl) false (by rw [← Lib.toList_data, hq]; kernel_rfl) W
  by_cases hl : l.length = 2
  · obtain ⟨x, r, hxr⟩ : ∃ x r, l = x :: r := by
      match l, hl with
      | x :: r, _ => exact ⟨x, r, rfl⟩
    subst hxr
    obtain ⟨⟨b, o, rfl, z0, z1, z2, z3⟩, hinx⟩ := hk.at 0 (by simp)
    simp only [List.getElem_cons_zero, Nat.zero_mul, Nat.add_zero] at z0 z1 z2 z3 hinx
    have lb : b < w.heap.size := World.block_lt_of_cell? _ _ z0
    have HX := Lib.hid fun (W : World) (h : Below w.heap.size w W) => rnamed_any x W (hinx.below h)
    have HT := Lib.hid fun (W : World) (h : Below w.heap.size w W) => rbehind_any n E hE (some ⟨b, o, none⟩) c x r W (hk.below h) (by simp at hlen; omega) (by simpa using hc) (fun u hu => hs u (List.mem_cons_of_mem _ hu))
    have HP : Hid (nameF x.form = true ∧ AllE E (r.map T.form) ↔ NE2 E ((x :: r).map T.form)) := Lib.hid (by
      unfold NE2
      constructor
      · rintro ⟨h1, h2⟩
        obtain ⟨y, hy⟩ : ∃ y, r = [y] := by
          have hl : r.length = 1 := by simpa using hl
          match r, hl with
          | [y], _ => exact ⟨y, rfl⟩
        subst hy
        exact ⟨_, _, rfl, h1, h2 _ (by simp)⟩
      · rintro ⟨a', b', e, h1, h2⟩
        injection e with e1 e2
        refine ⟨by rw [e1]; exact h1, fun z hz => ?_⟩
        rw [e2, List.mem_singleton] at hz
        rw [hz]; exact h2)
    obtain ⟨m, hm⟩ : ∃ m, r.length = m := ⟨_, rfl⟩
    rw [List.length_cons, hm] at hl hc hlen ⊢
    rw [hm] at HT
    obtain ⟨nx, hnx⟩ : ∃ nx, nameF x.form = nx := ⟨_, rfl⟩
    rw [hnx] at HX HP
    obtain rfl : m = 1 := by omega
    clear hk hinx hm hs hE hnx
    go_enter Tryz.func106, Tryz.ntmps106
    go_wp2_with (first
      | (go_at_call 32; with_reducible refine (HIA.out _).mono ?_; rintro e wi ⟨rfl, rfl⟩)
      | (go_at_call 32; with_reducible refine (HIB.out _).mono ?_; rintro e wj ⟨rfl, rfl⟩)
      | (go_at_call 67; refine (HX.out _ (Below.refl _ _)).mono ?_; rintro e w2 ⟨rfl, hB⟩; have HB1 := Lib.hid hB; clear hB)
      | (go_at_call 102; refine (truth_q _ _).mono ?_; rintro e w3 ⟨⟨q1, rfl, hq1⟩, rfl⟩; have HQ1 := Lib.hid hq1; clear hq1)
      | (go_at_call 128; refine (HT.out _ HB1.out).mono ?_; intro e w4 hA; obtain ⟨q2, rfl, hq2, hB⟩ := hA; have HQ2 := Lib.hid hq2; have HB2 := Lib.hid (up HB1.out hB); clear hB hq2)
      | (go_at_call 126; refine (first_q _ _ _).mono ?_; rintro e w5 ⟨⟨q3, rfl, hq3⟩, rfl⟩; have HQ3 := Lib.hid hq3; clear hq3))
    go_ret
    exact ⟨_, rfl, HQ3.out.trans ((and_congr HQ1.out HQ2.out).trans HP.out), HB2.out⟩
  · have g : ((l.length : Int) == 2) = false := by simp; omega
    have HN : Hid (¬ NE2 E (l.map T.form)) := Lib.hid (by
      rintro ⟨a', b', e, _⟩
      have : (l.map T.form).length = 2 := by rw [e]; rfl
      rw [List.length_map] at this
      exact hl this)
    clear hk hs hE
    go_enter Tryz.func106, Tryz.ntmps106
    go_wp2_with (first
      | (go_at_call 32; with_reducible refine (HIA.out _).mono ?_; rintro e wi ⟨rfl, rfl⟩)
      | (go_at_call 32; with_reducible refine (HIB.out _).mono ?_; rintro e wj ⟨rfl, rfl⟩))
    go_ret
    exact AnsR.ofNo (by decide) HN.out (Below.refl _ _)
set_option maxHeartbeats 4000000 in
set_option maxRecDepth 100000 in
theorem rspec_prefix (n : Nat) (E : Fm → Bool) (hE : HExp n E) (hd : ByteArray) (hq : hd.toList = [112, 114, 101, 102, 105, 120]) (a : Option Addr) (c : Nat) (l : List T) (w : World) (hk : InL w a 0 l) (hlen : l.length ≤ 1000000) (hc : l.length ≤ c) (hs : ∀ u ∈ l, Asked n u) :
    Calls Tryz.prog 106 #[.string hd, .slice a l.length c] w fun e w' => AnsR (NE3 E (l.map T.form)) w e w' := by
  have HIA := Lib.hid fun (W : World) => in_val hd ⟨#[105, 115, 32, 103, 101, 116]⟩ (by kernel_rfl) false (by rw [← Lib.toList_data, hq]; kernel_rfl) W
  have HIB := Lib.hid fun (W : World) => in_val hd ⟨#[99, 97, 108, 108, 32, 109, 97, 107, 101]⟩ (by kernel_rfl) false (by rw [← Lib.toList_data, hq]; kernel_rfl) W
  by_cases hl : 2 ≤ l.length
  · obtain ⟨x, r, hxr⟩ : ∃ x r, l = x :: r := by
      match l, hl with
      | x :: r, _ => exact ⟨x, r, rfl⟩
    subst hxr
    obtain ⟨⟨b, o, rfl, z0, z1, z2, z3⟩, hinx⟩ := hk.at 0 (by simp)
    simp only [List.getElem_cons_zero, Nat.zero_mul, Nat.add_zero] at z0 z1 z2 z3 hinx
    have lb : b < w.heap.size := World.block_lt_of_cell? _ _ z0
    have HX := Lib.hid fun (W : World) (h : Below w.heap.size w W) => rnamed_any x W (hinx.below h)
    have HT := Lib.hid fun (W : World) (h : Below w.heap.size w W) => rbehind_any n E hE (some ⟨b, o, none⟩) c x r W (hk.below h) (by simp at hlen; omega) (by simpa using hc) (fun u hu => hs u (List.mem_cons_of_mem _ hu))
    have HP : Hid (nameF x.form = true ∧ AllE E (r.map T.form) ↔ NE3 E ((x :: r).map T.form)) := Lib.hid (by
      unfold NE3
      constructor
      · rintro ⟨h1, h2⟩
        obtain ⟨y, s, hy⟩ : ∃ y s, r = y :: s := by
          match r, hl with
          | y :: s, _ => exact ⟨y, s, rfl⟩
        subst hy
        exact ⟨_, _, _, rfl, h1, h2⟩
      · rintro ⟨a', b', s, e, h1, h2⟩
        injection e with e1 e2
        exact ⟨by rw [e1]; exact h1, by rw [e2]; exact h2⟩)
    obtain ⟨m, hm⟩ : ∃ m, r.length = m := ⟨_, rfl⟩
    rw [List.length_cons, hm] at hl hc hlen ⊢
    rw [hm] at HT
    obtain ⟨nx, hnx⟩ : ∃ nx, nameF x.form = nx := ⟨_, rfl⟩
    rw [hnx] at HX HP
    have g : decide ((2 : Int) ≤ (m : Int) + 1) = true := by simp; omega
    have g' : (2 : Int) ≤ (m : Int) + 1 := by omega
    clear hk hinx hm hs hE hnx
    go_enter Tryz.func106, Tryz.ntmps106
    go_wp2_with (first
      | (go_at_call 32; with_reducible refine (HIA.out _).mono ?_; rintro e wi ⟨rfl, rfl⟩)
      | (go_at_call 32; with_reducible refine (HIB.out _).mono ?_; rintro e wj ⟨rfl, rfl⟩)
      | (go_at_call 67; refine (HX.out _ (Below.refl _ _)).mono ?_; rintro e w2 ⟨rfl, hB⟩; have HB1 := Lib.hid hB; clear hB)
      | (go_at_call 102; refine (truth_q _ _).mono ?_; rintro e w3 ⟨⟨q1, rfl, hq1⟩, rfl⟩; have HQ1 := Lib.hid hq1; clear hq1)
      | (go_at_call 128; refine (HT.out _ HB1.out).mono ?_; intro e w4 hA; obtain ⟨q2, rfl, hq2, hB⟩ := hA; have HQ2 := Lib.hid hq2; have HB2 := Lib.hid (up HB1.out hB); clear hB hq2)
      | (go_at_call 126; refine (first_q _ _ _).mono ?_; rintro e w5 ⟨⟨q3, rfl, hq3⟩, rfl⟩; have HQ3 := Lib.hid hq3; clear hq3))
    go_ret
    exact ⟨_, rfl, HQ3.out.trans ((and_congr HQ1.out HQ2.out).trans HP.out), HB2.out⟩
  · have g : decide ((2 : Int) ≤ (l.length : Int)) = false := by simp; omega
    have HN : Hid (¬ NE3 E (l.map T.form)) := Lib.hid (by
      rintro ⟨a', b', s, e, _⟩
      have : (l.map T.form).length = s.length + 2 := by rw [e]; rfl
      rw [List.length_map] at this
      omega)
    clear hk hs hE
    go_enter Tryz.func106, Tryz.ntmps106
    go_wp2_with (first
      | (go_at_call 32; with_reducible refine (HIA.out _).mono ?_; rintro e wi ⟨rfl, rfl⟩)
      | (go_at_call 32; with_reducible refine (HIB.out _).mono ?_; rintro e wj ⟨rfl, rfl⟩))
    go_ret
    exact AnsR.ofNo (by decide) HN.out (Below.refl _ _)
end Go.Proofs.YtmlfiopbdlaaaaaGreat
