/- Several texts, one behind the other. -/
import Derived.Test.YtmlfiopbdlaaaaaGreatJ10
namespace Go.Proofs.YtmlfiopbdlaaaaaGreat
open Go.RowKit Go.Deep
theorem dup_q (b : Bool) (w : World) : Calls Tryz.prog 129 #[.bool b] w fun e w' => (∃ q : Int, e = .returned (.int .i64 q) ∧ (q = 0 ↔ b = false)) ∧ w = w' := (dup_any b w).mono fun _ _ ⟨h1, h2⟩ => ⟨⟨_, h1, by cases b <;> simp⟩, h2⟩
def FnL (E : Fm → Bool) (l : List Fm) : Prop := ∃ a b, l = [a, b] ∧ Pairs a ∧ (texts (firsts a.ks)).Nodup ∧ E b = true
theorem pairs_fst {t : T} (h : Pairs t.form) : ∀ p ∈ t.ks, Fst1 p := fun p hp e => by
  have := h.2 p.form (by rw [T.form_ks]; exact List.mem_map_of_mem hp)
  obtain ⟨_, x, y, e2, _⟩ := (pairF_iff _).1 this
  rw [T.form_ks, e] at e2; cases e2
set_option maxHeartbeats 4000000 in
set_option maxRecDepth 100000 in
theorem rbind_fn (n : Nat) (E : Fm → Bool) (hE : HExp n E) (hd : ByteArray) (hq : hd.toList = [102, 110]) (a : Option Addr) (c : Nat) (l : List T) (w : World) (hk : InL w a 0 l) (hlen : l.length ≤ 1000000) (hc : l.length ≤ c) (hs : ∀ u ∈ l, Asked n u) :
    Calls Tryz.prog 105 #[.string hd, .slice a l.length c] w fun e w' => AnsR (FnL E (l.map T.form)) w e w' := by
  by_cases hl : l.length = 2
  · obtain ⟨x, r, hxr, hr⟩ := cons_len hl
    subst hxr
    obtain ⟨y, hy⟩ : ∃ y, r = [y] := by
      match r, hr with
      | [y], _ => exact ⟨y, rfl⟩
    obtain ⟨⟨b, o, rfl, z0, z1, z2, z3⟩, hinx⟩ := hk.at 0 (by simp)
    simp only [List.getElem_cons_zero, Nat.zero_mul, Nat.add_zero] at z0 z1 z2 z3 hinx
    have lb : b < w.heap.size := World.block_lt_of_cell? _ _ z0
    have HX := Lib.hid fun (W : World) (h : Below w.heap.size w W) => rpairs_any x W (hinx.below h)
    have HT := Lib.hid fun (W : World) (h : Below w.heap.size w W) => rbehind_any n E hE (some ⟨b, o, none⟩) c x r W (hk.below h) (by omega) (by simpa using hc) (fun u hu => hs u (List.mem_cons_of_mem _ hu))
    have HZ := Lib.hid fun (W : World) (h : Below w.heap.size w W) => (⟨(h.cell (p := ⟨b, o, none⟩) lb).trans z0, (h.cell (p := ⟨b, o + 1, none⟩) lb).trans z1, (h.cell (p := ⟨b, o + 2, none⟩) lb).trans z2, (h.cell (p := ⟨b, o + 3, none⟩) lb).trans z3⟩ : W.cell? ⟨b, o, none⟩ = some (.int .i64 x.kd) ∧ W.cell? ⟨b, o + 1, none⟩ = some (.int .i64 x.nn) ∧ W.cell? ⟨b, o + 2, none⟩ = some (.string x.tx) ∧ W.cell? ⟨b, o + 3, none⟩ = some (.slice x.ad x.ks.length x.cp))
    have HL : Hid (Pairs x.form → x.ks.length ≤ 1000000) := Lib.hid fun h => by have := (hs x (by simp)).len h.1; omega
    have HF := Lib.hid fun (hp : Pairs x.form) (W : World) (h : Below w.heap.size w W) => rfirsts_any x.ad x.cp x.ks W ((hinx.below h).inL) (HL.out hp) (pairs_fst hp)
    have HP : Hid (Pairs x.form ∧ AllE E (r.map T.form) → ((texts (firsts (x.ks.map T.form))).Nodup ↔ FnL E ((x :: r).map T.form))) := Lib.hid (by
      subst hy
      unfold FnL
      rintro ⟨h1, h2⟩
      constructor
      · intro h; exact ⟨_, _, rfl, h1, by rw [T.form_ks]; exact h, h2 _ (by simp)⟩
      · rintro ⟨a', b', e, _, h, _⟩; injection e with e1 e2; rw [← e1, T.form_ks] at h; exact h)
    have HN : Hid (¬ (Pairs x.form ∧ AllE E (r.map T.form)) → ¬ FnL E ((x :: r).map T.form)) := Lib.hid (by
      subst hy
      unfold FnL
      rintro h ⟨a', b', e, h1, _, h2⟩
      injection e with e1 e2; injection e2 with e2 e3
      refine h ⟨by rw [e1]; exact h1, fun z hz => ?_⟩
      simp only [List.map_cons, List.map_nil, List.mem_singleton] at hz
      rw [hz]; exact e2 ▸ h2)
    rw [hr] at HT
    rw [hl]
    clear hk hinx hr hl hs hE hy
    by_cases hP : Pairs x.form ∧ AllE E (r.map T.form)
    · have HPP := Lib.hid (HP.out hP)
      have HFF := Lib.hid (HF.out hP.1)
      have HLL := Lib.hid (HL.out hP.1)
      have HH := Lib.hid hP
      clear hP HF HL HP HN
      go_enter Tryz.func105, Tryz.ntmps105
      go_wp2_with (first
        | (go_at_call 127; refine (HX.out _ (Below.refl _ _)).mono ?_; intro e w2 hA; obtain ⟨rfl, hB⟩ := hA.yes HH.out.1; have HB1 := Lib.hid hB; clear hB hA)
        | (go_at_call 128; refine (HT.out _ HB1.out).mono ?_; intro e w3 hA; obtain ⟨rfl, hB⟩ := hA.yes HH.out.2; obtain ⟨y0, y1, y2, y3⟩ := HZ.out _ (up HB1.out hB); have HB2 := Lib.hid (up HB1.out hB); clear hB hA)
        | (go_at_call 126; refine (first_q _ _ _).mono ?_; rintro e w4 ⟨⟨q3, rfl, hq3⟩, rfl⟩; obtain rfl := hq3.2 ⟨rfl, rfl⟩; clear hq3)
        | (go_at_call 131; refine (HFF.out _ HB2.out).mono ?_; rintro e w5 ⟨va, vc, us, rfl, hul, hui, huf, hB⟩; have HW := Lib.hid (rtwice_any va vc us w5 hui (by have := HLL.out; omega) (decide (texts (us.map T.form)).Nodup) (by simp)); have HUF := Lib.hid huf; have HB3 := Lib.hid (up HB2.out hB); obtain ⟨ul, hul2⟩ : ∃ ul, us.length = ul := ⟨_, rfl⟩; rw [hul2] at HW; rw [hul2]; clear hB hui huf hul hul2)
        | (go_at_call 130; refine HW.out.mono ?_; rintro e w6 ⟨rfl, hB⟩; have HB4 := Lib.hid (up HB3.out hB); clear hB)
        | (go_at_call 129; refine (dup_q _ _).mono ?_; rintro e w7 ⟨⟨q4, rfl, hq4⟩, rfl⟩; have HQ4 := Lib.hid hq4; clear hq4))
      go_ret
      refine ⟨_, rfl, HQ4.out.trans (Iff.trans ?_ HPP.out), HB4.out⟩
      rw [HUF.out]; simp
    · have HNN := Lib.hid (HN.out hP)
      have HH := Lib.hid hP
      clear hP HF HL HP HN
      go_enter Tryz.func105, Tryz.ntmps105
      go_wp2_with (first
        | (go_at_call 127; refine (HX.out _ (Below.refl _ _)).mono ?_; intro e w2 hA; obtain ⟨q1, rfl, hq1, hB⟩ := hA; have HQ1 := Lib.hid hq1; have HB1 := Lib.hid hB; clear hB hq1)
        | (go_at_call 128; refine (HT.out _ HB1.out).mono ?_; intro e w3 hA; obtain ⟨q2, rfl, hq2, hB⟩ := hA; have HQ2 := Lib.hid hq2; have HB2 := Lib.hid (up HB1.out hB); clear hB hq2)
        | (go_at_call 126; refine (first_q _ _ _).mono ?_; rintro e w4 ⟨⟨q3, rfl, hq3⟩, rfl⟩; have hn3 : ¬ q3 = 0 := (fun h => HH.out ⟨HQ1.out.1 (hq3.1 h).1, HQ2.out.1 (hq3.1 h).2⟩); have g3 : (q3 != 0) = true := (by simpa using hn3); have HN3 := Lib.hid hn3; clear hq3 hn3))
      go_ret
      exact AnsR.ofNo HN3.out HNN.out HB2.out
  · have g : ((l.length : Int) != 2) = true := by simp; omega
    have HN : Hid (¬ FnL E (l.map T.form)) := Lib.hid (by
      rintro ⟨x, r, e, _⟩
      have : (l.map T.form).length = 2 := by rw [e]; rfl
      rw [List.length_map] at this
      exact hl this)
    clear hl hk hs hE
    go_enter Tryz.func105, Tryz.ntmps105
    go_wp2_with fail
    go_ret
    exact AnsR.ofNo (by decide) HN.out (Below.refl _ _)
end Go.Proofs.YtmlfiopbdlaaaaaGreat

namespace Go.Proofs.YtmlfiopbdlaaaaaGreat
open Go.RowKit Go.Deep
def QuantL (E : Fm → Bool) (l : List Fm) : Prop := ∃ a ms e, l = a :: (ms ++ [e]) ∧ Pairs a ∧ a.ks ≠ [] ∧ (texts (firsts a.ks)).Nodup ∧ (∀ m ∈ ms, Trig E m) ∧ E e = true
theorem quant_len {E : Fm → Bool} {l : List Fm} (h : QuantL E l) : 2 ≤ l.length := by
  obtain ⟨a, ms, e, rfl, _⟩ := h; simp
def QTo (E : Fm → Bool) (l : List T) (k : Nat) : Prop := ∀ j (h : j < l.length), 1 ≤ j → j < k → Trig E l[j].form
theorem quant_to {E : Fm → Bool} {l : List T} {p : Nat} (hp : l.length = p + 1) (h : 1 ≤ p) (h1 : Pairs (l[0]'(by omega)).form) (h2 : (l[0]'(by omega)).ks ≠ []) (h3 : (texts (firsts ((l[0]'(by omega)).ks.map T.form))).Nodup) (h4 : QTo E l p) (h5 : E (l[p]'(by omega)).form = true) : QuantL E (l.map T.form) := by
  match l, hp with
  | x :: r, hp =>
    have hp : r.length = p := by simpa using hp
    have hr : r ≠ [] := fun e => by rw [e] at hp; simp at hp; omega
    refine ⟨x.form, (r.dropLast).map T.form, (r.getLast hr).form, ?_, h1, ?_, ?_, ?_, ?_⟩
    · rw [List.map_cons, ← List.map_singleton, ← List.map_append, List.dropLast_concat_getLast]
    · rw [T.form_ks]; simpa using h2
    · rw [T.form_ks]; exact h3
    · intro m hm
      obtain ⟨u, hu, rfl⟩ := List.mem_map.1 hm
      obtain ⟨i, hi, rfl⟩ := List.getElem_of_mem hu
      have hi' : i < r.length - 1 := by simpa using hi
      have := h4 (i + 1) (by simp; omega) (by omega) (by omega)
      rw [List.getElem_dropLast]; simpa using this
    · rw [List.getLast_eq_getElem]
      subst hp
      obtain ⟨q, hq⟩ : ∃ q, r.length = q + 1 := ⟨r.length - 1, by omega⟩
      have e : (x :: r)[r.length]'(by simp) = r[r.length - 1]'(by omega) := by
        simp only [hq, List.getElem_cons_succ, Nat.add_sub_cancel]
      rw [← e]; exact h5
theorem quant_of {E : Fm → Bool} {l : List T} {p : Nat} (hp : l.length = p + 1) (h : 1 ≤ p) (hQ : QuantL E (l.map T.form)) : Pairs (l[0]'(by omega)).form ∧ (l[0]'(by omega)).ks ≠ [] ∧ (texts (firsts ((l[0]'(by omega)).ks.map T.form))).Nodup ∧ QTo E l p ∧ E (l[p]'(by omega)).form = true := by
  obtain ⟨a, ms, e, hl, h1, h2, h3, h4, h5⟩ := hQ
  have hlen : ms.length = p - 1 := by
    have := congrArg List.length hl
    simp at this; omega
  have hg : ∀ j (hj : j < l.length), l[j].form = (a :: (ms ++ [e]))[j]'(by simp; omega) := fun j hj => by
    have : (l.map T.form)[j]'(by simpa using hj) = (a :: (ms ++ [e]))[j]'(by simp; omega) := by simp only [hl]
    simpa using this
  have h0 := hg 0 (by omega)
  simp only [List.getElem_cons_zero] at h0
  refine ⟨by rw [h0]; exact h1, ?_, ?_, ?_, ?_⟩
  · intro e2
    apply h2
    rw [← h0, T.form_ks, e2]; rfl
  · rw [← T.form_ks, h0]; exact h3
  · intro j hj hj1 hjp
    rw [hg j hj]
    obtain ⟨i, rfl⟩ : ∃ i, j = i + 1 := ⟨j - 1, by omega⟩
    rw [List.getElem_cons_succ, List.getElem_append_left (by omega)]
    exact h4 _ (List.getElem_mem _)
  · rw [hg p (by omega)]
    obtain ⟨i, rfl⟩ : ∃ i, p = i + 1 := ⟨p - 1, by omega⟩
    have hi : i = ms.length := by omega
    subst hi
    simpa using h5
set_option maxHeartbeats 8000000 in
set_option maxRecDepth 100000 in
theorem rquant_any (n : Nat) (E : Fm → Bool) (hE : HExp n E) (a : Option Addr) (c : Nat) (l : List T) (w : World) (hk : InL w a 0 l) (hlen : l.length ≤ 1000000) (hs : ∀ u ∈ l, Asked n u) :
    Calls Tryz.prog 165 #[.slice a l.length c] w fun e w' => AnsR (QuantL E (l.map T.form)) w e w' := by
  by_cases hl : 2 ≤ l.length
  · obtain ⟨p, hp⟩ : ∃ p, l.length = p + 1 := ⟨l.length - 1, by omega⟩
    have hp1 : 1 ≤ p := by omega
    obtain ⟨⟨b, o, rfl, z0, z1, z2, z3⟩, hinx⟩ := hk.at 0 (by omega)
    simp only [Nat.zero_mul, Nat.add_zero] at z0 z1 z2 z3
    have HTO := Lib.hid (quant_to (E := E) hp hp1)
    have HOF := Lib.hid (quant_of (E := E) hp hp1)
    obtain ⟨x, hx⟩ : ∃ x, l[0]'(by omega) = x := ⟨_, rfl⟩
    have hxs : Asked n x := hs x (by rw [← hx]; exact List.getElem_mem _)
    rw [hx] at HTO HOF z0 z1 z2 z3 hinx
    have lb : b < w.heap.size := World.block_lt_of_cell? _ _ z0
    have HK := Lib.hid fun (W : World) (h : Below w.heap.size w W) => hk.below h
    have HX := Lib.hid fun (W : World) (h : Below w.heap.size w W) => rpairs_any x W (hinx.below h)
    have HZ := Lib.hid fun (W : World) (h : Below w.heap.size w W) => (⟨(h.cell (p := ⟨b, o, none⟩) lb).trans z0, (h.cell (p := ⟨b, o + 1, none⟩) lb).trans z1, (h.cell (p := ⟨b, o + 2, none⟩) lb).trans z2, (h.cell (p := ⟨b, o + 3, none⟩) lb).trans z3⟩ : W.cell? ⟨b, o, none⟩ = some (.int .i64 x.kd) ∧ W.cell? ⟨b, o + 1, none⟩ = some (.int .i64 x.nn) ∧ W.cell? ⟨b, o + 2, none⟩ = some (.string x.tx) ∧ W.cell? ⟨b, o + 3, none⟩ = some (.slice x.ad x.ks.length x.cp))
    have HL : Hid (Pairs x.form → x.ks.length ≤ 1000000) := Lib.hid fun h => by have := hxs.len h.1; omega
    have HF := Lib.hid fun (hp : Pairs x.form) (W : World) (h : Below w.heap.size w W) => rfirsts_any x.ad x.cp x.ks W ((hinx.below h).inL) (HL.out hp) (pairs_fst hp)
    have HE := Lib.hid hE
    have HS := Lib.hid fun j (h : j < l.length) => hs l[j] (List.getElem_mem h)
    have HLP := Lib.hid hp
    have gl : ((l.length : Int) < 2) = False := by simp; omega
    have gl2 : decide ((p : Int) + 1 < 2) = false := by simp; omega
    have hxl := Nat.le_trans hinx.ok.le hinx.ok.cp
    unfold maxLen at hxl
    rw [hp]
    rw [hp] at hlen
    clear hk hinx hs hE hl hx hxs gl
    have mixed : Tryz.prog.follows .mixedOrders = true := by kernel_rfl
    by_cases hP : Pairs x.form
    · have HPR := Lib.hid hP
      have HFF := Lib.hid (HF.out hP)
      have HLL := Lib.hid (HL.out hP)
      clear HF HL
      by_cases h0 : x.ks = []
      · have hx0 : x.ks.length = 0 := by rw [h0]; rfl
        have HNN : Hid (¬ QuantL E (l.map T.form)) := Lib.hid fun h => (HOF.out h).2.1 h0
        rw [hx0] at HZ
        clear hP h0 hx0
        go_enter Tryz.func165, Tryz.ntmps165
        go_wp2_with (first
          | (go_at_call 127; refine (HX.out _ (Below.refl _ _)).mono ?_; intro e w2 hA; obtain ⟨rfl, hB⟩ := hA.yes HPR.out; obtain ⟨y0, y1, y2, y3⟩ := HZ.out _ hB; have HB1 := Lib.hid hB; clear hB hA))
        go_ret
        exact AnsR.ofNo (by decide) HNN.out HB1.out
      · have gx : ((x.ks.length : Int) == 0) = false := by
          have : x.ks.length ≠ 0 := fun e => h0 (List.length_eq_zero_iff.1 e)
          simp; omega
        have H0 := Lib.hid h0
        clear hP h0
        go_enter Tryz.func165, Tryz.ntmps165
        go_wp2_with (first
          | (go_at_call 127; refine (HX.out _ (Below.refl _ _)).mono ?_; intro e w2 hA; obtain ⟨rfl, hB⟩ := hA.yes HPR.out; obtain ⟨y0, y1, y2, y3⟩ := HZ.out _ hB; have HB1 := Lib.hid hB; clear hB hA))
        go_loopg [4] p (fun m i wr => ∃ k : Nat, 1 ≤ k ∧ k ≤ p ∧ m = p + 1 - k ∧ i = .int .i64 k ∧ QTo E l k ∧ Below w.heap.size w wr)
        case atStart => exact ⟨1, by omega, by omega, by omega, rfl, fun j _ h1 h2 => by omega, HB1.out⟩
        case round =>
          obtain ⟨k, hk1, hkp, rfl, rfl, hQ, hB⟩ := hrel
          have HQ := Lib.hid hQ
          have HB := Lib.hid hB
          clear hQ hB z0 z1 z2 z3 y0 y1 y2 y3 gl2 gx hxl lb
          by_cases hlt : k < p
          · have hkl : k < l.length := by have := HLP.out; omega
            obtain ⟨⟨b', o', hbo, hy0, hy1, hy2, hy3⟩, hinu⟩ := (HK.out _ HB.out).at k hkl
            injection hbo with hbo
            injection hbo with e1 e2 e3
            subst e1 e2
            have lb3 : b < wr.heap.size := World.block_lt_of_cell? _ _ hy0
            have HTN : Hid (¬ Trig E l[k].form → ¬ QuantL E (l.map T.form)) := Lib.hid fun h hq => h ((HOF.out hq).2.2.2.1 k hkl hk1 hlt)
            have HTY : Hid (Trig E l[k].form → QTo E l (k + 1)) := Lib.hid fun h j hj h1 h2 => by
              by_cases e : j = k
              · subst e; exact h
              · exact HQ.out j hj h1 (by omega)
            have hus := HS.out k hkl
            obtain ⟨u, hu⟩ : ∃ u, l[k] = u := ⟨_, rfl⟩
            rw [hu] at hy0 hy1 hy2 hy3 hinu HTN HTY hus
            have hul := Nat.le_trans hinu.ok.le hinu.ok.cp
            unfold maxLen at hul
            have HH := Lib.hid fun (W : World) (h : Below wr.heap.size wr W) => rhead_any u W (hinu.below h)
            have HZU := Lib.hid fun (W : World) (h : Below wr.heap.size wr W) => (⟨(h.cell (p := ⟨b, o + k * 4, none⟩) lb3).trans hy0, (h.cell (p := ⟨b, o + k * 4 + 1, none⟩) lb3).trans hy1, (h.cell (p := ⟨b, o + k * 4 + 2, none⟩) lb3).trans hy2, (h.cell (p := ⟨b, o + k * 4 + 3, none⟩) lb3).trans hy3⟩ : W.cell? ⟨b, o + k * 4, none⟩ = some (.int .i64 u.kd) ∧ W.cell? ⟨b, o + k * 4 + 1, none⟩ = some (.int .i64 u.nn) ∧ W.cell? ⟨b, o + k * 4 + 2, none⟩ = some (.string u.tx) ∧ W.cell? ⟨b, o + k * 4 + 3, none⟩ = some (.slice u.ad u.ks.length u.cp))
            clear hu
            have gk : (k : Int) + 1 < (p : Int) + 1 := by omega
            have gk2 : (k : Int) < (p : Int) + 1 := by omega
            have HKP : Hid (1 ≤ k ∧ k < p ∧ 1 ≤ p) := Lib.hid ⟨hk1, hlt, hp1⟩
            clear HOF HTO HK HS HX HZ HFF hk1 hkp hlt hkl hp hp1 lb3
            by_cases ht : (headF u.form).toList = [116, 114, 105, 103, 103, 101, 114]
            · by_cases h2 : u.ks.length < 2
              · have g2 : (u.ks.length : Int) < 2 := by omega
                have HNN : Hid (¬ QuantL E (l.map T.form)) := Lib.hid (HTN.out fun h => by have := h.2.1; rw [T.form_ks, List.length_map] at this; omega)
                obtain ⟨hd, hhd⟩ : ∃ hd, headF u.form = hd := ⟨_, rfl⟩
                rw [hhd] at ht HH
                clear hinu hus hhd h2
                go_wp2_with (first
                  | (go_at_call 31; refine (HH.out _ (Below.refl _ _)).mono ?_; rintro e w3 ⟨rfl, hB⟩; obtain ⟨v0, v1, v2, v3⟩ := HZU.out _ hB; have HB2 := Lib.hid hB; clear hB))
                go_ret
                exact AnsR.ofNo (by decide) HNN.out (up HB.out HB2.out)
              · have g2 : decide ((u.ks.length : Int) < 2) = false := by simp; omega
                obtain ⟨y, r, hyr⟩ : ∃ y r, u.ks = y :: r := by
                  match hh : u.ks with
                  | [] => rw [hh] at h2; simp at h2
                  | y :: r => exact ⟨y, r, rfl⟩
                have hul2 : u.ks.length = r.length + 1 := by rw [hyr]; rfl
                have h3 : u.form.kd = 3 := head_list (by rw [ht]; simp)
                obtain ⟨⟨b4, o4, had, -⟩, -⟩ := hinu.inL.at 0 (by omega)
                have hinl := hinu.inL
                rw [had, hyr] at hinl
                have hucp := hinu.ok.le
                rw [hul2] at hucp
                have hrl := hus.len h3
                have HT := Lib.hid fun (W : World) (a' : Option Addr) (c' : Nat) (hi : InL W a' 0 r) => rexprs_any n E HE.out a' c' r W hi (by omega) (fun z hz => hus.kid h3 (by rw [hyr]; exact List.mem_cons_of_mem _ hz))
                have HI := Lib.hid fun (W : World) (h : Below wr.heap.size wr W) => InL_tail (hinl.below h)
                rw [had, hul2] at HZU
                rw [hul2] at g2 hul
                obtain ⟨m, hm⟩ : ∃ m, r.length = m := ⟨_, rfl⟩
                have HM := Lib.hid hm
                rw [hm] at HT HZU g2 hul hucp
                have hm1 : 1 ≤ m := by rw [← hm]; omega
                have HM1 := Lib.hid hm1
                have g2' : decide ((m : Int) + 1 < 2) = false := by simp; omega
                have HTR : Hid (Trig E u.form ↔ AllE E (r.map T.form)) := Lib.hid (by
                  have e := T.form_tail hyr
                  unfold Trig
                  rw [e, List.drop_one, List.tail_cons]
                  constructor
                  · intro h; exact h.2.2
                  · intro h; exact ⟨ht, by simp; omega, h⟩)
                obtain ⟨hd, hhd⟩ : ∃ hd, headF u.form = hd := ⟨_, rfl⟩
                rw [hhd] at ht HH
                clear hinu hus hhd h2 hul2 hinl had hyr hm h3 hrl hm1 g2
                by_cases hA : AllE E (r.map T.form)
                · have HTT := Lib.hid (HTY.out (HTR.out.2 hA))
                  have HAA := Lib.hid hA
                  clear hA
                  go_wp2_with (first
                    | (go_at_call 31; refine (HH.out _ (Below.refl _ _)).mono ?_; rintro e w3 ⟨rfl, hB⟩; obtain ⟨v0, v1, v2, v3⟩ := HZU.out _ hB; have HB2 := Lib.hid hB; clear hB)
                    | (go_at_call 104; refine (HT.out _ _ _ (by first | exact HI.out _ HB2.out | exact InL_nil (by have := HM.out; omega))).mono ?_; intro e w4 hA; obtain ⟨rfl, hB⟩ := hA.yes HAA.out; have HB3 := Lib.hid (up HB2.out hB); clear hB hA))
                  all_goals
                    go_roundg (p + 1 - (k + 1))
                    case measure => have := HKP.out; omega
                    case rel => exact ⟨k + 1, by omega, by have := HKP.out; omega, rfl, by go_num, HTT.out, up HB.out HB3.out⟩
                · have HNN := Lib.hid (HTN.out fun h => hA (HTR.out.1 h))
                  have HAA := Lib.hid hA
                  clear hA
                  go_wp2_with (first
                    | (go_at_call 31; refine (HH.out _ (Below.refl _ _)).mono ?_; rintro e w3 ⟨rfl, hB⟩; obtain ⟨v0, v1, v2, v3⟩ := HZU.out _ hB; have HB2 := Lib.hid hB; clear hB)
                    | (go_at_call 104; refine (HT.out _ _ _ (by first | exact HI.out _ HB2.out | exact InL_nil (by have := HM.out; omega))).mono ?_; intro e w4 hA; obtain ⟨q, hq0, hq1, hq2, rfl, hB⟩ := hA.no HAA.out; have HQ0 := Lib.hid hq0; have HB3 := Lib.hid (up HB2.out hB); clear hB hA hq0))
                  all_goals
                    go_ret
                    exact AnsR.ofNo HQ0.out HNN.out (up HB.out HB3.out)
            · have HNN : Hid (¬ QuantL E (l.map T.form)) := Lib.hid (HTN.out fun h => ht h.1)
              have g2 : ((headF u.form).toList == [116, 114, 105, 103, 103, 101, 114]) = false := by simpa using ht
              have g2' : ((headF u.form).toList != [116, 114, 105, 103, 103, 101, 114]) = true := by simpa using ht
              obtain ⟨hd, hhd⟩ : ∃ hd, headF u.form = hd := ⟨_, rfl⟩
              rw [hhd] at g2 g2' HH
              clear hinu hus hhd ht
              go_wp2_with (first
                | (go_at_call 31; refine (HH.out _ (Below.refl _ _)).mono ?_; rintro e w3 ⟨rfl, hB⟩; obtain ⟨v0, v1, v2, v3⟩ := HZU.out _ hB; have HB2 := Lib.hid hB; clear hB))
              go_ret
              exact AnsR.ofNo (by decide) HNN.out (up HB.out HB2.out)
          · obtain rfl : k = p := by omega
            have hkl : k < l.length := by have := HLP.out; omega
            have gk : decide ((k : Int) + 1 < (k : Int) + 1) = false := by simp
            obtain ⟨⟨b', o', hbo, hy0, hy1, hy2, hy3⟩, hinu⟩ := (HK.out _ HB.out).at k hkl
            injection hbo with hbo
            injection hbo with e1 e2 e3
            subst e1 e2
            have lb3 : b < wr.heap.size := World.block_lt_of_cell? _ _ hy0
            have HEX := Lib.hid (HE.out l[k] wr hinu (HS.out k hkl))
            have HEN : Hid (¬ E l[k].form = true → ¬ QuantL E (l.map T.form)) := Lib.hid fun h hq => h (HOF.out hq).2.2.2.2
            have HEY : Hid (E l[k].form = true → ((texts (firsts (x.ks.map T.form))).Nodup ↔ QuantL E (l.map T.form))) := Lib.hid fun h => ⟨fun h3 => HTO.out HPR.out H0.out h3 HQ.out h, fun hq => (HOF.out hq).2.2.1⟩
            clear hinu
            by_cases hA : E l[k].form = true
            · have HAA := Lib.hid hA
              have HPP := Lib.hid (HEY.out hA)
              clear hA
              go_wp2_with (first
                | (go_at_call 61; refine HEX.out.mono ?_; intro e w3 hA; obtain ⟨rfl, hB⟩ := hA.yes HAA.out; have HB2 := Lib.hid (up HB.out hB); obtain ⟨v0, v1, v2, v3⟩ := HZ.out _ HB2.out; clear hB hA)
                | (go_at_call 131; refine (HFF.out _ HB2.out).mono ?_; rintro e w5 ⟨va, vc, us, rfl, hul, hui, huf, hB⟩; have HW := Lib.hid (rtwice_any va vc us w5 hui (by have := HLL.out; omega) (decide (texts (us.map T.form)).Nodup) (by simp)); have HUF := Lib.hid huf; have HB3 := Lib.hid (up HB2.out hB); obtain ⟨ul, hul2⟩ : ∃ ul, us.length = ul := ⟨_, rfl⟩; rw [hul2] at HW; rw [hul2]; clear hB hui huf hul hul2)
                | (go_at_call 130; refine HW.out.mono ?_; rintro e w6 ⟨rfl, hB⟩; have HB4 := Lib.hid (up HB3.out hB); clear hB)
                | (go_at_call 129; refine (dup_q _ _).mono ?_; rintro e w7 ⟨⟨q4, rfl, hq4⟩, rfl⟩; have HQ4 := Lib.hid hq4; clear hq4))
              go_ret
              refine ⟨_, rfl, HQ4.out.trans (Iff.trans ?_ HPP.out), HB4.out⟩
              rw [HUF.out]; simp
            · have HAA := Lib.hid hA
              have HNN := Lib.hid (HEN.out hA)
              clear hA
              go_wp2_with (first
                | (go_at_call 61; refine HEX.out.mono ?_; intro e w3 hA; obtain ⟨q, hq0, hq1, hq2, rfl, hB⟩ := hA.no HAA.out; have HQ0 := Lib.hid hq0; have HB2 := Lib.hid (up HB.out hB); clear hB hA hq0))
              go_ret
              exact AnsR.ofNo HQ0.out HNN.out HB2.out
    · have HNN : Hid (¬ QuantL E (l.map T.form)) := Lib.hid fun h => hP (HOF.out h).1
      have HPN := Lib.hid hP
      clear hP HF HL
      go_enter Tryz.func165, Tryz.ntmps165
      go_wp2_with (first
        | (go_at_call 127; refine (HX.out _ (Below.refl _ _)).mono ?_; intro e w2 hA; obtain ⟨q, hq0, hq1, hq2, rfl, hB⟩ := hA.no HPN.out; have HQ0 := Lib.hid hq0; have HB1 := Lib.hid hB; clear hB hA hq0))
      go_ret
      exact AnsR.ofNo HQ0.out HNN.out HB1.out
  · have g : (l.length : Int) < 2 := by omega
    have HN : Hid (¬ QuantL E (l.map T.form)) := Lib.hid fun h => hl (by have := quant_len h; rwa [List.length_map] at this)
    clear hl hk hs hE
    go_enter Tryz.func165, Tryz.ntmps165
    go_wp2_with fail
    go_ret
    exact AnsR.ofNo (by decide) HN.out (Below.refl _ _)
end Go.Proofs.YtmlfiopbdlaaaaaGreat
