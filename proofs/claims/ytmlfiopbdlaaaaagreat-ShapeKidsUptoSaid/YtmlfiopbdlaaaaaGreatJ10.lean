/- Several texts, one behind the other. -/
import Derived.Test.YtmlfiopbdlaaaaaGreatJ9
import Derived.Deep.RegionHeld3
namespace Go.Proofs.YtmlfiopbdlaaaaaGreat
open Go.RowKit Go.Deep
theorem two_of {α : Type} {l : List α} (h : l.length = 2) : ∃ x y, l = [x, y] := by
  match l, h with
  | [x, y], _ => exact ⟨x, y, rfl⟩
theorem pairF_no3 {f : Fm} (h : f.kd ≠ 3) : pairF f = false := by
  cases hp : pairF f with
  | false => rfl
  | true => exact absurd ((pairF_iff f).1 hp).1 h
theorem pairF_no2 {f : Fm} (h : f.ks.length ≠ 2) : pairF f = false := by
  cases hp : pairF f with
  | false => rfl
  | true => obtain ⟨_, x, y, e, _⟩ := (pairF_iff f).1 hp; exact absurd (by rw [e]; rfl) h
theorem pairF_two {f x y : Fm} (h3 : f.kd = 3) (h : f.ks = [x, y]) : pairF f = (nameF x && typeF y) := by
  rw [Bool.eq_iff_iff, pairF_iff, Bool.and_eq_true]
  constructor
  · rintro ⟨_, x', y', e, h1, h2⟩
    rw [h] at e; injection e with e1 e; injection e with e2
    subst e1 e2; exact ⟨h1, h2⟩
  · rintro ⟨h1, h2⟩; exact ⟨h3, x, y, h, h1, h2⟩
set_option maxHeartbeats 4000000 in
theorem rpairs_any (t : T) (w : World) (hin : In w t) : Calls Tryz.prog 127 #[t.val] w fun e w' => AnsR (Pairs t.form) w e w' := by
  by_cases k3 : t.kd = 3
  · have b3 : (t.kd != 3) = false := by simpa using k3
    have n1 := Nat.le_trans hin.ok.le hin.ok.cp
    unfold maxLen at n1
    obtain ⟨a, ha⟩ : ∃ a, t.ad = a := ⟨_, rfl⟩
    have HK : Hid (∀ W, Below w.heap.size w W → InL W a 0 t.ks) := Lib.hid fun W h => by rw [← ha]; exact (hin.below h).inL
    have HAD := Lib.hid ha
    have K0 := Lib.hid (Boxed.start w t)
    have HP : Hid (Pairs t.form ↔ ∀ u ∈ t.ks, pairF u.form = true) := Lib.hid (by
      unfold Pairs; rw [T.form_kd, T.form_ks]; simp [k3])
    clear ha k3 hin
    go_enter Tryz.func127, Tryz.ntmps127
    go_wp2_with fail
    go_loopg [3] (t.ks.length) (fun m i wr => ∃ k : Nat, k ≤ t.ks.length ∧ m = t.ks.length - k ∧ i = .int .i64 k ∧ UpTo (fun u => pairF u.form = true) t.ks k ∧ Boxed w wr t)
    case atStart => exact ⟨0, by omega, by omega, rfl, UpTo.start _ _, K0.out⟩
    case round =>
      obtain ⟨k, hk, rfl, rfl, hU, hbx⟩ := hrel
      obtain ⟨c0, c1, c2, c3⟩ := box_cells hbx.1 HAD.out
      have lbw := lt_of_block hbx.1
      have HBX := Lib.hid hbx
      have HU := Lib.hid hU
      clear hbx hU
      by_cases hlt : k < t.ks.length
      · obtain ⟨⟨b, o, rfl, hx0, hx1, hx2, hx3⟩, hink⟩ := (HK.out _ HBX.out.2).at k hlt
        have lb : b < wr.heap.size := World.block_lt_of_cell? _ _ hx0
        have HN : Hid (pairF t.ks[k].form = false → ¬ Pairs t.form) := Lib.hid fun hp h => by
          have := HP.out.1 h _ (List.getElem_mem hlt)
          rw [hp] at this; cases this
        have HS : Hid (pairF t.ks[k].form = true → UpTo (fun u => pairF u.form = true) t.ks (k + 1)) := Lib.hid fun hp => HU.out.step hlt hp
        obtain ⟨u, hu⟩ : ∃ u, t.ks[k] = u := ⟨_, rfl⟩
        rw [hu] at hx0 hx1 hx2 hx3 hink HN HS
        have nu := Nat.le_trans hink.ok.le hink.ok.cp
        unfold maxLen at nu
        clear hu
        by_cases u3 : u.kd = 3
        · have g3 : (u.kd != 3) = false := by simpa using u3
          by_cases u2 : u.ks.length = 2
          · obtain ⟨x, y, hxy⟩ := two_of u2
            have hpf : pairF u.form = (nameF x.form && typeF y.form) := pairF_two (by rw [T.form_kd]; exact u3) (by rw [T.form_ks, hxy]; rfl)
            obtain ⟨⟨b2, o2, had2, z0, z1, z2, z3⟩, hinx⟩ := hink.inL.at 0 (by omega)
            obtain ⟨⟨b3', o3, had3, v0, v1, v2, v3⟩, hiny⟩ := hink.inL.at 1 (by omega)
            rw [had2] at had3
            injection had3 with had3
            injection had3 with e1 e2 e3
            subst e1 e2
            have ex : u.ks[0]'(by omega) = x := by simp [hxy]
            have ey : u.ks[1]'(by omega) = y := by simp [hxy]
            rw [ex] at z0 z1 z2 z3 hinx
            rw [ey] at v0 v1 v2 v3 hiny
            simp only [Nat.zero_mul, Nat.add_zero] at z0 z1 z2 z3
            have lb2 : b2 < wr.heap.size := World.block_lt_of_cell? _ _ z0
            rw [had2, u2] at hx3
            have HX := Lib.hid fun (W : World) (h : Below wr.heap.size wr W) => rnamed_any x W (hinx.below h)
            have HY := Lib.hid fun (W : World) (h : Below wr.heap.size wr W) => rtyped_any y W
            have HC := Lib.hid fun (W : World) (h : Below wr.heap.size wr W) => (⟨(h.cell (p := ⟨b2, o2 + 1 * 4, none⟩) lb2).trans v0, (h.cell (p := ⟨b2, o2 + 1 * 4 + 1, none⟩) lb2).trans v1, (h.cell (p := ⟨b2, o2 + 1 * 4 + 2, none⟩) lb2).trans v2, (h.cell (p := ⟨b2, o2 + 1 * 4 + 3, none⟩) lb2).trans v3⟩ : W.cell? ⟨b2, o2 + 1 * 4, none⟩ = _ ∧ W.cell? ⟨b2, o2 + 1 * 4 + 1, none⟩ = _ ∧ W.cell? ⟨b2, o2 + 1 * 4 + 2, none⟩ = _ ∧ W.cell? ⟨b2, o2 + 1 * 4 + 3, none⟩ = _)
            have HBU := Lib.hid fun (W : World) (h : Below (wr.heap.size + 1) (wr.alloc (.cells #[.int .i64 u.kd, .int .i64 u.nn, .string u.tx, .slice (some ⟨b2, o2, none⟩) 2 u.cp] 24)) W) => (cell_block (j := 3) ((h.block wr.heap.size (by omega)).trans (heap_alloc_new _ _)) rfl : W.cell? ⟨wr.heap.size, 3, none⟩ = some (.slice (some ⟨b2, o2, none⟩) 2 u.cp))
            clear hink ex ey had2 u2 hinx hiny hxy u3
            cases hn : nameF x.form with
            | false =>
              have HNN := Lib.hid (HN.out (by rw [hpf, hn]; rfl))
              rw [hn] at HX
              clear hpf hn
              go_wp2_with (first
                | (go_at_call 67; refine (HX.out _ (bel1 _ _)).mono ?_; rintro e w2 ⟨rfl, hB⟩; have HB := Lib.hid (up (bel1 _ _) hB); clear hB))
              go_ret
              exact AnsR.ofNo (by decide) HNN.out (up HBX.out.2 HB.out)
            | true =>
              rw [hn] at HX
              cases ht : typeF y.form with
              | false =>
                have HNN := Lib.hid (HN.out (by rw [hpf, ht]; simp))
                rw [ht] at HY
                clear hpf hn ht
                go_wp2_with (first
                  | (go_at_call 67; refine (HX.out _ (bel1 _ _)).mono ?_; rintro e w2 ⟨rfl, hB⟩; obtain ⟨y0, y1, y2, y3⟩ := HC.out _ (up (bel1 _ _) hB); have q3 := HBU.out _ (by simpa using hB); have HB := Lib.hid (up (bel1 _ _) hB); clear hB)
                  | (go_at_call 124; refine (HY.out _ HB.out).mono ?_; rintro e w3 ⟨rfl, hB⟩; have HB2 := Lib.hid (up HB.out hB); clear hB))
                go_ret
                exact AnsR.ofNo (by decide) HNN.out (up HBX.out.2 HB2.out)
              | true =>
                have HSS := Lib.hid (HS.out (by rw [hpf, hn, ht]; rfl))
                rw [ht] at HY
                clear hpf hn ht
                go_wp2_with (first
                  | (go_at_call 67; refine (HX.out _ (bel1 _ _)).mono ?_; rintro e w2 ⟨rfl, hB⟩; obtain ⟨y0, y1, y2, y3⟩ := HC.out _ (up (bel1 _ _) hB); have q3 := HBU.out _ (by simpa using hB); have HB := Lib.hid (up (bel1 _ _) hB); clear hB)
                  | (go_at_call 124; refine (HY.out _ HB.out).mono ?_; rintro e w3 ⟨rfl, hB⟩; have HB2 := Lib.hid (up HB.out hB); clear hB))
                go_roundg (t.ks.length - (k + 1))
                case measure => omega
                case rel => exact ⟨k + 1, by omega, rfl, by go_num, HSS.out, HBX.out.next HB2.out⟩
          · have g2 : ((u.ks.length : Int) != 2) = true := by simp; omega
            have HNN := Lib.hid (HN.out (pairF_no2 (by rw [T.form_ks, List.length_map]; exact u2)))
            clear hink u2
            go_wp2_with fail
            go_ret
            exact AnsR.ofNo (by decide) HNN.out (up HBX.out.2 (bel1 _ _))
        · have g3 : (u.kd != 3) = true := by simpa using u3
          have HNN := Lib.hid (HN.out (pairF_no3 (by rw [T.form_kd]; exact u3)))
          clear hink u3
          go_wp2_with fail
          go_ret
          exact AnsR.ofNo (by decide) HNN.out (up HBX.out.2 (bel1 _ _))
      · have HS := Lib.hid (HP.out.2 (HU.out.ends (by omega)))
        go_wp2_with fail
        go_ret
        exact AnsR.of0 HS.out HBX.out.2
  · have b3 : (t.kd != 3) = true := by simpa using k3
    have HN : Hid (¬ Pairs t.form) := Lib.hid fun h => k3 (by rw [← T.form_kd]; exact h.1)
    clear k3 hin
    go_enter Tryz.func127, Tryz.ntmps127
    go_wp2_with fail
    go_ret
    exact AnsR.ofNo (by decide) HN.out (bel1 _ _)
def Fst1 (p : T) : Prop := p.ks ≠ []
theorem own4_row {B : Nat} {w0 w : World} {v : Value} {us : List T} (h : Own4 B w0 w v us) (hin : ∀ t ∈ us, In w t) : ∃ va vc, v = .slice va us.length vc ∧ InL w va 0 us := by
  have ho := h.own
  rcases h.own.2 with ⟨rfl, e⟩ | ⟨g, cap, cur, rfl, _⟩
  · have hus : us = [] := List.length_eq_zero_iff.1 e
    subst hus
    exact ⟨none, 0, rfl, by simp [InL]⟩
  · refine ⟨_, _, rfl, InL_mk fun j hj => ⟨⟨g, 0, rfl, ?_⟩, hin _ (List.getElem_mem hj)⟩⟩
    obtain ⟨g0, g1, g2, g3⟩ := cellsT_get us j hj
    simp only [Nat.zero_add]
    refine ⟨?_, ?_, ?_, ?_⟩
    · rw [ho.cellAt (j * 4) (by omega)]; exact g0
    · rw [ho.cellAt (j * 4 + 1) (by omega)]; exact g1
    · rw [ho.cellAt (j * 4 + 2) (by omega)]; exact g2
    · rw [ho.cellAt (j * 4 + 3) (by omega)]; exact g3
set_option maxHeartbeats 4000000 in
theorem rfirsts_any (a : Option Addr) (c : Nat) (l : List T) (w : World) (hk : InL w a 0 l) (hlen : l.length ≤ 1000000) (hl1 : ∀ p ∈ l, Fst1 p) :
    Calls Tryz.prog 131 #[.slice a l.length c] w fun e w' => ∃ va vc us, e = .returned (.slice va us.length vc) ∧ us.length = l.length ∧ InL w' va 0 us ∧ us.map T.form = firsts (l.map T.form) ∧ Below w.heap.size w w' := by
  have HK : Hid (∀ W, Below w.heap.size w W → InL W a 0 l) := Lib.hid fun W h => hk.below h
  have HF := Lib.hid hl1
  clear hk hl1
  go_enter Tryz.func131, Tryz.ntmps131
  go_wp2_with fail
  go_loopg [3, 4] (l.length) (fun m v i wr => ∃ (k : Nat) (us : List T), k ≤ l.length ∧ m = l.length - k ∧ i = .int .i64 k ∧ us.length = k ∧ us.map T.form = (firsts (l.map T.form)).take k ∧ Own4 w.heap.size w wr v us ∧ ∀ u ∈ us, In w u)
  case atStart => exact ⟨0, [], by omega, by omega, rfl, rfl, by simp, Own4.start (Nat.le_refl _), by simp⟩
  case round =>
    obtain ⟨k, us, hk, rfl, rfl, hul, huf, ho, hiu⟩ := hrel
    have HO := Lib.hid ho
    have HUF := Lib.hid huf
    have HIU := Lib.hid hiu
    have HUL := Lib.hid hul
    clear ho huf hiu hul
    by_cases hlt : k < l.length
    · obtain ⟨⟨b, o, rfl, hx0, hx1, hx2, hx3⟩, hink⟩ := (HK.out _ HO.out.below).at k hlt
      have hinw := ((HK.out _ (Below.refl _ _)).at k hlt).2
      have lb : b < wr.heap.size := World.block_lt_of_cell? _ _ hx0
      have hne := HF.out _ (List.getElem_mem hlt)
      have HFS : Hid ((firsts (l.map T.form)).take (k + 1) = (firsts (l.map T.form)).take k ++ [(l[k].ks.headD l[k]).form]) := Lib.hid (by
        have hl2 : k < (firsts (l.map T.form)).length := by simpa [firsts] using hlt
        rw [List.take_succ_eq_append_getElem hl2]
        congr 2
        simp only [firsts, List.getElem_map, T.form_ks]
        unfold Fst1 at hne
        rcases hks : l[k].ks with _ | ⟨x, r⟩
        · exact absurd hks hne
        · rfl)
      obtain ⟨u, hu⟩ : ∃ u, l[k] = u := ⟨_, rfl⟩
      rw [hu] at hx0 hx1 hx2 hx3 hink hne HFS hinw
      have nu := Nat.le_trans hink.ok.le hink.ok.cp
      unfold maxLen at nu
      unfold Fst1 at hne
      obtain ⟨x, r, hxr⟩ := List.exists_cons_of_ne_nil hne
      have hlu : 0 < u.ks.length := by rw [hxr]; simp
      obtain ⟨⟨b2, o2, had2, z0, z1, z2, z3⟩, hinx⟩ := hink.inL.at 0 hlu
      have hinx0 := (hinw.inL.at 0 hlu).2
      have ex : u.ks[0]'hlu = x := by simp [hxr]
      rw [ex] at z0 z1 z2 z3 hinx hinx0
      simp only [Nat.zero_mul, Nat.add_zero] at z0 z1 z2 z3
      have lb2 : b2 < wr.heap.size := World.block_lt_of_cell? _ _ z0
      rw [had2] at hx3
      have ehd : u.ks.headD u = x := by rw [hxr]; rfl
      rw [ehd] at HFS
      obtain ⟨n, hn⟩ : ∃ n, u.ks.length = n := ⟨_, rfl⟩
      rw [hn] at hx3 hlu nu
      have hlu' : (0 : Int) < (n : Int) := by omega
      have HIX := Lib.hid hinx0
      clear hink hinx hinx0 hinw hne hxr ex had2 ehd hn hu
      go_wp2_with (at_builtin; refine own4_push rfl _ _ 22 rfl Tryz.underlying22 rfl HO.out x 1 _ rfl rfl (by have := HUL.out; omega) ?_; intro v4 w4 ho4 hg4 hv4; have HO4 := Lib.hid ho4; clear ho4 hg4 hv4)
      go_roundg (l.length - (k + 1))
      case measure => omega
      case rel => exact ⟨k + 1, us ++ [x], by omega, rfl, by go_num, by simp [HUL.out], by rw [HFS.out, List.map_append, HUF.out]; rfl, HO4.out, fun y hy => by
          rcases List.mem_append.1 hy with hy | hy
          · exact HIU.out y hy
          · rw [List.mem_singleton] at hy; rw [hy]; exact HIX.out⟩
    · have HE : Hid (us.map T.form = firsts (l.map T.form)) := Lib.hid (by
        rw [HUF.out, List.take_of_length_le]; simp [firsts]; omega)
      obtain ⟨va, vc, hv, hi⟩ := own4_row HO.out (fun t ht => (HIU.out t ht).below HO.out.below)
      have HI := Lib.hid hi
      subst hv
      clear hi
      go_wp2_with fail
      go_ret
      exact ⟨va, vc, us, rfl, by have := HUL.out; omega, HI.out, HE.out, HO.out.below⟩
end Go.Proofs.YtmlfiopbdlaaaaaGreat

namespace Go.Proofs.YtmlfiopbdlaaaaaGreat
open Go.RowKit Go.Deep
theorem first_q (a b : Int) (w : World) : Calls Tryz.prog 126 #[.int .i64 a, .int .i64 b] w fun e w' => (∃ q : Int, e = .returned (.int .i64 q) ∧ (q = 0 ↔ a = 0 ∧ b = 0)) ∧ w = w' := (first_any a b w).mono fun _ _ ⟨h1, h2⟩ => ⟨⟨_, h1, by by_cases h : a = 0 <;> simp [h]⟩, h2⟩
theorem cons_len {α : Type} {l : List α} {m : Nat} (h : l.length = m + 1) : ∃ x r, l = x :: r ∧ r.length = m := by
  match l, h with
  | x :: r, h => exact ⟨x, r, rfl, by simpa using h⟩
theorem T.form_tail {t x : T} {r : List T} (h : t.ks = x :: r) : t.form.ks = x.form :: r.map T.form := by rw [T.form_ks, h]; rfl
set_option maxHeartbeats 2000000 in
theorem rranged_any (n : Nat) (E : Fm → Bool) (hE : HExp n E) (t : T) (m : Nat) (hm : m ≤ 10) (w : World) (hin : In w t) (hq : Asked n t) :
    Calls Tryz.prog 163 #[t.val, .int .i64 m] w fun e w' => AnsR (Ranged E m t.form) w e w' := by
  by_cases k3 : t.kd = 3
  · have b3 : (t.kd != 3) = false := by simpa using k3
    have n1 := Nat.le_trans hin.ok.le hin.ok.cp
    unfold maxLen at n1
    by_cases hl : t.ks.length = m + 1
    · obtain ⟨x, r, hxr, hr⟩ := cons_len hl
      have hks := T.form_tail hxr
      have h3 : t.form.kd = 3 := by rw [T.form_kd]; exact k3
      obtain ⟨⟨b, o, had, z0, z1, z2, z3⟩, hinx⟩ := hin.inL.at 0 (by omega)
      have ex : t.ks[0]'(by omega) = x := by simp [hxr]
      rw [ex] at z0 z1 z2 z3 hinx
      simp only [Nat.zero_mul, Nat.add_zero] at z0 z1 z2 z3
      have lb : b < w.heap.size := World.block_lt_of_cell? _ _ z0
      have hcp := hin.ok.le
      rw [hl] at hcp n1
      have hv : t.val = .agg #[.int .i64 t.kd, .int .i64 t.nn, .string t.tx, .slice (some ⟨b, o, none⟩) (m + 1) t.cp] := by rw [T.val, had, hl]
      have HX := Lib.hid fun (W : World) (h : Below w.heap.size w W) => rnamed_any x W (hinx.below h)
      have HT := Lib.hid fun (W : World) (a' : Option Addr) (c' : Nat) (hi : InL W a' 0 r) => rexprs_any n E hE a' c' r W hi (by omega) (fun u hu => hq.kid h3 (by rw [hxr]; exact List.mem_cons_of_mem _ hu))
      rw [hr] at HT
      have hinl := hin.inL
      rw [had, hxr] at hinl
      have HI := Lib.hid fun (W : World) (h : Below w.heap.size w W) => InL_tail (hinl.below h)
      have HR := Lib.hid hr
      have HBX := Lib.hid fun (W : World) (h : Below (w.alloc (.cells #[.int .i64 t.kd, .int .i64 t.nn, .string t.tx, .slice (some ⟨b, o, none⟩) (m + 1) t.cp] 24)).heap.size (w.alloc (.cells #[.int .i64 t.kd, .int .i64 t.nn, .string t.tx, .slice (some ⟨b, o, none⟩) (m + 1) t.cp] 24)) W) => (cell_block (j := 3) ((h.block w.heap.size (by simp)).trans (heap_alloc_new _ _)) rfl : W.cell? ⟨w.heap.size, 3, none⟩ = some (.slice (some ⟨b, o, none⟩) (m + 1) t.cp))
      have HP : Hid (nameF x.form = true → (AllE E (r.map T.form) ↔ Ranged E m t.form)) := Lib.hid fun hn => by
        unfold Ranged; rw [hks]
        constructor
        · intro h; exact ⟨h3, _, _, rfl, by rw [List.length_map]; exact hr, hn, h⟩
        · rintro ⟨_, y, s, e, _, _, h⟩; injection e with e1 e2; rw [e2]; exact h
      have HN : Hid (nameF x.form = false → ¬ Ranged E m t.form) := Lib.hid fun hn => by
        unfold Ranged; rw [hks]
        rintro ⟨_, y, s, e, _, h, _⟩; injection e with e1 e2; rw [← e1, hn] at h; cases h
      rw [hv]
      clear hv hinl hinx ex had hks hxr hr hl hin hq k3 h3 hE
      cases hn : nameF x.form with
      | false =>
        have HNN := Lib.hid (HN.out hn)
        rw [hn] at HX
        clear hn
        go_enter Tryz.func163, Tryz.ntmps163
        go_wp2_with (go_at_call 67; refine (HX.out _ (bel1 _ _)).mono ?_; rintro e w2 ⟨rfl, hB⟩; have HB := Lib.hid (up (bel1 _ _) hB); clear hB)
        go_ret
        exact AnsR.ofNo (by decide) HNN.out HB.out
      | true =>
        have HPP := Lib.hid (HP.out hn)
        rw [hn] at HX
        clear hn
        go_enter Tryz.func163, Tryz.ntmps163
        go_wp2_with (first
          | (go_at_call 67; refine (HX.out _ (bel1 _ _)).mono ?_; rintro e w2 ⟨rfl, hB⟩; have q3 := HBX.out _ hB; have HB := Lib.hid (up (bel1 _ _) hB); clear hB)
          | (go_at_call 104; refine (HT.out _ _ _ (by first | exact HI.out _ HB.out | exact InL_nil (by have := HR.out; omega))).mono ?_; intro e w3 hA; have HA := Lib.hid hA; obtain ⟨q, rfl, hq, hB⟩ := hA; clear hB hq))
        all_goals
          go_ret
          exact (HA.out.iff HPP.out).up HB.out
    · have g2 : ((t.ks.length : Int) != (m : Int) + 1) = true := by simp; omega
      have HN : Hid (¬ Ranged E m t.form) := Lib.hid (by
        rintro ⟨_, y, s, e, h, _⟩
        have : t.form.ks.length = m + 1 := by rw [e]; simp [h]
        rw [T.form_ks, List.length_map] at this
        exact hl this)
      clear hl k3 hin hq hE
      go_enter Tryz.func163, Tryz.ntmps163
      go_wp2_with fail
      go_ret
      exact AnsR.ofNo (by decide) HN.out (bel1 _ _)
  · have b3 : (t.kd != 3) = true := by simpa using k3
    have HN : Hid (¬ Ranged E m t.form) := Lib.hid fun h => k3 (by rw [← T.form_kd]; exact h.1)
    clear k3 hin hq hE
    go_enter Tryz.func163, Tryz.ntmps163
    go_wp2_with fail
    go_ret
    exact AnsR.ofNo (by decide) HN.out (bel1 _ _)
end Go.Proofs.YtmlfiopbdlaaaaaGreat

namespace Go.Proofs.YtmlfiopbdlaaaaaGreat
open Go.RowKit Go.Deep
def BindL (E : Fm → Bool) (m c : Nat) (l : List Fm) : Prop := ∃ x r, l = x :: r ∧ r.length = c ∧ Ranged E m x ∧ AllE E r
set_option maxHeartbeats 4000000 in
set_option maxRecDepth 100000 in
theorem rbind_let (n : Nat) (E : Fm → Bool) (hE : HExp n E) (hd : ByteArray) (hq : hd.toList = [108, 101, 116]) (a : Option Addr) (c : Nat) (l : List T) (w : World) (hk : InL w a 0 l) (hlen : l.length ≤ 1000000) (hc : l.length ≤ c) (hs : ∀ u ∈ l, Asked n u) :
    Calls Tryz.prog 105 #[.string hd, .slice a l.length c] w fun e w' => AnsR (BindL E 1 1 (l.map T.form)) w e w' := by
  by_cases hl : l.length = 2
  · obtain ⟨x, r, hxr, hr⟩ := cons_len hl
    subst hxr
    obtain ⟨⟨b, o, rfl, z0, z1, z2, z3⟩, hinx⟩ := hk.at 0 (by simp)
    simp only [List.getElem_cons_zero, Nat.zero_mul, Nat.add_zero] at z0 z1 z2 z3 hinx
    have lb : b < w.heap.size := World.block_lt_of_cell? _ _ z0
    have HX := Lib.hid fun (W : World) (h : Below w.heap.size w W) => rranged_any n E hE x 1 (by omega) W (hinx.below h) (hs x (by simp))
    have HT := Lib.hid fun (W : World) (h : Below w.heap.size w W) => rbehind_any n E hE (some ⟨b, o, none⟩) c x r W (hk.below h) (by omega) (by simpa using hc) (fun u hu => hs u (List.mem_cons_of_mem _ hu))
    have HZ := Lib.hid fun (W : World) (h : Below w.heap.size w W) => (⟨(h.cell (p := ⟨b, o, none⟩) lb).trans z0, (h.cell (p := ⟨b, o + 1, none⟩) lb).trans z1, (h.cell (p := ⟨b, o + 2, none⟩) lb).trans z2, (h.cell (p := ⟨b, o + 3, none⟩) lb).trans z3⟩ : W.cell? ⟨b, o, none⟩ = some (.int .i64 x.kd) ∧ W.cell? ⟨b, o + 1, none⟩ = some (.int .i64 x.nn) ∧ W.cell? ⟨b, o + 2, none⟩ = some (.string x.tx) ∧ W.cell? ⟨b, o + 3, none⟩ = some (.slice x.ad x.ks.length x.cp))
    have HP : Hid (Ranged E 1 x.form ∧ AllE E (r.map T.form) ↔ BindL E 1 1 ((x :: r).map T.form)) := Lib.hid (by
      unfold BindL
      constructor
      · rintro ⟨h1, h2⟩; exact ⟨_, _, rfl, by rw [List.length_map]; exact hr, h1, h2⟩
      · rintro ⟨y, s, e, _, h1, h2⟩; injection e with e1 e2; subst e1 e2; exact ⟨h1, h2⟩)
    rw [hr] at HT
    rw [hl]
    clear hk hinx hr hl hs hE
    go_enter Tryz.func105, Tryz.ntmps105
    go_wp2_with (first
      | (go_at_call 163; refine (HX.out _ (Below.refl _ _)).mono ?_; intro e w2 hA; obtain ⟨q1, rfl, hq1, hB⟩ := hA; have HQ1 := Lib.hid hq1; have HB1 := Lib.hid hB; clear hB hq1)
      | (go_at_call 128; refine (HT.out _ HB1.out).mono ?_; intro e w3 hA; obtain ⟨q2, rfl, hq2, hB⟩ := hA; have HQ2 := Lib.hid hq2; have HB2 := Lib.hid (up HB1.out hB); clear hB hq2)
      | (go_at_call 126; refine (first_q _ _ _).mono ?_; rintro e w4 ⟨⟨q3, rfl, hq3⟩, rfl⟩; have HQ3 := Lib.hid hq3; clear hq3))
    go_ret
    exact ⟨_, rfl, HQ3.out.trans ((and_congr HQ1.out HQ2.out).trans HP.out), HB2.out⟩
  · have g : ((l.length : Int) != 2) = true := by simp; omega
    have HN : Hid (¬ BindL E 1 1 (l.map T.form)) := Lib.hid (by
      rintro ⟨x, r, e, h, _⟩
      have : (l.map T.form).length = 2 := by rw [e]; simp [h]
      rw [List.length_map] at this
      exact hl this)
    clear hl hk hs hE
    go_enter Tryz.func105, Tryz.ntmps105
    go_wp2_with fail
    go_ret
    exact AnsR.ofNo (by decide) HN.out (Below.refl _ _)
set_option maxHeartbeats 4000000 in
set_option maxRecDepth 100000 in
theorem rbind_every (n : Nat) (E : Fm → Bool) (hE : HExp n E) (hd : ByteArray) (hq : hd.toList = [101, 118, 101, 114, 121]) (a : Option Addr) (c : Nat) (l : List T) (w : World) (hk : InL w a 0 l) (hlen : l.length ≤ 1000000) (hc : l.length ≤ c) (hs : ∀ u ∈ l, Asked n u) :
    Calls Tryz.prog 105 #[.string hd, .slice a l.length c] w fun e w' => AnsR (BindL E 1 1 (l.map T.form)) w e w' := by
  by_cases hl : l.length = 2
  · obtain ⟨x, r, hxr, hr⟩ := cons_len hl
    subst hxr
    obtain ⟨⟨b, o, rfl, z0, z1, z2, z3⟩, hinx⟩ := hk.at 0 (by simp)
    simp only [List.getElem_cons_zero, Nat.zero_mul, Nat.add_zero] at z0 z1 z2 z3 hinx
    have lb : b < w.heap.size := World.block_lt_of_cell? _ _ z0
    have HX := Lib.hid fun (W : World) (h : Below w.heap.size w W) => rranged_any n E hE x 1 (by omega) W (hinx.below h) (hs x (by simp))
    have HT := Lib.hid fun (W : World) (h : Below w.heap.size w W) => rbehind_any n E hE (some ⟨b, o, none⟩) c x r W (hk.below h) (by omega) (by simpa using hc) (fun u hu => hs u (List.mem_cons_of_mem _ hu))
    have HZ := Lib.hid fun (W : World) (h : Below w.heap.size w W) => (⟨(h.cell (p := ⟨b, o, none⟩) lb).trans z0, (h.cell (p := ⟨b, o + 1, none⟩) lb).trans z1, (h.cell (p := ⟨b, o + 2, none⟩) lb).trans z2, (h.cell (p := ⟨b, o + 3, none⟩) lb).trans z3⟩ : W.cell? ⟨b, o, none⟩ = some (.int .i64 x.kd) ∧ W.cell? ⟨b, o + 1, none⟩ = some (.int .i64 x.nn) ∧ W.cell? ⟨b, o + 2, none⟩ = some (.string x.tx) ∧ W.cell? ⟨b, o + 3, none⟩ = some (.slice x.ad x.ks.length x.cp))
    have HP : Hid (Ranged E 1 x.form ∧ AllE E (r.map T.form) ↔ BindL E 1 1 ((x :: r).map T.form)) := Lib.hid (by
      unfold BindL
      constructor
      · rintro ⟨h1, h2⟩; exact ⟨_, _, rfl, by rw [List.length_map]; exact hr, h1, h2⟩
      · rintro ⟨y, s, e, _, h1, h2⟩; injection e with e1 e2; subst e1 e2; exact ⟨h1, h2⟩)
    rw [hr] at HT
    rw [hl]
    clear hk hinx hr hl hs hE
    go_enter Tryz.func105, Tryz.ntmps105
    go_wp2_with (first
      | (go_at_call 163; refine (HX.out _ (Below.refl _ _)).mono ?_; intro e w2 hA; obtain ⟨q1, rfl, hq1, hB⟩ := hA; have HQ1 := Lib.hid hq1; have HB1 := Lib.hid hB; clear hB hq1)
      | (go_at_call 128; refine (HT.out _ HB1.out).mono ?_; intro e w3 hA; obtain ⟨q2, rfl, hq2, hB⟩ := hA; have HQ2 := Lib.hid hq2; have HB2 := Lib.hid (up HB1.out hB); clear hB hq2)
      | (go_at_call 126; refine (first_q _ _ _).mono ?_; rintro e w4 ⟨⟨q3, rfl, hq3⟩, rfl⟩; have HQ3 := Lib.hid hq3; clear hq3))
    go_ret
    exact ⟨_, rfl, HQ3.out.trans ((and_congr HQ1.out HQ2.out).trans HP.out), HB2.out⟩
  · have g : ((l.length : Int) != 2) = true := by simp; omega
    have HN : Hid (¬ BindL E 1 1 (l.map T.form)) := Lib.hid (by
      rintro ⟨x, r, e, h, _⟩
      have : (l.map T.form).length = 2 := by rw [e]; simp [h]
      rw [List.length_map] at this
      exact hl this)
    clear hl hk hs hE
    go_enter Tryz.func105, Tryz.ntmps105
    go_wp2_with fail
    go_ret
    exact AnsR.ofNo (by decide) HN.out (Below.refl _ _)
set_option maxHeartbeats 4000000 in
set_option maxRecDepth 100000 in
theorem rbind_any (n : Nat) (E : Fm → Bool) (hE : HExp n E) (hd : ByteArray) (hq : hd.toList = [97, 110, 121]) (a : Option Addr) (c : Nat) (l : List T) (w : World) (hk : InL w a 0 l) (hlen : l.length ≤ 1000000) (hc : l.length ≤ c) (hs : ∀ u ∈ l, Asked n u) :
    Calls Tryz.prog 105 #[.string hd, .slice a l.length c] w fun e w' => AnsR (BindL E 1 1 (l.map T.form)) w e w' := by
  by_cases hl : l.length = 2
  · obtain ⟨x, r, hxr, hr⟩ := cons_len hl
    subst hxr
    obtain ⟨⟨b, o, rfl, z0, z1, z2, z3⟩, hinx⟩ := hk.at 0 (by simp)
    simp only [List.getElem_cons_zero, Nat.zero_mul, Nat.add_zero] at z0 z1 z2 z3 hinx
    have lb : b < w.heap.size := World.block_lt_of_cell? _ _ z0
    have HX := Lib.hid fun (W : World) (h : Below w.heap.size w W) => rranged_any n E hE x 1 (by omega) W (hinx.below h) (hs x (by simp))
    have HT := Lib.hid fun (W : World) (h : Below w.heap.size w W) => rbehind_any n E hE (some ⟨b, o, none⟩) c x r W (hk.below h) (by omega) (by simpa using hc) (fun u hu => hs u (List.mem_cons_of_mem _ hu))
    have HZ := Lib.hid fun (W : World) (h : Below w.heap.size w W) => (⟨(h.cell (p := ⟨b, o, none⟩) lb).trans z0, (h.cell (p := ⟨b, o + 1, none⟩) lb).trans z1, (h.cell (p := ⟨b, o + 2, none⟩) lb).trans z2, (h.cell (p := ⟨b, o + 3, none⟩) lb).trans z3⟩ : W.cell? ⟨b, o, none⟩ = some (.int .i64 x.kd) ∧ W.cell? ⟨b, o + 1, none⟩ = some (.int .i64 x.nn) ∧ W.cell? ⟨b, o + 2, none⟩ = some (.string x.tx) ∧ W.cell? ⟨b, o + 3, none⟩ = some (.slice x.ad x.ks.length x.cp))
    have HP : Hid (Ranged E 1 x.form ∧ AllE E (r.map T.form) ↔ BindL E 1 1 ((x :: r).map T.form)) := Lib.hid (by
      unfold BindL
      constructor
      · rintro ⟨h1, h2⟩; exact ⟨_, _, rfl, by rw [List.length_map]; exact hr, h1, h2⟩
      · rintro ⟨y, s, e, _, h1, h2⟩; injection e with e1 e2; subst e1 e2; exact ⟨h1, h2⟩)
    rw [hr] at HT
    rw [hl]
    clear hk hinx hr hl hs hE
    go_enter Tryz.func105, Tryz.ntmps105
    go_wp2_with (first
      | (go_at_call 163; refine (HX.out _ (Below.refl _ _)).mono ?_; intro e w2 hA; obtain ⟨q1, rfl, hq1, hB⟩ := hA; have HQ1 := Lib.hid hq1; have HB1 := Lib.hid hB; clear hB hq1)
      | (go_at_call 128; refine (HT.out _ HB1.out).mono ?_; intro e w3 hA; obtain ⟨q2, rfl, hq2, hB⟩ := hA; have HQ2 := Lib.hid hq2; have HB2 := Lib.hid (up HB1.out hB); clear hB hq2)
      | (go_at_call 126; refine (first_q _ _ _).mono ?_; rintro e w4 ⟨⟨q3, rfl, hq3⟩, rfl⟩; have HQ3 := Lib.hid hq3; clear hq3))
    go_ret
    exact ⟨_, rfl, HQ3.out.trans ((and_congr HQ1.out HQ2.out).trans HP.out), HB2.out⟩
  · have g : ((l.length : Int) != 2) = true := by simp; omega
    have HN : Hid (¬ BindL E 1 1 (l.map T.form)) := Lib.hid (by
      rintro ⟨x, r, e, h, _⟩
      have : (l.map T.form).length = 2 := by rw [e]; simp [h]
      rw [List.length_map] at this
      exact hl this)
    clear hl hk hs hE
    go_enter Tryz.func105, Tryz.ntmps105
    go_wp2_with fail
    go_ret
    exact AnsR.ofNo (by decide) HN.out (Below.refl _ _)
set_option maxHeartbeats 4000000 in
set_option maxRecDepth 100000 in
theorem rbind_all (n : Nat) (E : Fm → Bool) (hE : HExp n E) (hd : ByteArray) (hq : hd.toList = [97, 108, 108]) (a : Option Addr) (c : Nat) (l : List T) (w : World) (hk : InL w a 0 l) (hlen : l.length ≤ 1000000) (hc : l.length ≤ c) (hs : ∀ u ∈ l, Asked n u) :
    Calls Tryz.prog 105 #[.string hd, .slice a l.length c] w fun e w' => AnsR (BindL E 2 1 (l.map T.form)) w e w' := by
  by_cases hl : l.length = 2
  · obtain ⟨x, r, hxr, hr⟩ := cons_len hl
    subst hxr
    obtain ⟨⟨b, o, rfl, z0, z1, z2, z3⟩, hinx⟩ := hk.at 0 (by simp)
    simp only [List.getElem_cons_zero, Nat.zero_mul, Nat.add_zero] at z0 z1 z2 z3 hinx
    have lb : b < w.heap.size := World.block_lt_of_cell? _ _ z0
    have HX := Lib.hid fun (W : World) (h : Below w.heap.size w W) => rranged_any n E hE x 2 (by omega) W (hinx.below h) (hs x (by simp))
    have HT := Lib.hid fun (W : World) (h : Below w.heap.size w W) => rbehind_any n E hE (some ⟨b, o, none⟩) c x r W (hk.below h) (by omega) (by simpa using hc) (fun u hu => hs u (List.mem_cons_of_mem _ hu))
    have HZ := Lib.hid fun (W : World) (h : Below w.heap.size w W) => (⟨(h.cell (p := ⟨b, o, none⟩) lb).trans z0, (h.cell (p := ⟨b, o + 1, none⟩) lb).trans z1, (h.cell (p := ⟨b, o + 2, none⟩) lb).trans z2, (h.cell (p := ⟨b, o + 3, none⟩) lb).trans z3⟩ : W.cell? ⟨b, o, none⟩ = some (.int .i64 x.kd) ∧ W.cell? ⟨b, o + 1, none⟩ = some (.int .i64 x.nn) ∧ W.cell? ⟨b, o + 2, none⟩ = some (.string x.tx) ∧ W.cell? ⟨b, o + 3, none⟩ = some (.slice x.ad x.ks.length x.cp))
    have HP : Hid (Ranged E 2 x.form ∧ AllE E (r.map T.form) ↔ BindL E 2 1 ((x :: r).map T.form)) := Lib.hid (by
      unfold BindL
      constructor
      · rintro ⟨h1, h2⟩; exact ⟨_, _, rfl, by rw [List.length_map]; exact hr, h1, h2⟩
      · rintro ⟨y, s, e, _, h1, h2⟩; injection e with e1 e2; subst e1 e2; exact ⟨h1, h2⟩)
    rw [hr] at HT
    rw [hl]
    clear hk hinx hr hl hs hE
    go_enter Tryz.func105, Tryz.ntmps105
    go_wp2_with (first
      | (go_at_call 163; refine (HX.out _ (Below.refl _ _)).mono ?_; intro e w2 hA; obtain ⟨q1, rfl, hq1, hB⟩ := hA; have HQ1 := Lib.hid hq1; have HB1 := Lib.hid hB; clear hB hq1)
      | (go_at_call 128; refine (HT.out _ HB1.out).mono ?_; intro e w3 hA; obtain ⟨q2, rfl, hq2, hB⟩ := hA; have HQ2 := Lib.hid hq2; have HB2 := Lib.hid (up HB1.out hB); clear hB hq2)
      | (go_at_call 126; refine (first_q _ _ _).mono ?_; rintro e w4 ⟨⟨q3, rfl, hq3⟩, rfl⟩; have HQ3 := Lib.hid hq3; clear hq3))
    go_ret
    exact ⟨_, rfl, HQ3.out.trans ((and_congr HQ1.out HQ2.out).trans HP.out), HB2.out⟩
  · have g : ((l.length : Int) != 2) = true := by simp; omega
    have HN : Hid (¬ BindL E 2 1 (l.map T.form)) := Lib.hid (by
      rintro ⟨x, r, e, h, _⟩
      have : (l.map T.form).length = 2 := by rw [e]; simp [h]
      rw [List.length_map] at this
      exact hl this)
    clear hl hk hs hE
    go_enter Tryz.func105, Tryz.ntmps105
    go_wp2_with fail
    go_ret
    exact AnsR.ofNo (by decide) HN.out (Below.refl _ _)
set_option maxHeartbeats 4000000 in
set_option maxRecDepth 100000 in
theorem rbind_some (n : Nat) (E : Fm → Bool) (hE : HExp n E) (hd : ByteArray) (hq : hd.toList = [115, 111, 109, 101]) (a : Option Addr) (c : Nat) (l : List T) (w : World) (hk : InL w a 0 l) (hlen : l.length ≤ 1000000) (hc : l.length ≤ c) (hs : ∀ u ∈ l, Asked n u) :
    Calls Tryz.prog 105 #[.string hd, .slice a l.length c] w fun e w' => AnsR (BindL E 2 1 (l.map T.form)) w e w' := by
  by_cases hl : l.length = 2
  · obtain ⟨x, r, hxr, hr⟩ := cons_len hl
    subst hxr
    obtain ⟨⟨b, o, rfl, z0, z1, z2, z3⟩, hinx⟩ := hk.at 0 (by simp)
    simp only [List.getElem_cons_zero, Nat.zero_mul, Nat.add_zero] at z0 z1 z2 z3 hinx
    have lb : b < w.heap.size := World.block_lt_of_cell? _ _ z0
    have HX := Lib.hid fun (W : World) (h : Below w.heap.size w W) => rranged_any n E hE x 2 (by omega) W (hinx.below h) (hs x (by simp))
    have HT := Lib.hid fun (W : World) (h : Below w.heap.size w W) => rbehind_any n E hE (some ⟨b, o, none⟩) c x r W (hk.below h) (by omega) (by simpa using hc) (fun u hu => hs u (List.mem_cons_of_mem _ hu))
    have HZ := Lib.hid fun (W : World) (h : Below w.heap.size w W) => (⟨(h.cell (p := ⟨b, o, none⟩) lb).trans z0, (h.cell (p := ⟨b, o + 1, none⟩) lb).trans z1, (h.cell (p := ⟨b, o + 2, none⟩) lb).trans z2, (h.cell (p := ⟨b, o + 3, none⟩) lb).trans z3⟩ : W.cell? ⟨b, o, none⟩ = some (.int .i64 x.kd) ∧ W.cell? ⟨b, o + 1, none⟩ = some (.int .i64 x.nn) ∧ W.cell? ⟨b, o + 2, none⟩ = some (.string x.tx) ∧ W.cell? ⟨b, o + 3, none⟩ = some (.slice x.ad x.ks.length x.cp))
    have HP : Hid (Ranged E 2 x.form ∧ AllE E (r.map T.form) ↔ BindL E 2 1 ((x :: r).map T.form)) := Lib.hid (by
      unfold BindL
      constructor
      · rintro ⟨h1, h2⟩; exact ⟨_, _, rfl, by rw [List.length_map]; exact hr, h1, h2⟩
      · rintro ⟨y, s, e, _, h1, h2⟩; injection e with e1 e2; subst e1 e2; exact ⟨h1, h2⟩)
    rw [hr] at HT
    rw [hl]
    clear hk hinx hr hl hs hE
    go_enter Tryz.func105, Tryz.ntmps105
    go_wp2_with (first
      | (go_at_call 163; refine (HX.out _ (Below.refl _ _)).mono ?_; intro e w2 hA; obtain ⟨q1, rfl, hq1, hB⟩ := hA; have HQ1 := Lib.hid hq1; have HB1 := Lib.hid hB; clear hB hq1)
      | (go_at_call 128; refine (HT.out _ HB1.out).mono ?_; intro e w3 hA; obtain ⟨q2, rfl, hq2, hB⟩ := hA; have HQ2 := Lib.hid hq2; have HB2 := Lib.hid (up HB1.out hB); clear hB hq2)
      | (go_at_call 126; refine (first_q _ _ _).mono ?_; rintro e w4 ⟨⟨q3, rfl, hq3⟩, rfl⟩; have HQ3 := Lib.hid hq3; clear hq3))
    go_ret
    exact ⟨_, rfl, HQ3.out.trans ((and_congr HQ1.out HQ2.out).trans HP.out), HB2.out⟩
  · have g : ((l.length : Int) != 2) = true := by simp; omega
    have HN : Hid (¬ BindL E 2 1 (l.map T.form)) := Lib.hid (by
      rintro ⟨x, r, e, h, _⟩
      have : (l.map T.form).length = 2 := by rw [e]; simp [h]
      rw [List.length_map] at this
      exact hl this)
    clear hl hk hs hE
    go_enter Tryz.func105, Tryz.ntmps105
    go_wp2_with fail
    go_ret
    exact AnsR.ofNo (by decide) HN.out (Below.refl _ _)
set_option maxHeartbeats 4000000 in
set_option maxRecDepth 100000 in
theorem rbind_pick (n : Nat) (E : Fm → Bool) (hE : HExp n E) (hd : ByteArray) (hq : hd.toList = [112, 105, 99, 107]) (a : Option Addr) (c : Nat) (l : List T) (w : World) (hk : InL w a 0 l) (hlen : l.length ≤ 1000000) (hc : l.length ≤ c) (hs : ∀ u ∈ l, Asked n u) :
    Calls Tryz.prog 105 #[.string hd, .slice a l.length c] w fun e w' => AnsR (BindL E 2 2 (l.map T.form)) w e w' := by
  by_cases hl : l.length = 3
  · obtain ⟨x, r, hxr, hr⟩ := cons_len hl
    subst hxr
    obtain ⟨⟨b, o, rfl, z0, z1, z2, z3⟩, hinx⟩ := hk.at 0 (by simp)
    simp only [List.getElem_cons_zero, Nat.zero_mul, Nat.add_zero] at z0 z1 z2 z3 hinx
    have lb : b < w.heap.size := World.block_lt_of_cell? _ _ z0
    have HX := Lib.hid fun (W : World) (h : Below w.heap.size w W) => rranged_any n E hE x 2 (by omega) W (hinx.below h) (hs x (by simp))
    have HT := Lib.hid fun (W : World) (h : Below w.heap.size w W) => rbehind_any n E hE (some ⟨b, o, none⟩) c x r W (hk.below h) (by omega) (by simpa using hc) (fun u hu => hs u (List.mem_cons_of_mem _ hu))
    have HZ := Lib.hid fun (W : World) (h : Below w.heap.size w W) => (⟨(h.cell (p := ⟨b, o, none⟩) lb).trans z0, (h.cell (p := ⟨b, o + 1, none⟩) lb).trans z1, (h.cell (p := ⟨b, o + 2, none⟩) lb).trans z2, (h.cell (p := ⟨b, o + 3, none⟩) lb).trans z3⟩ : W.cell? ⟨b, o, none⟩ = some (.int .i64 x.kd) ∧ W.cell? ⟨b, o + 1, none⟩ = some (.int .i64 x.nn) ∧ W.cell? ⟨b, o + 2, none⟩ = some (.string x.tx) ∧ W.cell? ⟨b, o + 3, none⟩ = some (.slice x.ad x.ks.length x.cp))
    have HP : Hid (Ranged E 2 x.form ∧ AllE E (r.map T.form) ↔ BindL E 2 2 ((x :: r).map T.form)) := Lib.hid (by
      unfold BindL
      constructor
      · rintro ⟨h1, h2⟩; exact ⟨_, _, rfl, by rw [List.length_map]; exact hr, h1, h2⟩
      · rintro ⟨y, s, e, _, h1, h2⟩; injection e with e1 e2; subst e1 e2; exact ⟨h1, h2⟩)
    rw [hr] at HT
    rw [hl]
    clear hk hinx hr hl hs hE
    go_enter Tryz.func105, Tryz.ntmps105
    go_wp2_with (first
      | (go_at_call 163; refine (HX.out _ (Below.refl _ _)).mono ?_; intro e w2 hA; obtain ⟨q1, rfl, hq1, hB⟩ := hA; have HQ1 := Lib.hid hq1; have HB1 := Lib.hid hB; clear hB hq1)
      | (go_at_call 128; refine (HT.out _ HB1.out).mono ?_; intro e w3 hA; obtain ⟨q2, rfl, hq2, hB⟩ := hA; have HQ2 := Lib.hid hq2; have HB2 := Lib.hid (up HB1.out hB); clear hB hq2)
      | (go_at_call 126; refine (first_q _ _ _).mono ?_; rintro e w4 ⟨⟨q3, rfl, hq3⟩, rfl⟩; have HQ3 := Lib.hid hq3; clear hq3))
    go_ret
    exact ⟨_, rfl, HQ3.out.trans ((and_congr HQ1.out HQ2.out).trans HP.out), HB2.out⟩
  · have g : ((l.length : Int) != 3) = true := by simp; omega
    have HN : Hid (¬ BindL E 2 2 (l.map T.form)) := Lib.hid (by
      rintro ⟨x, r, e, h, _⟩
      have : (l.map T.form).length = 3 := by rw [e]; simp [h]
      rw [List.length_map] at this
      exact hl this)
    clear hl hk hs hE
    go_enter Tryz.func105, Tryz.ntmps105
    go_wp2_with fail
    go_ret
    exact AnsR.ofNo (by decide) HN.out (Below.refl _ _)
end Go.Proofs.YtmlfiopbdlaaaaaGreat
