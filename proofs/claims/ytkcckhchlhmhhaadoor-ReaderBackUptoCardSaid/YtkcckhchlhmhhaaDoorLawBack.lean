/- ReaderBack: the walk. -/
import Derived.Test.YtkcckhchlhmhhaaDoorBackPure
import Derived.Test.YtkcckhchlhmhhaaDoorOwn4
import Derived.Test.YtkcckhchlhmhhaaDoorSane2
namespace Go.Proofs.YtkcckhchlhmhhaaDoor
open Go.RowKit Go.Deep

/-- Read of what tells the forms fs. -/
def GotForms (w w' : World) (fs : List Fm) (e : Ending) : Prop := ∃ va vc ts, e = .returned (.tuple #[.slice va ts.length vc, .int .i64 0]) ∧ In w' (T.list va vc ts) ∧ ts.map T.form = fs ∧ Below w.heap.size w w'
theorem got_of {w w' : World} {fs : List Fm} {e : Ending} (h : ReadEnd w w' (.ok fs) e) : GotForms w w' fs e := by
  obtain ⟨v, rfl, ⟨va, vc, ts, rfl, hI, hf, hc, _, _⟩, hB⟩ := h
  exact ⟨va, vc, ts, rfl, list_in hI hc.1 hc.2, hf, hB⟩
theorem size_of_list {d : ByteArray} {l : List UInt8} (h : d.data.toList = l) : d.size = l.length := by rw [← h]; simp

set_option maxHeartbeats 8000000 in
set_option maxRecDepth 100000 in
theorem back_any (ts : List T) (va : Option Addr) (vc : Nat) (w : World) (hin : InL w va 0 ts) (hl : ts.length ≤ 1000000) (hsz : szL (ts.map T.form) ≤ 220000) (htab : Tab w.heap.size w) (hg : Glob w) (h6 : 6 ≤ w.heap.size) :
    Calls Tryd.prog 7 #[.slice va ts.length vc] w fun e w' => e = .returned (.bool true) ∧ Below w.heap.size w w' := by
  have HK : Hid (∀ W, Below w.heap.size w W → InL W va 0 ts) := Lib.hid fun W h => hin.below h
  have HIN : Hid (∀ W, Below w.heap.size w W → ∀ t ∈ ts, In W t) := Lib.hid fun W h t ht => (hin.kids t ht).below h
  have HT := Lib.hid htab
  have HG := Lib.hid hg
  have HZ : Hid (∀ k (h : k < ts.length), szF ts[k].form ≤ 220000) := Lib.hid fun k h => by
    have := szL_le (l := ts.map T.form) (f := ts[k].form) (List.mem_map_of_mem (List.getElem_mem h)); omega
  have HVZ : Hid (∀ k, szL ((vld ts k).map T.form) ≤ 220000) := Lib.hid fun k => Nat.le_trans (vld_sz ts k) hsz
  have HVL : Hid (∀ k, (vld ts k).length ≤ 1000000) := Lib.hid fun k => Nat.le_trans (vld_len ts k) hl
  have HS := Lib.hid fun W (h : Below w.heap.size w W) => sane_any W (hg.below h h6) (Nat.le_trans h6 h.size)
  clear hin htab hg hsz
  go_enter Tryd.func7, Tryd.ntmps7
  go_wp2_with fail
  go_loopg [3, 4, 5] (ts.length) (fun m v n i wr => ∃ (k x : Nat), k ≤ ts.length ∧ m = ts.length - k ∧ i = .int .i64 k ∧ n = .int .i64 x ∧ x = szL ((vld ts k).map T.form) ∧ Own4 w.heap.size w wr v (vld ts k))
  case atStart => exact ⟨0, 0, by omega, by omega, rfl, rfl, by simp [vld, szL], by simpa [vld] using Own4.start (B := w.heap.size) (w := w) (Nat.le_refl _)⟩
  case round =>
    obtain ⟨k, x, hk, rfl, rfl, rfl, hx, ho⟩ := hrel
    have HO := Lib.hid ho
    have hx9 := HVZ.out k
    by_cases hlt : k < ts.length
    · have hxk : x ≤ 220000 := by omega
      have HX := Lib.hid hx
      obtain ⟨⟨b, o, rfl, x0, x1, x2, x3⟩, hink⟩ := (HK.out _ HO.out.below).at k hlt
      have lb : b < wr.heap.size := World.block_lt_of_cell? _ _ x0
      have hz := HZ.out k hlt
      have HV := Lib.hid (valid_any ts[k] wr hink (by omega))
      have HC : Hid (∀ W, Below w.heap.size w W → Cells4 W b (o + k * 4) ts[k]) := Lib.hid fun W h => by
        obtain ⟨⟨b', o', e, hc⟩, _⟩ := (HK.out W h).at k hlt
        injection e with e
        injection e with e1 e2 e3
        subst e1 e2
        exact hc
      cases hv : validF ts[k].form with
      | false =>
        rw [hv] at HV
        have HN := Lib.hid (vld_no hlt hv)
        clear hv hink ho hx hx9
        go_wp2_with (go_at_call 18; refine HV.out.mono ?_; rintro e w2 ⟨rfl, hB⟩; have HB := Lib.hid hB; clear hB)
        go_roundg (ts.length - (k + 1))
        case measure => omega
        case rel => exact ⟨k + 1, x, by omega, rfl, by go_num, rfl, by rw [HN.out]; exact HX.out, by rw [HN.out]; exact HO.out.next HB.out⟩
      | true =>
        rw [hv] at HV
        have HN := Lib.hid (vld_yes hlt hv)
        have hvl := HVL.out k
        have HSZ := Lib.hid fun W (h : In W ts[k]) => size_any ts[k] W h (by omega)
        have HI0 := Lib.hid fun W (h : Below w.heap.size w W) => HIN.out W h ts[k] (List.getElem_mem hlt)
        have hxs : (x : Int) + (szF ts[k].form : Int) ≤ 1000000 := by omega
        have HXN : Hid (x + szF ts[k].form = szL ((vld ts (k + 1)).map T.form)) := Lib.hid (by
          rw [HN.out, List.map_append, szL_append]
          simp only [List.map_cons, List.map_nil, szL]
          omega)
        clear hv hink ho hx hx9
        go_wp2_with (first
          | (go_at_call 18; refine HV.out.mono ?_; rintro e w2 ⟨rfl, hB⟩; have HO2 := Lib.hid (HO.out.next hB); obtain ⟨y0, y1, y2, y3⟩ := HC.out _ HO2.out.below; clear hB)
          | (at_builtin; refine own4_push rfl _ _ 22 rfl Tryd.underlying22 rfl HO2.out ts[k] 1 _ rfl rfl (by omega) ?_; intro v3 w3 ho3 _ _; have HO3 := Lib.hid ho3; obtain ⟨z0, z1, z2, z3⟩ := HC.out _ HO3.out.below; clear ho3)
          | (go_at_call 20; refine (HSZ.out _ (HI0.out _ HO3.out.below)).mono ?_; rintro e w4 ⟨rfl, hB⟩; have HO4 := Lib.hid (HO3.out.next hB); clear hB))
        go_roundg (ts.length - (k + 1))
        case measure => omega
        case rel => exact ⟨k + 1, x + szF ts[k].form, by omega, rfl, by go_num, by go_num, HXN.out, by rw [HN.out]; exact HO4.out⟩
    · obtain ⟨wo, rfl⟩ : ∃ wo : World, wo = wr := ⟨_, rfl⟩
      obtain ⟨us, hus⟩ : ∃ us, vld ts k = us := ⟨_, rfl⟩
      have hum : ∀ t ∈ us, t ∈ ts ∧ validF t.form = true := fun t h => vld_mem t (by rw [hus]; exact h)
      have hul := HVL.out k
      rw [hus] at ho hx hx9 hul
      have hval : ∀ f ∈ us.map T.form, validF f = true := fun f hf => by
        obtain ⟨t, ht, rfl⟩ := List.mem_map.1 hf
        exact (hum t ht).2
      obtain ⟨ua, uc, rfl, hui⟩ := own4_slice ho (fun t ht => HIN.out _ ho.below t (hum t ht).1) hul
      have HB0 := Lib.hid ho.below
      have HUI := Lib.hid hui
      have HUL : Hid (∀ W, Below wo.heap.size wo W → InL W ua 0 us) := Lib.hid fun W h => by simpa [T.ad, T.ks] using (hui.below h).inL
      obtain ⟨d, hd⟩ : ∃ d : ByteArray, (⟨(wAllG (us.map T.form)).toArray⟩ : ByteArray) = d := ⟨_, rfl⟩
      have hdl : d.data.toList = wAll (us.map T.form) := by rw [← hd, ← wAllG_valid hval]
      have hdz := size_of_list hdl
      have HW := Lib.hid ((writeAll_any us ua uc wo (by simpa [T.ad, T.ks] using hui.inL) hul (by omega) (Tab.mono (HT.out.on ho.below) ho.below.size)).mono fun e w' hh => (by rw [hd] at hh; exact hh : e = .returned (.string d) ∧ Below wo.heap.size wo w'))
      have hwl := wAllG_len (us.map T.form)
      rw [wAllG_valid hval] at hwl
      have hd9 : (d.size : Int) ≤ 1000000000 := by omega
      have hx99 : (x : Int) ≤ 220000 := by omega
      by_cases hgd : 4000 < x ∨ 30000 < d.size
      · clear hd hdl hval hum hui ho hx HUI HUL hus hx9 hul hdz hwl
        by_cases hg1 : 4000 < x
        · have g1 : (4000 : Int) < (x : Int) := by omega
          clear hgd hg1
          go_wp2_with (first
            | (go_at_call 35; refine HW.out.mono ?_; rintro e w2 ⟨rfl, hB⟩; have HB := Lib.hid (upB HB0.out hB (Nat.le_refl _)); clear hB)
            | (go_at_call 15; refine (HS.out _ HB.out).mono ?_; rintro e w3 ⟨rfl, hB⟩; have HB3 := Lib.hid (upB HB.out hB (Nat.le_refl _)); clear hB))
          go_ret
          exact ⟨rfl, HB3.out⟩
        · have g1 : ¬ (4000 : Int) < (x : Int) := by omega
          have g2 : (30000 : Int) < (d.size : Int) := by omega
          have g3 : decide ((4000 : Int) < (x : Int)) = false := by simpa using g1
          clear hgd hg1
          go_wp2_with (first
            | (go_at_call 35; refine HW.out.mono ?_; rintro e w2 ⟨rfl, hB⟩; have HB := Lib.hid (upB HB0.out hB (Nat.le_refl _)); clear hB)
            | (go_at_call 15; refine (HS.out _ HB.out).mono ?_; rintro e w3 ⟨rfl, hB⟩; have HB3 := Lib.hid (upB HB.out hB (Nat.le_refl _)); clear hB))
          go_ret
          exact ⟨rfl, HB3.out⟩
      · have g1 : ¬ (4000 : Int) < (x : Int) := by omega
        have g2 : ¬ (30000 : Int) < (d.size : Int) := by omega
        have hn4 : us.length ≤ 4000 := by
          have := szL_len (us.map T.form)
          rw [List.length_map] at this
          omega
        have hrd := read_all hval hdl (by omega)
        have HR1 := Lib.hid fun W (h : Below w.heap.size w W) => (read_any d W (by unfold maxLen; omega) (HG.out.below h h6) (Nat.le_trans h6 h.size)).mono fun e w' hh => (by rw [hrd] at hh; exact got_of hh : GotForms W w' (us.map T.form) e)
        have HSM := Lib.hid fun W (h : Below wo.heap.size wo W) (ra : Option Addr) (rc : Nat) (rs : List T) (h1 : In W (T.list ra rc rs)) (h2 : rs.map T.form = us.map T.form) => same_any ra ua rc uc rs us W h1 (HUI.out.below h) h2
        have hmx := wMix_len (us.map T.form)
        have hmt := wMix_take us
        rw [List.length_map] at hmx
        have HMX : Hid (∀ j, (wMix ((us.take j).map T.form)).length ≤ 50000) := Lib.hid fun j => by have := hmt j; omega
        have HMD : Hid (∀ (j : Nat) (dk dw : ByteArray) (h : j < us.length), dk.data.toList = [32, 59, 32, 40, 10] ++ wMix ((us.take j).map T.form) → dw.data.toList = txF us[j].form → (dk ++ ⟨#[9]⟩ ++ dw ++ ⟨#[32, 59, 34, 10, 10]⟩).data.toList = [32, 59, 32, 40, 10] ++ wMix ((us.take (j + 1)).map T.form)) := Lib.hid fun j dk dw h h1 h2 => mix_data h h1 h2
        have HWR : Hid (∀ (W : World) (j : Nat) (h : j < us.length), Below w.heap.size w W → In W us[j] → ∃ dw : ByteArray, dw.data.toList = txF us[j].form ∧ dw.size ≤ 80200000 ∧ Calls Tryd.prog 16 #[us[j].val] W fun e w' => e = .returned (.string dw) ∧ Below W.heap.size W w') := Lib.hid fun W j h hb hi => by
          have hv : validF us[j].form = true := (hum _ (List.getElem_mem h)).2
          have hzz : szF us[j].form ≤ 20000 := (valid_parts hv).1
          have hww := write_any us[j] W hi (by omega) (Tab.mono (HT.out.on hb) hb.size)
          rw [wrF_yes hv] at hww
          have hlen := txF_len (valid_parts hv).2.2
          refine ⟨⟨(txF us[j].form).toArray⟩, rfl, ?_, hww⟩
          rw [size_of_list (d := ⟨(txF us[j].form).toArray⟩) (l := txF us[j].form) rfl]
          omega
        have HRM : Hid (∀ (dk : ByteArray) W, dk.data.toList = [32, 59, 32, 40, 10] ++ wMix (us.map T.form) → Below w.heap.size w W → Calls Tryd.prog 9 #[.string dk] W fun e w' => GotForms W w' (us.map T.form) e) := Lib.hid fun dk W h1 h2 => by
          have hz := size_of_list h1
          simp only [List.length_append, List.length_cons, List.length_nil] at hz
          have hm2 := hmt us.length
          rw [List.take_of_length_le (Nat.le_refl _)] at hm2
          have := read_mix hval h1 (by omega)
          exact (read_any dk W (by unfold maxLen; omega) (HG.out.below h2 h6) (Nat.le_trans h6 h2.size)).mono fun e w' hh => (by rw [this] at hh; exact got_of hh)
        clear hd hdl hval hum hui ho hx HUI hus hx9 hul hdz hwl hgd hrd hmx hmt
        go_wp2_with (first
          | (go_at_call 35; refine HW.out.mono ?_; rintro e w2 ⟨rfl, hB⟩; have HB2 := Lib.hid hB; have HB := Lib.hid (upB HB0.out hB (Nat.le_refl _)); clear hB)
          | (go_at_call 9; refine (HR1.out _ HB.out).mono ?_; rintro e w3 ⟨ra, rc, rs, rfl, hri, hrf, hB⟩; have HRI := Lib.hid hri; have HRF := Lib.hid hrf; have HB3 := Lib.hid (up HB2.out hB); clear hri hrf hB)
          | (go_at_call 13; refine (HSM.out _ HB3.out _ _ _ HRI.out HRF.out).mono ?_; rintro e w4 ⟨rfl, hB⟩; have HB4 := Lib.hid (up HB3.out hB); clear hB))
        go_loopg [9, 10] (us.length) (fun m t i wr => ∃ (j : Nat) (dk : ByteArray), j ≤ us.length ∧ m = us.length - j ∧ i = .int .i64 j ∧ t = .string dk ∧ dk.data.toList = [32, 59, 32, 40, 10] ++ wMix ((us.take j).map T.form) ∧ Below wo.heap.size wo wr)
        case atStart => exact ⟨0, ⟨#[32, 59, 32, 40, 10]⟩, by omega, rfl, rfl, rfl, by simp [wMix], HB4.out⟩
        case round =>
          obtain ⟨j, dk, hj, rfl, rfl, rfl, hdk, hbq⟩ := hrel
          have HDK := Lib.hid hdk
          have HBQ := Lib.hid hbq
          have hdz : dk.size ≤ 50005 := by
            have h1 := size_of_list hdk
            have h2 := HMX.out j
            simp only [List.length_append, List.length_cons, List.length_nil] at h1
            omega
          by_cases hlu : j < us.length
          · obtain ⟨⟨b, o, rfl, x0, x1, x2, x3⟩, hinj⟩ := (HUL.out _ HBQ.out).at j hlu
            have lb : b < wr.heap.size := World.block_lt_of_cell? _ _ x0
            obtain ⟨dw, hdw, hdwz, hcw⟩ := HWR.out wr j hlu (upB HB0.out HBQ.out (Nat.le_refl _)) hinj
            have HD := Lib.hid (HMD.out j dk dw hlu HDK.out hdw)
            have HC := Lib.hid hcw
            clear hdk hbq hinj hdw hcw
            go_wp2_with (go_at_call 16; refine HC.out.mono ?_; rintro e w5 ⟨rfl, hB⟩; have HB5 := Lib.hid (up HBQ.out hB); clear hB)
            go_roundg (us.length - (j + 1))
            case measure => omega
            case rel => exact ⟨j + 1, _, by omega, rfl, by go_num, rfl, HD.out, HB5.out⟩
          · have hall : us.take j = us := List.take_of_length_le (by omega)
            rw [hall] at HDK
            have HRR := Lib.hid (HRM.out dk wr HDK.out (upB HB0.out HBQ.out (Nat.le_refl _)))
            clear hdk hbq hall
            go_wp2_with (first
              | (go_at_call 9; refine HRR.out.mono ?_; rintro e w5 ⟨qa, qc, qs, rfl, hqi, hqf, hB⟩; have HQI := Lib.hid hqi; have HQF := Lib.hid hqf; have HB5 := Lib.hid (up HBQ.out hB); clear hqi hqf hB)
              | (go_at_call 13; refine (HSM.out _ HB5.out _ _ _ HQI.out HQF.out).mono ?_; rintro e w6 ⟨rfl, hB⟩; have HB6 := Lib.hid (up HB5.out hB); clear hB)
              | (go_at_call 15; refine (HS.out _ (upB HB0.out HB6.out (Nat.le_refl _))).mono ?_; rintro e w7 ⟨rfl, hB⟩; have HB7 := Lib.hid (up HB6.out hB); clear hB))
            go_ret
            exact ⟨rfl, upB HB0.out HB7.out (Nat.le_refl _)⟩
end Go.Proofs.YtkcckhchlhmhhaaDoor
