/- Several texts, one behind the other. -/
import Derived.Test.YtmlfiopbdlaaaaaGreatJ13
import Derived.Test.YtmlfiopbdlaaaaaGreatJ10
import Derived.Test.YtmlfiopbdlaaaaaGreatJ11
import Derived.Test.YtmlfiopbdlaaaaaGreatVReN
import Derived.Test.YtmlfiopbdlaaaaaGreatVReK2
namespace Go.Proofs.YtmlfiopbdlaaaaaGreat
open Go.RowKit Go.Deep
def MapL (E : Fm → Bool) (l : List Fm) : Prop := ∀ p ∈ l, PairE E p
theorem pairE_T {E : Fm → Bool} {u : T} : PairE E u.form ↔ u.kd = 3 ∧ u.ks.length = 2 ∧ AllE E (u.ks.map T.form) := by
  unfold PairE; rw [T.form_kd, T.form_ks, List.length_map]
set_option maxHeartbeats 4000000 in
set_option maxRecDepth 100000 in
theorem rspec_map (n : Nat) (E : Fm → Bool) (hE : HExp n E) (hd : ByteArray) (hq : hd.toList = [109, 97, 112]) (a : Option Addr) (c : Nat) (l : List T) (w : World) (hk : InL w a 0 l) (hlen : l.length ≤ 1000000) (_hc : l.length ≤ c) (hs : ∀ u ∈ l, Asked n u) :
    Calls Tryz.prog 106 #[.string hd, .slice a l.length c] w fun e w' => AnsR (MapL E (l.map T.form)) w e w' := by
  have HIA := Lib.hid fun (W : World) => in_val hd ⟨#[105, 115, 32, 103, 101, 116]⟩ (by kernel_rfl) false (by rw [← Lib.toList_data, hq]; kernel_rfl) W
  have HIB := Lib.hid fun (W : World) => in_val hd ⟨#[99, 97, 108, 108, 32, 109, 97, 107, 101]⟩ (by kernel_rfl) false (by rw [← Lib.toList_data, hq]; kernel_rfl) W
  have HP : Hid (MapL E (l.map T.form) ↔ ∀ u ∈ l, PairE E u.form) := Lib.hid (by unfold MapL; simp)
  have HK := Lib.hid fun (W : World) (h : Below w.heap.size w W) => hk.below h
  have HE := Lib.hid hE
  have HS := Lib.hid hs
  clear hk hs hE
  go_enter Tryz.func106, Tryz.ntmps106
  go_wp2_with (first
      | (go_at_call 32; with_reducible refine (HIA.out _).mono ?_; rintro e wi ⟨rfl, rfl⟩)
      | (go_at_call 32; with_reducible refine (HIB.out _).mono ?_; rintro e wj ⟨rfl, rfl⟩))
  go_loopg [5] (l.length) (fun m i wr => ∃ k : Nat, k ≤ l.length ∧ m = l.length - k ∧ i = .int .i64 k ∧ UpTo (fun u => PairE E u.form) l k ∧ Below w.heap.size w wr)
  case atStart => exact ⟨0, by omega, by omega, rfl, UpTo.start _ _, Below.refl _ _⟩
  case round =>
    obtain ⟨k, hk, rfl, rfl, hU, hB⟩ := hrel
    have HU := Lib.hid hU
    have HB := Lib.hid hB
    clear hU hB
    by_cases hlt : k < l.length
    · obtain ⟨⟨b, o, rfl, hx0, hx1, hx2, hx3⟩, hink⟩ := (HK.out _ HB.out).at k hlt
      have lb : b < wr.heap.size := World.block_lt_of_cell? _ _ hx0
      have HN : Hid (¬ PairE E l[k].form → ¬ MapL E (l.map T.form)) := Lib.hid fun hp h => hp (HP.out.1 h _ (List.getElem_mem hlt))
      have HY : Hid (PairE E l[k].form → UpTo (fun u => PairE E u.form) l (k + 1)) := Lib.hid fun hp => HU.out.step hlt hp
      have hus := HS.out _ (List.getElem_mem hlt)
      obtain ⟨u, hu⟩ : ∃ u, l[k] = u := ⟨_, rfl⟩
      rw [hu] at hx0 hx1 hx2 hx3 hink HN HY hus
      have hul := Nat.le_trans hink.ok.le hink.ok.cp
      unfold maxLen at hul
      clear hu
      by_cases u3 : u.kd = 3
      · have g3 : (u.kd != 3) = false := by simpa using u3
        by_cases u2 : u.ks.length = 2
        · have HX := Lib.hid (rexprs_any n E HE.out u.ad u.cp u.ks wr hink.inL (by omega) (fun z hz => hus.kid (by rw [T.form_kd]; exact u3) hz))
          have HPE : Hid (AllE E (u.ks.map T.form) ↔ PairE E u.form) := Lib.hid ⟨fun h => pairE_T.2 ⟨u3, u2, h⟩, fun h => (pairE_T.1 h).2.2⟩
          rw [u2] at HX hx3
          clear u3 u2 hink hus
          by_cases hA : AllE E (u.ks.map T.form)
          · have HAA := Lib.hid hA
            have HYY := Lib.hid (HY.out (HPE.out.1 hA))
            clear hA
            go_wp2_with (go_at_call 104; refine HX.out.mono ?_; intro e w2 hA; obtain ⟨rfl, hB⟩ := hA.yes HAA.out; have HB2 := Lib.hid (up HB.out hB); clear hB hA)
            go_roundg (l.length - (k + 1))
            case measure => omega
            case rel => exact ⟨k + 1, by omega, rfl, by go_num, HYY.out, HB2.out⟩
          · have HAA := Lib.hid hA
            have HNN := Lib.hid (HN.out fun h => hA (HPE.out.2 h))
            clear hA
            go_wp2_with (go_at_call 104; refine HX.out.mono ?_; intro e w2 hA; obtain ⟨q, hq0, hq1, hq2, rfl, hB⟩ := hA.no HAA.out; have HQ0 := Lib.hid hq0; have HB2 := Lib.hid (up HB.out hB); clear hB hA hq0)
            go_ret
            exact AnsR.ofNo HQ0.out HNN.out HB2.out
        · have g2 : ((u.ks.length : Int) != 2) = true := by simp; omega
          have HNN := Lib.hid (HN.out fun h => u2 (pairE_T.1 h).2.1)
          clear u2 hink hus
          go_wp2_with fail
          go_ret
          exact AnsR.ofNo (by decide) HNN.out HB.out
      · have g3 : (u.kd != 3) = true := by simpa using u3
        have HNN := Lib.hid (HN.out fun h => u3 (pairE_T.1 h).1)
        clear u3 hink hus
        go_wp2_with fail
        go_ret
        exact AnsR.ofNo (by decide) HNN.out HB.out
    · have HYY := Lib.hid (HP.out.2 (HU.out.ends (by omega)))
      go_wp2_with fail
      go_ret
      exact AnsR.of0 HYY.out HB.out
theorem in_two (hd : ByteArray) (a b : List UInt8) (row : List UInt8) (hr : splitB [] row = [a, b]) (h1 : (hd.toList == a) = false) (h2 : (hd.toList == b) = false) : inB hd.data.toList [] row = false := by
  rw [inB_split, hr, ← Lib.toList_data]
  have h1 : ¬ hd.toList = a := by simpa using h1
  have h2 : ¬ hd.toList = b := by simpa using h2
  simp [h1, h2]
set_option maxHeartbeats 4000000 in
set_option maxRecDepth 100000 in
theorem rspec_none (hd : ByteArray) (h0 : (hd.toList == [111, 108, 100]) = false) (h1 : (hd.toList == [105, 115]) = false) (h2 : (hd.toList == [103, 101, 116]) = false) (h3 : (hd.toList == [112, 114, 101, 102, 105, 120]) = false) (h4 : (hd.toList == [99, 97, 108, 108]) = false) (h5 : (hd.toList == [109, 97, 107, 101]) = false) (h6 : (hd.toList == [98, 105, 116, 115]) = false) (h7 : (hd.toList == [102, 117, 101, 108]) = false) (h8 : (hd.toList == [101, 109, 112, 116, 121]) = false) (h9 : (hd.toList == [105, 109, 97, 112]) = false) (h10 : (hd.toList == [109, 97, 112]) = false) (a : Option Addr) (c : Nat) (l : List T) (w : World) :
    Calls Tryz.prog 106 #[.string hd, .slice a l.length c] w fun e w' => AnsR False w e w' := by
  have HIA := Lib.hid fun (W : World) => in_val hd ⟨#[105, 115, 32, 103, 101, 116]⟩ (by kernel_rfl) false (in_two hd [105, 115] [103, 101, 116] _ (by kernel_rfl) h1 h2) W
  have HIB := Lib.hid fun (W : World) => in_val hd ⟨#[99, 97, 108, 108, 32, 109, 97, 107, 101]⟩ (by kernel_rfl) false (in_two hd [99, 97, 108, 108] [109, 97, 107, 101] _ (by kernel_rfl) h4 h5) W
  go_enter Tryz.func106, Tryz.ntmps106
  go_wp2_with (first
      | (go_at_call 32; with_reducible refine (HIA.out _).mono ?_; rintro e wi ⟨rfl, rfl⟩)
      | (go_at_call 32; with_reducible refine (HIB.out _).mono ?_; rintro e wj ⟨rfl, rfl⟩))
  go_ret
  exact AnsR.ofNo (by decide) (fun h => h) (Below.refl _ _)
end Go.Proofs.YtmlfiopbdlaaaaaGreat

namespace Go.Proofs.YtmlfiopbdlaaaaaGreat
open Go.RowKit Go.Deep
set_option maxHeartbeats 1000000 in
theorem rbind_match (n : Nat) (E : Fm → Bool) (hE : HExp n E) (hd : ByteArray) (hq : hd.toList = [109, 97, 116, 99, 104]) (a : Option Addr) (c : Nat) (l : List T) (w : World) (hk : InL w a 0 l) (hlen : l.length ≤ 1000000) (_hc : l.length ≤ c) (hs : ∀ u ∈ l, Asked n u) :
    Calls Tryz.prog 105 #[.string hd, .slice a l.length c] w fun e w' => AnsR (MatchL E (l.map T.form)) w e w' := by
  have HT := Lib.hid (rmatch_any n E hE a c l w hk hlen hs)
  clear hk hs hE _hc
  go_enter Tryz.func105, Tryz.ntmps105
  go_wp2_with (first
    | (go_at_call 164; refine HT.out.mono ?_; intro e w4 hA; have HA := Lib.hid hA; obtain ⟨q, rfl, hq, hB⟩ := hA; clear hB hq))
  go_ret
  exact HA.out
set_option maxHeartbeats 1000000 in
theorem rbind_forall (n : Nat) (E : Fm → Bool) (hE : HExp n E) (hd : ByteArray) (hq : hd.toList = [102, 111, 114, 97, 108, 108]) (a : Option Addr) (c : Nat) (l : List T) (w : World) (hk : InL w a 0 l) (hlen : l.length ≤ 1000000) (_hc : l.length ≤ c) (hs : ∀ u ∈ l, Asked n u) :
    Calls Tryz.prog 105 #[.string hd, .slice a l.length c] w fun e w' => AnsR (QuantL E (l.map T.form)) w e w' := by
  have HT := Lib.hid (rquant_any n E hE a c l w hk hlen hs)
  clear hk hs hE _hc
  go_enter Tryz.func105, Tryz.ntmps105
  go_wp2_with (first
    | (go_at_call 165; refine HT.out.mono ?_; intro e w4 hA; have HA := Lib.hid hA; obtain ⟨q, rfl, hq, hB⟩ := hA; clear hB hq))
  go_ret
  exact HA.out
set_option maxHeartbeats 1000000 in
theorem rbind_exists (n : Nat) (E : Fm → Bool) (hE : HExp n E) (hd : ByteArray) (hq : hd.toList = [101, 120, 105, 115, 116, 115]) (a : Option Addr) (c : Nat) (l : List T) (w : World) (hk : InL w a 0 l) (hlen : l.length ≤ 1000000) (_hc : l.length ≤ c) (hs : ∀ u ∈ l, Asked n u) :
    Calls Tryz.prog 105 #[.string hd, .slice a l.length c] w fun e w' => AnsR (QuantL E (l.map T.form)) w e w' := by
  have HT := Lib.hid (rquant_any n E hE a c l w hk hlen hs)
  clear hk hs hE _hc
  go_enter Tryz.func105, Tryz.ntmps105
  go_wp2_with (first
    | (go_at_call 165; refine HT.out.mono ?_; intro e w4 hA; have HA := Lib.hid hA; obtain ⟨q, rfl, hq, hB⟩ := hA; clear hB hq))
  go_ret
  exact HA.out
abbrev row1 : ByteArray := ⟨#[110, 101, 103, 32, 110, 111, 116, 32, 98, 110, 117, 109, 32, 108, 101, 110, 32, 99, 97, 114, 100, 32, 107, 101, 121, 115, 32, 102, 114, 101, 115, 104]⟩
abbrev row2 : ByteArray := ⟨#[43, 32, 45, 32, 42, 32, 100, 105, 118, 32, 109, 111, 100, 32, 60, 32, 60, 61, 32, 61, 32, 61, 62, 32, 105, 102, 102, 32, 98, 97, 110, 100, 32, 98, 111, 114, 32, 98, 120, 111, 114, 32, 98, 97, 100, 100, 32, 97, 116, 32, 99, 97, 116, 32, 105, 110, 32, 106, 111, 105, 110, 32, 109, 101, 101, 116, 32, 108, 101, 115, 115, 32, 99, 111, 117, 110, 116, 32, 108, 111, 111, 107]⟩
abbrev row3 : ByteArray := ⟨#[105, 102, 32, 99, 117, 116, 32, 112, 117, 116]⟩
abbrev row4 : ByteArray := ⟨#[97, 110, 100, 32, 111, 114, 32, 115, 101, 113, 32, 115, 101, 116, 32, 98, 97, 103]⟩
abbrev row5 : ByteArray := ⟨#[108, 101, 116, 32, 112, 105, 99, 107, 32, 97, 108, 108, 32, 115, 111, 109, 101, 32, 101, 118, 101, 114, 121, 32, 97, 110, 121, 32, 102, 110, 32, 102, 111, 114, 97, 108, 108, 32, 101, 120, 105, 115, 116, 115, 32, 109, 97, 116, 99, 104]⟩
set_option maxHeartbeats 4000000 in
set_option maxRecDepth 100000 in
theorem rexpr_1 (t : T) (hd : ByteArray) (x : T) (r : List T) (hxr : t.ks = x :: r) (hk3 : t.kd = 3) (hh : headF t.form = hd) (hne : hd.toList ≠ []) (e1 : inB hd.data.toList [] row1.data.toList = true) (P : Prop) (w : World) (hin : In w t) (hl : r.length ≤ 1000000)
    (hC : ∀ (W : World) (a' : Option Addr) (c' : Nat), Below w.heap.size w W → InL W a' 0 r → r.length ≤ c' → Calls Tryz.prog 103 #[.slice a' r.length c',  .int .i64 1, .int .i64 1] W fun e w' => AnsR P W e w') :
    Calls Tryz.prog 61 #[t.val] w fun e w' => AnsR P w e w' := by
  have H1 := Lib.hid fun (W : World) => in_val hd row1 (by kernel_rfl) true e1 W
  obtain ⟨⟨b, o, had, -⟩, -⟩ := hin.inL.at 0 (by rw [hxr]; simp)
  have hinl := hin.inL
  rw [had, hxr] at hinl
  have HI := Lib.hid fun (W : World) (h : Below w.heap.size w W) => InL_tail (hinl.below h)
  have hcp := hin.ok.le
  have hul := hin.ok.cp
  unfold maxLen at hul
  have HH := Lib.hid fun (W : World) (h : Below w.heap.size w W) => rhead_any t W (hin.below h)
  have HC := Lib.hid hC
  obtain ⟨m, hm⟩ : ∃ m, r.length = m := ⟨_, rfl⟩
  have HM := Lib.hid hm
  have hlm : t.ks.length = m + 1 := by rw [hxr, ← hm]; rfl
  have hv : t.val = .agg #[.int .i64 3, .int .i64 t.nn, .string t.tx, .slice (some ⟨b, o, none⟩) (m + 1) t.cp] := by rw [T.val, had, hk3, hlm]
  have HBX := Lib.hid fun (W : World) (h : Below (w.alloc (.cells #[.int .i64 3, .int .i64 t.nn, .string t.tx, .slice (some ⟨b, o, none⟩) (m + 1) t.cp] 24)).heap.size (w.alloc (.cells #[.int .i64 3, .int .i64 t.nn, .string t.tx, .slice (some ⟨b, o, none⟩) (m + 1) t.cp] 24)) W) => (cell_block (j := 3) ((h.block w.heap.size (by simp)).trans (heap_alloc_new _ _)) rfl : W.cell? ⟨w.heap.size, 3, none⟩ = some (.slice (some ⟨b, o, none⟩) (m + 1) t.cp))
  rw [hh, hv] at HH
  rw [hlm] at hcp
  rw [hm] at HC hl
  rw [hv]
  obtain ⟨cp, hcpe⟩ : ∃ cp, t.cp = cp := ⟨_, rfl⟩
  rw [hcpe] at hcp hul HBX HH ⊢
  have g1 : (hd.toList == []) = false := by simpa using hne
  have g2 : hd.toList.isEmpty = false := by simpa using hne
  have HCP := Lib.hid hcp
  clear hv hlm hm hinl had hin hC hxr hk3 hh e1 hcpe hne
  go_enter Tryz.func61, Tryz.ntmps61
  go_wp2_with (first
    | (go_at_call 31; refine (HH.out _ (bel1 _ _)).mono ?_; rintro e w2 ⟨rfl, hB⟩; have q3 := HBX.out _ hB; have HB := Lib.hid (up (bel1 _ _) hB); clear hB)
    | (go_at_call 32; with_reducible refine (H1.out _).mono ?_; rintro e wi1 ⟨rfl, rfl⟩)
    | (go_at_call 103; refine (HC.out _ _ _ HB.out (by first | exact HI.out _ HB.out | exact InL_nil (by have := HM.out; omega)) (by have := HM.out; have := HCP.out; omega)).mono ?_; intro e w4 hA; have HA := Lib.hid hA; obtain ⟨q, rfl, hq, hB⟩ := hA; clear hB hq))
  all_goals
    go_ret
    exact HA.out.up HB.out
set_option maxHeartbeats 4000000 in
set_option maxRecDepth 100000 in
theorem rexpr_2 (t : T) (hd : ByteArray) (x : T) (r : List T) (hxr : t.ks = x :: r) (hk3 : t.kd = 3) (hh : headF t.form = hd) (hne : hd.toList ≠ []) (e1 : inB hd.data.toList [] row1.data.toList = false) (e2 : inB hd.data.toList [] row2.data.toList = true) (P : Prop) (w : World) (hin : In w t) (hl : r.length ≤ 1000000)
    (hC : ∀ (W : World) (a' : Option Addr) (c' : Nat), Below w.heap.size w W → InL W a' 0 r → r.length ≤ c' → Calls Tryz.prog 103 #[.slice a' r.length c', .int .i64 2, .int .i64 2] W fun e w' => AnsR P W e w') :
    Calls Tryz.prog 61 #[t.val] w fun e w' => AnsR P w e w' := by
  have H1 := Lib.hid fun (W : World) => in_val hd row1 (by kernel_rfl) false e1 W
  have H2 := Lib.hid fun (W : World) => in_val hd row2 (by kernel_rfl) true e2 W
  obtain ⟨⟨b, o, had, -⟩, -⟩ := hin.inL.at 0 (by rw [hxr]; simp)
  have hinl := hin.inL
  rw [had, hxr] at hinl
  have HI := Lib.hid fun (W : World) (h : Below w.heap.size w W) => InL_tail (hinl.below h)
  have hcp := hin.ok.le
  have hul := hin.ok.cp
  unfold maxLen at hul
  have HH := Lib.hid fun (W : World) (h : Below w.heap.size w W) => rhead_any t W (hin.below h)
  have HC := Lib.hid hC
  obtain ⟨m, hm⟩ : ∃ m, r.length = m := ⟨_, rfl⟩
  have HM := Lib.hid hm
  have hlm : t.ks.length = m + 1 := by rw [hxr, ← hm]; rfl
  have hv : t.val = .agg #[.int .i64 3, .int .i64 t.nn, .string t.tx, .slice (some ⟨b, o, none⟩) (m + 1) t.cp] := by rw [T.val, had, hk3, hlm]
  have HBX := Lib.hid fun (W : World) (h : Below (w.alloc (.cells #[.int .i64 3, .int .i64 t.nn, .string t.tx, .slice (some ⟨b, o, none⟩) (m + 1) t.cp] 24)).heap.size (w.alloc (.cells #[.int .i64 3, .int .i64 t.nn, .string t.tx, .slice (some ⟨b, o, none⟩) (m + 1) t.cp] 24)) W) => (cell_block (j := 3) ((h.block w.heap.size (by simp)).trans (heap_alloc_new _ _)) rfl : W.cell? ⟨w.heap.size, 3, none⟩ = some (.slice (some ⟨b, o, none⟩) (m + 1) t.cp))
  rw [hh, hv] at HH
  rw [hlm] at hcp
  rw [hm] at HC hl
  rw [hv]
  obtain ⟨cp, hcpe⟩ : ∃ cp, t.cp = cp := ⟨_, rfl⟩
  rw [hcpe] at hcp hul HBX HH ⊢
  have g1 : (hd.toList == []) = false := by simpa using hne
  have g2 : hd.toList.isEmpty = false := by simpa using hne
  have HCP := Lib.hid hcp
  clear hv hlm hm hinl had hin hC hxr hk3 hh e1 e2 hcpe hne
  go_enter Tryz.func61, Tryz.ntmps61
  go_wp2_with (first
    | (go_at_call 31; refine (HH.out _ (bel1 _ _)).mono ?_; rintro e w2 ⟨rfl, hB⟩; have q3 := HBX.out _ hB; have HB := Lib.hid (up (bel1 _ _) hB); clear hB)
    | (go_at_call 32; with_reducible refine (H1.out _).mono ?_; rintro e wi1 ⟨rfl, rfl⟩)
    | (go_at_call 32; with_reducible refine (H2.out _).mono ?_; rintro e wi2 ⟨rfl, rfl⟩)
    | (go_at_call 103; refine (HC.out _ _ _ HB.out (by first | exact HI.out _ HB.out | exact InL_nil (by have := HM.out; omega)) (by have := HM.out; have := HCP.out; omega)).mono ?_; intro e w4 hA; have HA := Lib.hid hA; obtain ⟨q, rfl, hq, hB⟩ := hA; clear hB hq))
  all_goals
    go_ret
    exact HA.out.up HB.out
set_option maxHeartbeats 4000000 in
set_option maxRecDepth 100000 in
theorem rexpr_3 (t : T) (hd : ByteArray) (x : T) (r : List T) (hxr : t.ks = x :: r) (hk3 : t.kd = 3) (hh : headF t.form = hd) (hne : hd.toList ≠ []) (e1 : inB hd.data.toList [] row1.data.toList = false) (e2 : inB hd.data.toList [] row2.data.toList = false) (e3 : inB hd.data.toList [] row3.data.toList = true) (P : Prop) (w : World) (hin : In w t) (hl : r.length ≤ 1000000)
    (hC : ∀ (W : World) (a' : Option Addr) (c' : Nat), Below w.heap.size w W → InL W a' 0 r → r.length ≤ c' → Calls Tryz.prog 103 #[.slice a' r.length c', .int .i64 3, .int .i64 3] W fun e w' => AnsR P W e w') :
    Calls Tryz.prog 61 #[t.val] w fun e w' => AnsR P w e w' := by
  have H1 := Lib.hid fun (W : World) => in_val hd row1 (by kernel_rfl) false e1 W
  have H2 := Lib.hid fun (W : World) => in_val hd row2 (by kernel_rfl) false e2 W
  have H3 := Lib.hid fun (W : World) => in_val hd row3 (by kernel_rfl) true e3 W
  obtain ⟨⟨b, o, had, -⟩, -⟩ := hin.inL.at 0 (by rw [hxr]; simp)
  have hinl := hin.inL
  rw [had, hxr] at hinl
  have HI := Lib.hid fun (W : World) (h : Below w.heap.size w W) => InL_tail (hinl.below h)
  have hcp := hin.ok.le
  have hul := hin.ok.cp
  unfold maxLen at hul
  have HH := Lib.hid fun (W : World) (h : Below w.heap.size w W) => rhead_any t W (hin.below h)
  have HC := Lib.hid hC
  obtain ⟨m, hm⟩ : ∃ m, r.length = m := ⟨_, rfl⟩
  have HM := Lib.hid hm
  have hlm : t.ks.length = m + 1 := by rw [hxr, ← hm]; rfl
  have hv : t.val = .agg #[.int .i64 3, .int .i64 t.nn, .string t.tx, .slice (some ⟨b, o, none⟩) (m + 1) t.cp] := by rw [T.val, had, hk3, hlm]
  have HBX := Lib.hid fun (W : World) (h : Below (w.alloc (.cells #[.int .i64 3, .int .i64 t.nn, .string t.tx, .slice (some ⟨b, o, none⟩) (m + 1) t.cp] 24)).heap.size (w.alloc (.cells #[.int .i64 3, .int .i64 t.nn, .string t.tx, .slice (some ⟨b, o, none⟩) (m + 1) t.cp] 24)) W) => (cell_block (j := 3) ((h.block w.heap.size (by simp)).trans (heap_alloc_new _ _)) rfl : W.cell? ⟨w.heap.size, 3, none⟩ = some (.slice (some ⟨b, o, none⟩) (m + 1) t.cp))
  rw [hh, hv] at HH
  rw [hlm] at hcp
  rw [hm] at HC hl
  rw [hv]
  obtain ⟨cp, hcpe⟩ : ∃ cp, t.cp = cp := ⟨_, rfl⟩
  rw [hcpe] at hcp hul HBX HH ⊢
  have g1 : (hd.toList == []) = false := by simpa using hne
  have g2 : hd.toList.isEmpty = false := by simpa using hne
  have HCP := Lib.hid hcp
  clear hv hlm hm hinl had hin hC hxr hk3 hh e1 e2 e3 hcpe hne
  go_enter Tryz.func61, Tryz.ntmps61
  go_wp2_with (first
    | (go_at_call 31; refine (HH.out _ (bel1 _ _)).mono ?_; rintro e w2 ⟨rfl, hB⟩; have q3 := HBX.out _ hB; have HB := Lib.hid (up (bel1 _ _) hB); clear hB)
    | (go_at_call 32; with_reducible refine (H1.out _).mono ?_; rintro e wi1 ⟨rfl, rfl⟩)
    | (go_at_call 32; with_reducible refine (H2.out _).mono ?_; rintro e wi2 ⟨rfl, rfl⟩)
    | (go_at_call 32; with_reducible refine (H3.out _).mono ?_; rintro e wi3 ⟨rfl, rfl⟩)
    | (go_at_call 103; refine (HC.out _ _ _ HB.out (by first | exact HI.out _ HB.out | exact InL_nil (by have := HM.out; omega)) (by have := HM.out; have := HCP.out; omega)).mono ?_; intro e w4 hA; have HA := Lib.hid hA; obtain ⟨q, rfl, hq, hB⟩ := hA; clear hB hq))
  all_goals
    go_ret
    exact HA.out.up HB.out
set_option maxHeartbeats 4000000 in
set_option maxRecDepth 100000 in
theorem rexpr_4 (t : T) (hd : ByteArray) (x : T) (r : List T) (hxr : t.ks = x :: r) (hk3 : t.kd = 3) (hh : headF t.form = hd) (hne : hd.toList ≠ []) (e1 : inB hd.data.toList [] row1.data.toList = false) (e2 : inB hd.data.toList [] row2.data.toList = false) (e3 : inB hd.data.toList [] row3.data.toList = false) (e4 : inB hd.data.toList [] row4.data.toList = true) (P : Prop) (w : World) (hin : In w t) (hl : r.length ≤ 1000000)
    (hC : ∀ (W : World) (a' : Option Addr) (c' : Nat), Below w.heap.size w W → InL W a' 0 r → r.length ≤ c' → Calls Tryz.prog 104 #[.slice a' r.length c'] W fun e w' => AnsR P W e w') :
    Calls Tryz.prog 61 #[t.val] w fun e w' => AnsR P w e w' := by
  have H1 := Lib.hid fun (W : World) => in_val hd row1 (by kernel_rfl) false e1 W
  have H2 := Lib.hid fun (W : World) => in_val hd row2 (by kernel_rfl) false e2 W
  have H3 := Lib.hid fun (W : World) => in_val hd row3 (by kernel_rfl) false e3 W
  have H4 := Lib.hid fun (W : World) => in_val hd row4 (by kernel_rfl) true e4 W
  obtain ⟨⟨b, o, had, -⟩, -⟩ := hin.inL.at 0 (by rw [hxr]; simp)
  have hinl := hin.inL
  rw [had, hxr] at hinl
  have HI := Lib.hid fun (W : World) (h : Below w.heap.size w W) => InL_tail (hinl.below h)
  have hcp := hin.ok.le
  have hul := hin.ok.cp
  unfold maxLen at hul
  have HH := Lib.hid fun (W : World) (h : Below w.heap.size w W) => rhead_any t W (hin.below h)
  have HC := Lib.hid hC
  obtain ⟨m, hm⟩ : ∃ m, r.length = m := ⟨_, rfl⟩
  have HM := Lib.hid hm
  have hlm : t.ks.length = m + 1 := by rw [hxr, ← hm]; rfl
  have hv : t.val = .agg #[.int .i64 3, .int .i64 t.nn, .string t.tx, .slice (some ⟨b, o, none⟩) (m + 1) t.cp] := by rw [T.val, had, hk3, hlm]
  have HBX := Lib.hid fun (W : World) (h : Below (w.alloc (.cells #[.int .i64 3, .int .i64 t.nn, .string t.tx, .slice (some ⟨b, o, none⟩) (m + 1) t.cp] 24)).heap.size (w.alloc (.cells #[.int .i64 3, .int .i64 t.nn, .string t.tx, .slice (some ⟨b, o, none⟩) (m + 1) t.cp] 24)) W) => (cell_block (j := 3) ((h.block w.heap.size (by simp)).trans (heap_alloc_new _ _)) rfl : W.cell? ⟨w.heap.size, 3, none⟩ = some (.slice (some ⟨b, o, none⟩) (m + 1) t.cp))
  rw [hh, hv] at HH
  rw [hlm] at hcp
  rw [hm] at HC hl
  rw [hv]
  obtain ⟨cp, hcpe⟩ : ∃ cp, t.cp = cp := ⟨_, rfl⟩
  rw [hcpe] at hcp hul HBX HH ⊢
  have g1 : (hd.toList == []) = false := by simpa using hne
  have g2 : hd.toList.isEmpty = false := by simpa using hne
  have HCP := Lib.hid hcp
  clear hv hlm hm hinl had hin hC hxr hk3 hh e1 e2 e3 e4 hcpe hne
  go_enter Tryz.func61, Tryz.ntmps61
  go_wp2_with (first
    | (go_at_call 31; refine (HH.out _ (bel1 _ _)).mono ?_; rintro e w2 ⟨rfl, hB⟩; have q3 := HBX.out _ hB; have HB := Lib.hid (up (bel1 _ _) hB); clear hB)
    | (go_at_call 32; with_reducible refine (H1.out _).mono ?_; rintro e wi1 ⟨rfl, rfl⟩)
    | (go_at_call 32; with_reducible refine (H2.out _).mono ?_; rintro e wi2 ⟨rfl, rfl⟩)
    | (go_at_call 32; with_reducible refine (H3.out _).mono ?_; rintro e wi3 ⟨rfl, rfl⟩)
    | (go_at_call 32; with_reducible refine (H4.out _).mono ?_; rintro e wi4 ⟨rfl, rfl⟩)
    | (go_at_call 104; refine (HC.out _ _ _ HB.out (by first | exact HI.out _ HB.out | exact InL_nil (by have := HM.out; omega)) (by have := HM.out; have := HCP.out; omega)).mono ?_; intro e w4 hA; have HA := Lib.hid hA; obtain ⟨q, rfl, hq, hB⟩ := hA; clear hB hq))
  all_goals
    go_ret
    exact HA.out.up HB.out
set_option maxHeartbeats 4000000 in
set_option maxRecDepth 100000 in
theorem rexpr_app (t : T) (hd : ByteArray) (x : T) (r : List T) (hxr : t.ks = x :: r) (hk3 : t.kd = 3) (hh : headF t.form = hd) (hne : hd.toList ≠ []) (e1 : inB hd.data.toList [] row1.data.toList = false) (e2 : inB hd.data.toList [] row2.data.toList = false) (e3 : inB hd.data.toList [] row3.data.toList = false) (e4 : inB hd.data.toList [] row4.data.toList = false) (ha : hd.toList = [97, 112, 112]) (P : Prop) (w : World) (hin : In w t) (hl : r.length ≤ 1000000)
    (hC : ∀ (W : World) (a' : Option Addr) (c' : Nat), Below w.heap.size w W → InL W a' 0 r → r.length ≤ c' → Calls Tryz.prog 103 #[.slice a' r.length c', .int .i64 1, .int .i64 r.length] W fun e w' => AnsR P W e w') :
    Calls Tryz.prog 61 #[t.val] w fun e w' => AnsR P w e w' := by
  have H1 := Lib.hid fun (W : World) => in_val hd row1 (by kernel_rfl) false e1 W
  have H2 := Lib.hid fun (W : World) => in_val hd row2 (by kernel_rfl) false e2 W
  have H3 := Lib.hid fun (W : World) => in_val hd row3 (by kernel_rfl) false e3 W
  have H4 := Lib.hid fun (W : World) => in_val hd row4 (by kernel_rfl) false e4 W
  obtain ⟨⟨b, o, had, -⟩, -⟩ := hin.inL.at 0 (by rw [hxr]; simp)
  have hinl := hin.inL
  rw [had, hxr] at hinl
  have HI := Lib.hid fun (W : World) (h : Below w.heap.size w W) => InL_tail (hinl.below h)
  have hcp := hin.ok.le
  have hul := hin.ok.cp
  unfold maxLen at hul
  have HH := Lib.hid fun (W : World) (h : Below w.heap.size w W) => rhead_any t W (hin.below h)
  have HC := Lib.hid hC
  obtain ⟨m, hm⟩ : ∃ m, r.length = m := ⟨_, rfl⟩
  have HM := Lib.hid hm
  have hlm : t.ks.length = m + 1 := by rw [hxr, ← hm]; rfl
  have hv : t.val = .agg #[.int .i64 3, .int .i64 t.nn, .string t.tx, .slice (some ⟨b, o, none⟩) (m + 1) t.cp] := by rw [T.val, had, hk3, hlm]
  have HBX := Lib.hid fun (W : World) (h : Below (w.alloc (.cells #[.int .i64 3, .int .i64 t.nn, .string t.tx, .slice (some ⟨b, o, none⟩) (m + 1) t.cp] 24)).heap.size (w.alloc (.cells #[.int .i64 3, .int .i64 t.nn, .string t.tx, .slice (some ⟨b, o, none⟩) (m + 1) t.cp] 24)) W) => (cell_block (j := 3) ((h.block w.heap.size (by simp)).trans (heap_alloc_new _ _)) rfl : W.cell? ⟨w.heap.size, 3, none⟩ = some (.slice (some ⟨b, o, none⟩) (m + 1) t.cp))
  rw [hh, hv] at HH
  rw [hlm] at hcp
  rw [hm] at HC hl
  rw [hv]
  obtain ⟨cp, hcpe⟩ : ∃ cp, t.cp = cp := ⟨_, rfl⟩
  rw [hcpe] at hcp hul HBX HH ⊢
  have g1 : (hd.toList == []) = false := by simpa using hne
  have g2 : hd.toList.isEmpty = false := by simpa using hne
  have HCP := Lib.hid hcp
  clear hv hlm hm hinl had hin hC hxr hk3 hh e1 e2 e3 e4 hcpe hne
  go_enter Tryz.func61, Tryz.ntmps61
  go_wp2_with (first
    | (go_at_call 31; refine (HH.out _ (bel1 _ _)).mono ?_; rintro e w2 ⟨rfl, hB⟩; have q3 := HBX.out _ hB; have HB := Lib.hid (up (bel1 _ _) hB); clear hB)
    | (go_at_call 32; with_reducible refine (H1.out _).mono ?_; rintro e wi1 ⟨rfl, rfl⟩)
    | (go_at_call 32; with_reducible refine (H2.out _).mono ?_; rintro e wi2 ⟨rfl, rfl⟩)
    | (go_at_call 32; with_reducible refine (H3.out _).mono ?_; rintro e wi3 ⟨rfl, rfl⟩)
    | (go_at_call 32; with_reducible refine (H4.out _).mono ?_; rintro e wi4 ⟨rfl, rfl⟩)
    | (go_at_call 103; refine (HC.out _ _ _ HB.out (by first | exact HI.out _ HB.out | exact InL_nil (by have := HM.out; omega)) (by have := HM.out; have := HCP.out; omega)).mono ?_; intro e w4 hA; have HA := Lib.hid hA; obtain ⟨q, rfl, hq, hB⟩ := hA; clear hB hq))
  all_goals
    go_ret
    exact HA.out.up HB.out
set_option maxHeartbeats 4000000 in
set_option maxRecDepth 100000 in
theorem rexpr_5 (t : T) (hd : ByteArray) (x : T) (r : List T) (hxr : t.ks = x :: r) (hk3 : t.kd = 3) (hh : headF t.form = hd) (hne : hd.toList ≠ []) (e1 : inB hd.data.toList [] row1.data.toList = false) (e2 : inB hd.data.toList [] row2.data.toList = false) (e3 : inB hd.data.toList [] row3.data.toList = false) (e4 : inB hd.data.toList [] row4.data.toList = false) (ha : (hd.toList == [97, 112, 112]) = false) (e5 : inB hd.data.toList [] row5.data.toList = true) (P : Prop) (w : World) (hin : In w t) (hl : r.length ≤ 1000000)
    (hC : ∀ (W : World) (a' : Option Addr) (c' : Nat), Below w.heap.size w W → InL W a' 0 r → r.length ≤ c' → Calls Tryz.prog 105 #[.string hd, .slice a' r.length c'] W fun e w' => AnsR P W e w') :
    Calls Tryz.prog 61 #[t.val] w fun e w' => AnsR P w e w' := by
  have H1 := Lib.hid fun (W : World) => in_val hd row1 (by kernel_rfl) false e1 W
  have H2 := Lib.hid fun (W : World) => in_val hd row2 (by kernel_rfl) false e2 W
  have H3 := Lib.hid fun (W : World) => in_val hd row3 (by kernel_rfl) false e3 W
  have H4 := Lib.hid fun (W : World) => in_val hd row4 (by kernel_rfl) false e4 W
  have H5 := Lib.hid fun (W : World) => in_val hd row5 (by kernel_rfl) true e5 W
  obtain ⟨⟨b, o, had, -⟩, -⟩ := hin.inL.at 0 (by rw [hxr]; simp)
  have hinl := hin.inL
  rw [had, hxr] at hinl
  have HI := Lib.hid fun (W : World) (h : Below w.heap.size w W) => InL_tail (hinl.below h)
  have hcp := hin.ok.le
  have hul := hin.ok.cp
  unfold maxLen at hul
  have HH := Lib.hid fun (W : World) (h : Below w.heap.size w W) => rhead_any t W (hin.below h)
  have HC := Lib.hid hC
  obtain ⟨m, hm⟩ : ∃ m, r.length = m := ⟨_, rfl⟩
  have HM := Lib.hid hm
  have hlm : t.ks.length = m + 1 := by rw [hxr, ← hm]; rfl
  have hv : t.val = .agg #[.int .i64 3, .int .i64 t.nn, .string t.tx, .slice (some ⟨b, o, none⟩) (m + 1) t.cp] := by rw [T.val, had, hk3, hlm]
  have HBX := Lib.hid fun (W : World) (h : Below (w.alloc (.cells #[.int .i64 3, .int .i64 t.nn, .string t.tx, .slice (some ⟨b, o, none⟩) (m + 1) t.cp] 24)).heap.size (w.alloc (.cells #[.int .i64 3, .int .i64 t.nn, .string t.tx, .slice (some ⟨b, o, none⟩) (m + 1) t.cp] 24)) W) => (cell_block (j := 3) ((h.block w.heap.size (by simp)).trans (heap_alloc_new _ _)) rfl : W.cell? ⟨w.heap.size, 3, none⟩ = some (.slice (some ⟨b, o, none⟩) (m + 1) t.cp))
  rw [hh, hv] at HH
  rw [hlm] at hcp
  rw [hm] at HC hl
  rw [hv]
  obtain ⟨cp, hcpe⟩ : ∃ cp, t.cp = cp := ⟨_, rfl⟩
  rw [hcpe] at hcp hul HBX HH ⊢
  have g1 : (hd.toList == []) = false := by simpa using hne
  have g2 : hd.toList.isEmpty = false := by simpa using hne
  have HCP := Lib.hid hcp
  clear hv hlm hm hinl had hin hC hxr hk3 hh e1 e2 e3 e4 e5 hcpe hne
  go_enter Tryz.func61, Tryz.ntmps61
  go_wp2_with (first
    | (go_at_call 31; refine (HH.out _ (bel1 _ _)).mono ?_; rintro e w2 ⟨rfl, hB⟩; have q3 := HBX.out _ hB; have HB := Lib.hid (up (bel1 _ _) hB); clear hB)
    | (go_at_call 32; with_reducible refine (H1.out _).mono ?_; rintro e wi1 ⟨rfl, rfl⟩)
    | (go_at_call 32; with_reducible refine (H2.out _).mono ?_; rintro e wi2 ⟨rfl, rfl⟩)
    | (go_at_call 32; with_reducible refine (H3.out _).mono ?_; rintro e wi3 ⟨rfl, rfl⟩)
    | (go_at_call 32; with_reducible refine (H4.out _).mono ?_; rintro e wi4 ⟨rfl, rfl⟩)
    | (go_at_call 32; with_reducible refine (H5.out _).mono ?_; rintro e wi5 ⟨rfl, rfl⟩)
    | (go_at_call 105; refine (HC.out _ _ _ HB.out (by first | exact HI.out _ HB.out | exact InL_nil (by have := HM.out; omega)) (by have := HM.out; have := HCP.out; omega)).mono ?_; intro e w4 hA; have HA := Lib.hid hA; obtain ⟨q, rfl, hq, hB⟩ := hA; clear hB hq))
  all_goals
    go_ret
    exact HA.out.up HB.out
set_option maxHeartbeats 4000000 in
set_option maxRecDepth 100000 in
theorem rexpr_sp (t : T) (hd : ByteArray) (x : T) (r : List T) (hxr : t.ks = x :: r) (hk3 : t.kd = 3) (hh : headF t.form = hd) (hne : hd.toList ≠ []) (e1 : inB hd.data.toList [] row1.data.toList = false) (e2 : inB hd.data.toList [] row2.data.toList = false) (e3 : inB hd.data.toList [] row3.data.toList = false) (e4 : inB hd.data.toList [] row4.data.toList = false) (ha : (hd.toList == [97, 112, 112]) = false) (e5 : inB hd.data.toList [] row5.data.toList = false) (P : Prop) (w : World) (hin : In w t) (hl : r.length ≤ 1000000)
    (hC : ∀ (W : World) (a' : Option Addr) (c' : Nat), Below w.heap.size w W → InL W a' 0 r → r.length ≤ c' → Calls Tryz.prog 106 #[.string hd, .slice a' r.length c'] W fun e w' => AnsR P W e w') :
    Calls Tryz.prog 61 #[t.val] w fun e w' => AnsR P w e w' := by
  have H1 := Lib.hid fun (W : World) => in_val hd row1 (by kernel_rfl) false e1 W
  have H2 := Lib.hid fun (W : World) => in_val hd row2 (by kernel_rfl) false e2 W
  have H3 := Lib.hid fun (W : World) => in_val hd row3 (by kernel_rfl) false e3 W
  have H4 := Lib.hid fun (W : World) => in_val hd row4 (by kernel_rfl) false e4 W
  have H5 := Lib.hid fun (W : World) => in_val hd row5 (by kernel_rfl) false e5 W
  obtain ⟨⟨b, o, had, -⟩, -⟩ := hin.inL.at 0 (by rw [hxr]; simp)
  have hinl := hin.inL
  rw [had, hxr] at hinl
  have HI := Lib.hid fun (W : World) (h : Below w.heap.size w W) => InL_tail (hinl.below h)
  have hcp := hin.ok.le
  have hul := hin.ok.cp
  unfold maxLen at hul
  have HH := Lib.hid fun (W : World) (h : Below w.heap.size w W) => rhead_any t W (hin.below h)
  have HC := Lib.hid hC
  obtain ⟨m, hm⟩ : ∃ m, r.length = m := ⟨_, rfl⟩
  have HM := Lib.hid hm
  have hlm : t.ks.length = m + 1 := by rw [hxr, ← hm]; rfl
  have hv : t.val = .agg #[.int .i64 3, .int .i64 t.nn, .string t.tx, .slice (some ⟨b, o, none⟩) (m + 1) t.cp] := by rw [T.val, had, hk3, hlm]
  have HBX := Lib.hid fun (W : World) (h : Below (w.alloc (.cells #[.int .i64 3, .int .i64 t.nn, .string t.tx, .slice (some ⟨b, o, none⟩) (m + 1) t.cp] 24)).heap.size (w.alloc (.cells #[.int .i64 3, .int .i64 t.nn, .string t.tx, .slice (some ⟨b, o, none⟩) (m + 1) t.cp] 24)) W) => (cell_block (j := 3) ((h.block w.heap.size (by simp)).trans (heap_alloc_new _ _)) rfl : W.cell? ⟨w.heap.size, 3, none⟩ = some (.slice (some ⟨b, o, none⟩) (m + 1) t.cp))
  rw [hh, hv] at HH
  rw [hlm] at hcp
  rw [hm] at HC hl
  rw [hv]
  obtain ⟨cp, hcpe⟩ : ∃ cp, t.cp = cp := ⟨_, rfl⟩
  rw [hcpe] at hcp hul HBX HH ⊢
  have g1 : (hd.toList == []) = false := by simpa using hne
  have g2 : hd.toList.isEmpty = false := by simpa using hne
  have HCP := Lib.hid hcp
  clear hv hlm hm hinl had hin hC hxr hk3 hh e1 e2 e3 e4 e5 hcpe hne
  go_enter Tryz.func61, Tryz.ntmps61
  go_wp2_with (first
    | (go_at_call 31; refine (HH.out _ (bel1 _ _)).mono ?_; rintro e w2 ⟨rfl, hB⟩; have q3 := HBX.out _ hB; have HB := Lib.hid (up (bel1 _ _) hB); clear hB)
    | (go_at_call 32; with_reducible refine (H1.out _).mono ?_; rintro e wi1 ⟨rfl, rfl⟩)
    | (go_at_call 32; with_reducible refine (H2.out _).mono ?_; rintro e wi2 ⟨rfl, rfl⟩)
    | (go_at_call 32; with_reducible refine (H3.out _).mono ?_; rintro e wi3 ⟨rfl, rfl⟩)
    | (go_at_call 32; with_reducible refine (H4.out _).mono ?_; rintro e wi4 ⟨rfl, rfl⟩)
    | (go_at_call 32; with_reducible refine (H5.out _).mono ?_; rintro e wi5 ⟨rfl, rfl⟩)
    | (go_at_call 106; refine (HC.out _ _ _ HB.out (by first | exact HI.out _ HB.out | exact InL_nil (by have := HM.out; omega)) (by have := HM.out; have := HCP.out; omega)).mono ?_; intro e w4 hA; have HA := Lib.hid hA; obtain ⟨q, rfl, hq, hB⟩ := hA; clear hB hq))
  all_goals
    go_ret
    exact HA.out.up HB.out
end Go.Proofs.YtmlfiopbdlaaaaaGreat
