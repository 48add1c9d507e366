/- The document's Kids, by classes of heads. (Made by genrki.py.) -/
import Derived.Test.YtmlfiopbdlaaaaaGreatVReE2
import Derived.Test.YtmlfiopbdlaaaaaGreatJ6
namespace Go.Proofs.YtmlfiopbdlaaaaaGreat
open Go.RowKit Go.Deep
def rangeI (a b : Nat) : List Int := (List.range (b - a)).map fun j => ((a + j : Nat) : Int)
theorem rangeI_none {a b : Nat} (h : b ≤ a) : rangeI a b = [] := by unfold rangeI; rw [Nat.sub_eq_zero_of_le h]; rfl
theorem rangeI_more {a k : Nat} (h : a ≤ k) : rangeI a (k + 1) = rangeI a k ++ [(k : Int)] := by
  unfold rangeI
  rw [show k + 1 - a = (k - a) + 1 by omega, List.range_succ, List.map_append]
  simp only [List.map_cons, List.map_nil]
  rw [show a + (k - a) = k by omega]
theorem rangeI_len (a b : Nat) : (rangeI a b).length = b - a := by simp [rangeI]
abbrev krow1 : ByteArray := ⟨#[108, 101, 116, 32, 112, 105, 99, 107, 32, 97, 108, 108, 32, 115, 111, 109, 101, 32, 101, 118, 101, 114, 121, 32, 97, 110, 121, 32, 102, 110, 32, 105, 115, 32, 103, 101, 116, 32, 112, 114, 101, 102, 105, 120]⟩
abbrev krow2 : ByteArray := ⟨#[102, 111, 114, 97, 108, 108, 32, 101, 120, 105, 115, 116, 115]⟩
abbrev krow3 : ByteArray := ⟨#[99, 97, 108, 108, 32, 109, 97, 107, 101]⟩
abbrev krow4 : ByteArray := ⟨#[98, 105, 116, 115, 32, 101, 109, 112, 116, 121, 32, 109, 97, 112]⟩
set_option maxHeartbeats 4000000 in
set_option maxRecDepth 100000 in
theorem rkids_c1 (t : T) (hd : ByteArray) (n : Nat) (hk3 : t.kd = 3) (hn : t.ks.length = n) (hn1 : 1 ≤ n) (hn2 : n ≤ 20001) (hh : headF t.form = hd) (e1 : inB hd.data.toList [] krow1.data.toList = true) (w : World) (hin : In w t)
    (hX : ∀ W, Below w.heap.size w W → Calls Tryz.prog 30 #[t.val] W fun e w' => e = .returned (.int .i64 0) ∧ Below W.heap.size W w') :
    Calls Tryz.prog 7 #[t.val] w fun e w' => ∃ v, e = .returned (.tuple #[v, .int .i64 0]) ∧ OwnI w.heap.size w w' v (rangeI 2 n) := by
  have H1 := Lib.hid fun (W : World) => in_val hd krow1 (by kernel_rfl) true e1 W
  obtain ⟨⟨b, o, had, -⟩, -⟩ := hin.inL.at 0 (by omega)
  have HH := Lib.hid fun (W : World) (h : Below w.heap.size w W) => rhead_any t W (hin.below h)
  have HX := Lib.hid hX
  have hv : t.val = .agg #[.int .i64 3, .int .i64 t.nn, .string t.tx, .slice (some ⟨b, o, none⟩) n t.cp] := by rw [T.val, had, hk3, hn]
  rw [hh, hv] at HH
  rw [hv] at HX ⊢
  have hul := hin.ok.cp
  unfold maxLen at hul
  have HBX := Lib.hid fun (W : World) (h : Below (w.alloc (.cells #[.int .i64 3, .int .i64 t.nn, .string t.tx, .slice (some ⟨b, o, none⟩) n t.cp] 24)).heap.size (w.alloc (.cells #[.int .i64 3, .int .i64 t.nn, .string t.tx, .slice (some ⟨b, o, none⟩) n t.cp] 24)) W) => (⟨cell_block (j := 0) ((h.block w.heap.size (by simp)).trans (heap_alloc_new _ _)) rfl, cell_block (j := 1) ((h.block w.heap.size (by simp)).trans (heap_alloc_new _ _)) rfl, cell_block (j := 2) ((h.block w.heap.size (by simp)).trans (heap_alloc_new _ _)) rfl, cell_block (j := 3) ((h.block w.heap.size (by simp)).trans (heap_alloc_new _ _)) rfl⟩ : W.cell? ⟨w.heap.size, 0, none⟩ = some (.int .i64 3) ∧ W.cell? ⟨w.heap.size, 1, none⟩ = some (.int .i64 t.nn) ∧ W.cell? ⟨w.heap.size, 2, none⟩ = some (.string t.tx) ∧ W.cell? ⟨w.heap.size, 3, none⟩ = some (.slice (some ⟨b, o, none⟩) n t.cp))
  have HN1 := Lib.hid hn1
  clear hv hn hin hX hk3 hh had e1
  go_enter Tryz.func7, Tryz.ntmps7
  go_wp2_with (first
    | (go_at_call 30; refine (HX.out _ (bel1 _ _)).mono ?_; rintro e w2 ⟨rfl, hB⟩; obtain ⟨b0, b1, b2, b3⟩ := HBX.out _ hB; have HBR := Lib.hid hB; have HB2 := Lib.hid (up (bel1 _ _) hB); clear hB)
    | (go_at_call 31; with_reducible refine (HH.out _ HB2.out).mono ?_; rintro e w3 ⟨rfl, hB⟩; obtain ⟨c0, c1, c2, c3⟩ := HBX.out _ (up HBR.out hB); have HBR3 := Lib.hid (up HBR.out hB); have HB3 := Lib.hid (up HB2.out hB); clear hB)
    | (go_at_call 32; with_reducible refine (H1.out _).mono ?_; rintro e wi1 ⟨rfl, rfl⟩))
  go_loopg [8, 9] (n - 2) (fun m v i wr => ∃ k : Nat, 2 ≤ k ∧ (k ≤ n ∨ k = 2) ∧ m = n - k ∧ i = .int .i64 k ∧ OwnI w3.heap.size w3 wr v (rangeI 2 k))
  case atStart => exact ⟨2, Nat.le_refl _, .inr rfl, by omega, by first | rfl | (simp; done) | (congr 1; omega), by rw [rangeI_none (Nat.le_refl _)]; exact OwnI.start (Nat.le_refl _)⟩
  case round =>
    obtain ⟨k, hk1, hk2, rfl, rfl, hO⟩ := hrel
    have HO := Lib.hid hO
    clear hO
    by_cases hlt : k < n
    · have gk : (k : Int) < (n : Nat) := by omega
      have HM := Lib.hid (rangeI_more hk1)
      have HLN : Hid ((rangeI 2 k).length ≤ 1000000000) := Lib.hid (by rw [rangeI_len]; omega)
      go_wp2_with (at_builtin; refine ownI_push rfl _ _ 25 rfl Tryz.underlying25 rfl (HO.out.next (bel1 _ _)) (k : Int) 1 _ rfl (heap_alloc_new _ _) HLN.out ?_; intro v5 w5 ho5 hg5; have HO5 := Lib.hid ho5; clear ho5 hg5)
      go_roundg (n - (k + 1))
      case measure => omega
      case rel => exact ⟨k + 1, by omega, .inl (by omega), rfl, by go_num, by rw [HM.out]; exact HO5.out⟩
    · have HE : Hid (rangeI 2 k = rangeI 2 n) := Lib.hid (by
        by_cases h : k = n
        · rw [h]
        · rw [rangeI_none (by omega), rangeI_none (by omega)])
      go_wp2_with fail
      refine bodyPost_ret (v := .tuple #[_, .int .i64 0]) (by simp [results, Tryz.results7, go_sem]; rfl) rfl ⟨_, rfl, ?_⟩
      have h := HO.out
      rw [HE.out] at h
      exact h.lower HB3.out.size (up HB3.out h.below)
set_option maxHeartbeats 4000000 in
set_option maxRecDepth 100000 in
theorem rkids_match (t : T) (hd : ByteArray) (n : Nat) (hk3 : t.kd = 3) (hn : t.ks.length = n) (hn1 : 1 ≤ n) (hn2 : n ≤ 20001) (hh : headF t.form = hd) (e1 : inB hd.data.toList [] krow1.data.toList = false) (gmatch : (hd.toList == [109, 97, 116, 99, 104]) = true) (w : World) (hin : In w t)
    (hX : ∀ W, Below w.heap.size w W → Calls Tryz.prog 30 #[t.val] W fun e w' => e = .returned (.int .i64 0) ∧ Below W.heap.size W w') :
    Calls Tryz.prog 7 #[t.val] w fun e w' => ∃ v, e = .returned (.tuple #[v, .int .i64 0]) ∧ OwnI w.heap.size w w' v (rangeI 1 2) := by
  have H1 := Lib.hid fun (W : World) => in_val hd krow1 (by kernel_rfl) false e1 W
  obtain ⟨⟨b, o, had, -⟩, -⟩ := hin.inL.at 0 (by omega)
  have HH := Lib.hid fun (W : World) (h : Below w.heap.size w W) => rhead_any t W (hin.below h)
  have HX := Lib.hid hX
  have hv : t.val = .agg #[.int .i64 3, .int .i64 t.nn, .string t.tx, .slice (some ⟨b, o, none⟩) n t.cp] := by rw [T.val, had, hk3, hn]
  rw [hh, hv] at HH
  rw [hv] at HX ⊢
  have hul := hin.ok.cp
  unfold maxLen at hul
  have HBX := Lib.hid fun (W : World) (h : Below (w.alloc (.cells #[.int .i64 3, .int .i64 t.nn, .string t.tx, .slice (some ⟨b, o, none⟩) n t.cp] 24)).heap.size (w.alloc (.cells #[.int .i64 3, .int .i64 t.nn, .string t.tx, .slice (some ⟨b, o, none⟩) n t.cp] 24)) W) => (⟨cell_block (j := 0) ((h.block w.heap.size (by simp)).trans (heap_alloc_new _ _)) rfl, cell_block (j := 1) ((h.block w.heap.size (by simp)).trans (heap_alloc_new _ _)) rfl, cell_block (j := 2) ((h.block w.heap.size (by simp)).trans (heap_alloc_new _ _)) rfl, cell_block (j := 3) ((h.block w.heap.size (by simp)).trans (heap_alloc_new _ _)) rfl⟩ : W.cell? ⟨w.heap.size, 0, none⟩ = some (.int .i64 3) ∧ W.cell? ⟨w.heap.size, 1, none⟩ = some (.int .i64 t.nn) ∧ W.cell? ⟨w.heap.size, 2, none⟩ = some (.string t.tx) ∧ W.cell? ⟨w.heap.size, 3, none⟩ = some (.slice (some ⟨b, o, none⟩) n t.cp))
  have HN1 := Lib.hid hn1
  clear hv hn hin hX hk3 hh had e1
  go_enter Tryz.func7, Tryz.ntmps7
  go_wp2_with (first
    | (go_at_call 30; refine (HX.out _ (bel1 _ _)).mono ?_; rintro e w2 ⟨rfl, hB⟩; obtain ⟨b0, b1, b2, b3⟩ := HBX.out _ hB; have HBR := Lib.hid hB; have HB2 := Lib.hid (up (bel1 _ _) hB); clear hB)
    | (go_at_call 31; with_reducible refine (HH.out _ HB2.out).mono ?_; rintro e w3 ⟨rfl, hB⟩; obtain ⟨c0, c1, c2, c3⟩ := HBX.out _ (up HBR.out hB); have HBR3 := Lib.hid (up HBR.out hB); have HB3 := Lib.hid (up HB2.out hB); clear hB)
    | (go_at_call 32; with_reducible refine (H1.out _).mono ?_; rintro e wi1 ⟨rfl, rfl⟩))
  go_loopg [8, 9] (2 - 1) (fun m v i wr => ∃ k : Nat, 1 ≤ k ∧ (k ≤ 2 ∨ k = 1) ∧ m = 2 - k ∧ i = .int .i64 k ∧ OwnI w3.heap.size w3 wr v (rangeI 1 k))
  case atStart => exact ⟨1, Nat.le_refl _, .inr rfl, by omega, by first | rfl | (simp; done) | (congr 1; omega), by rw [rangeI_none (Nat.le_refl _)]; exact OwnI.start (Nat.le_refl _)⟩
  case round =>
    obtain ⟨k, hk1, hk2, rfl, rfl, hO⟩ := hrel
    have HO := Lib.hid hO
    clear hO
    by_cases hlt : k < 2
    · have gk : (k : Int) < (2 : Nat) := by omega
      have HM := Lib.hid (rangeI_more hk1)
      have HLN : Hid ((rangeI 1 k).length ≤ 1000000000) := Lib.hid (by rw [rangeI_len]; omega)
      go_wp2_with (at_builtin; refine ownI_push rfl _ _ 25 rfl Tryz.underlying25 rfl (HO.out.next (bel1 _ _)) (k : Int) 1 _ rfl (heap_alloc_new _ _) HLN.out ?_; intro v5 w5 ho5 hg5; have HO5 := Lib.hid ho5; clear ho5 hg5)
      go_roundg (2 - (k + 1))
      case measure => omega
      case rel => exact ⟨k + 1, by omega, .inl (by omega), rfl, by go_num, by rw [HM.out]; exact HO5.out⟩
    · have HE : Hid (rangeI 1 k = rangeI 1 2) := Lib.hid (by
        by_cases h : k = 2
        · rw [h]
        · rw [rangeI_none (by omega), rangeI_none (by omega)])
      go_wp2_with fail
      refine bodyPost_ret (v := .tuple #[_, .int .i64 0]) (by simp [results, Tryz.results7, go_sem]; rfl) rfl ⟨_, rfl, ?_⟩
      have h := HO.out
      rw [HE.out] at h
      exact h.lower HB3.out.size (up HB3.out h.below)
set_option maxHeartbeats 4000000 in
set_option maxRecDepth 100000 in
theorem rkids_quant (t : T) (hd : ByteArray) (n : Nat) (hk3 : t.kd = 3) (hn : t.ks.length = n) (hn1 : 1 ≤ n) (hn2 : n ≤ 20001) (hh : headF t.form = hd) (e1 : inB hd.data.toList [] krow1.data.toList = false) (gmatch : (hd.toList == [109, 97, 116, 99, 104]) = false) (e2 : inB hd.data.toList [] krow2.data.toList = true) (w : World) (hin : In w t)
    (hX : ∀ W, Below w.heap.size w W → Calls Tryz.prog 30 #[t.val] W fun e w' => e = .returned (.int .i64 0) ∧ Below W.heap.size W w') :
    Calls Tryz.prog 7 #[t.val] w fun e w' => ∃ v, e = .returned (.tuple #[v, .int .i64 0]) ∧ OwnI w.heap.size w w' v (rangeI (n - 1) n) := by
  have H1 := Lib.hid fun (W : World) => in_val hd krow1 (by kernel_rfl) false e1 W
  have H2 := Lib.hid fun (W : World) => in_val hd krow2 (by kernel_rfl) true e2 W
  obtain ⟨⟨b, o, had, -⟩, -⟩ := hin.inL.at 0 (by omega)
  have HH := Lib.hid fun (W : World) (h : Below w.heap.size w W) => rhead_any t W (hin.below h)
  have HX := Lib.hid hX
  have hv : t.val = .agg #[.int .i64 3, .int .i64 t.nn, .string t.tx, .slice (some ⟨b, o, none⟩) n t.cp] := by rw [T.val, had, hk3, hn]
  rw [hh, hv] at HH
  rw [hv] at HX ⊢
  have hul := hin.ok.cp
  unfold maxLen at hul
  have HBX := Lib.hid fun (W : World) (h : Below (w.alloc (.cells #[.int .i64 3, .int .i64 t.nn, .string t.tx, .slice (some ⟨b, o, none⟩) n t.cp] 24)).heap.size (w.alloc (.cells #[.int .i64 3, .int .i64 t.nn, .string t.tx, .slice (some ⟨b, o, none⟩) n t.cp] 24)) W) => (⟨cell_block (j := 0) ((h.block w.heap.size (by simp)).trans (heap_alloc_new _ _)) rfl, cell_block (j := 1) ((h.block w.heap.size (by simp)).trans (heap_alloc_new _ _)) rfl, cell_block (j := 2) ((h.block w.heap.size (by simp)).trans (heap_alloc_new _ _)) rfl, cell_block (j := 3) ((h.block w.heap.size (by simp)).trans (heap_alloc_new _ _)) rfl⟩ : W.cell? ⟨w.heap.size, 0, none⟩ = some (.int .i64 3) ∧ W.cell? ⟨w.heap.size, 1, none⟩ = some (.int .i64 t.nn) ∧ W.cell? ⟨w.heap.size, 2, none⟩ = some (.string t.tx) ∧ W.cell? ⟨w.heap.size, 3, none⟩ = some (.slice (some ⟨b, o, none⟩) n t.cp))
  have HN1 := Lib.hid hn1
  clear hv hn hin hX hk3 hh had e1 e2
  go_enter Tryz.func7, Tryz.ntmps7
  go_wp2_with (first
    | (go_at_call 30; refine (HX.out _ (bel1 _ _)).mono ?_; rintro e w2 ⟨rfl, hB⟩; obtain ⟨b0, b1, b2, b3⟩ := HBX.out _ hB; have HBR := Lib.hid hB; have HB2 := Lib.hid (up (bel1 _ _) hB); clear hB)
    | (go_at_call 31; with_reducible refine (HH.out _ HB2.out).mono ?_; rintro e w3 ⟨rfl, hB⟩; obtain ⟨c0, c1, c2, c3⟩ := HBX.out _ (up HBR.out hB); have HBR3 := Lib.hid (up HBR.out hB); have HB3 := Lib.hid (up HB2.out hB); clear hB)
    | (go_at_call 32; with_reducible refine (H1.out _).mono ?_; rintro e wi1 ⟨rfl, rfl⟩)
    | (go_at_call 32; with_reducible refine (H2.out _).mono ?_; rintro e wi2 ⟨rfl, rfl⟩))
  go_loopg [8, 9] (n - (n - 1)) (fun m v i wr => ∃ k : Nat, (n - 1) ≤ k ∧ (k ≤ n ∨ k = (n - 1)) ∧ m = n - k ∧ i = .int .i64 k ∧ OwnI w3.heap.size w3 wr v (rangeI (n - 1) k))
  case atStart => exact ⟨(n - 1), Nat.le_refl _, .inr rfl, by omega, by first | rfl | (simp; done) | (congr 1; omega), by rw [rangeI_none (Nat.le_refl _)]; exact OwnI.start (Nat.le_refl _)⟩
  case round =>
    obtain ⟨k, hk1, hk2, rfl, rfl, hO⟩ := hrel
    have HO := Lib.hid hO
    clear hO
    by_cases hlt : k < n
    · have gk : (k : Int) < (n : Nat) := by omega
      have HM := Lib.hid (rangeI_more hk1)
      have HLN : Hid ((rangeI (n - 1) k).length ≤ 1000000000) := Lib.hid (by rw [rangeI_len]; omega)
      go_wp2_with (at_builtin; refine ownI_push rfl _ _ 25 rfl Tryz.underlying25 rfl (HO.out.next (bel1 _ _)) (k : Int) 1 _ rfl (heap_alloc_new _ _) HLN.out ?_; intro v5 w5 ho5 hg5; have HO5 := Lib.hid ho5; clear ho5 hg5)
      go_roundg (n - (k + 1))
      case measure => omega
      case rel => exact ⟨k + 1, by omega, .inl (by omega), rfl, by go_num, by rw [HM.out]; exact HO5.out⟩
    · have HE : Hid (rangeI (n - 1) k = rangeI (n - 1) n) := Lib.hid (by
        by_cases h : k = n
        · rw [h]
        · rw [rangeI_none (by omega), rangeI_none (by omega)])
      go_wp2_with fail
      refine bodyPost_ret (v := .tuple #[_, .int .i64 0]) (by simp [results, Tryz.results7, go_sem]; rfl) rfl ⟨_, rfl, ?_⟩
      have h := HO.out
      rw [HE.out] at h
      exact h.lower HB3.out.size (up HB3.out h.below)
set_option maxHeartbeats 4000000 in
set_option maxRecDepth 100000 in
theorem rkids_callS (t : T) (hd : ByteArray) (n : Nat) (hk3 : t.kd = 3) (hn : t.ks.length = n) (hn1 : 1 ≤ n) (hn2 : n ≤ 20001) (hh : headF t.form = hd) (e1 : inB hd.data.toList [] krow1.data.toList = false) (gmatch : (hd.toList == [109, 97, 116, 99, 104]) = false) (e2 : inB hd.data.toList [] krow2.data.toList = false) (e3 : inB hd.data.toList [] krow3.data.toList = true) (hs : n ≤ 2) (w : World) (hin : In w t)
    (hX : ∀ W, Below w.heap.size w W → Calls Tryz.prog 30 #[t.val] W fun e w' => e = .returned (.int .i64 0) ∧ Below W.heap.size W w') :
    Calls Tryz.prog 7 #[t.val] w fun e w' => ∃ v, e = .returned (.tuple #[v, .int .i64 0]) ∧ OwnI w.heap.size w w' v (rangeI 2 n) := by
  have H1 := Lib.hid fun (W : World) => in_val hd krow1 (by kernel_rfl) false e1 W
  have H2 := Lib.hid fun (W : World) => in_val hd krow2 (by kernel_rfl) false e2 W
  have H3 := Lib.hid fun (W : World) => in_val hd krow3 (by kernel_rfl) true e3 W
  obtain ⟨⟨b, o, had, -⟩, -⟩ := hin.inL.at 0 (by omega)
  have HH := Lib.hid fun (W : World) (h : Below w.heap.size w W) => rhead_any t W (hin.below h)
  have HX := Lib.hid hX
  have hv : t.val = .agg #[.int .i64 3, .int .i64 t.nn, .string t.tx, .slice (some ⟨b, o, none⟩) n t.cp] := by rw [T.val, had, hk3, hn]
  rw [hh, hv] at HH
  rw [hv] at HX ⊢
  have hul := hin.ok.cp
  unfold maxLen at hul
  have HBX := Lib.hid fun (W : World) (h : Below (w.alloc (.cells #[.int .i64 3, .int .i64 t.nn, .string t.tx, .slice (some ⟨b, o, none⟩) n t.cp] 24)).heap.size (w.alloc (.cells #[.int .i64 3, .int .i64 t.nn, .string t.tx, .slice (some ⟨b, o, none⟩) n t.cp] 24)) W) => (⟨cell_block (j := 0) ((h.block w.heap.size (by simp)).trans (heap_alloc_new _ _)) rfl, cell_block (j := 1) ((h.block w.heap.size (by simp)).trans (heap_alloc_new _ _)) rfl, cell_block (j := 2) ((h.block w.heap.size (by simp)).trans (heap_alloc_new _ _)) rfl, cell_block (j := 3) ((h.block w.heap.size (by simp)).trans (heap_alloc_new _ _)) rfl⟩ : W.cell? ⟨w.heap.size, 0, none⟩ = some (.int .i64 3) ∧ W.cell? ⟨w.heap.size, 1, none⟩ = some (.int .i64 t.nn) ∧ W.cell? ⟨w.heap.size, 2, none⟩ = some (.string t.tx) ∧ W.cell? ⟨w.heap.size, 3, none⟩ = some (.slice (some ⟨b, o, none⟩) n t.cp))
  have HN1 := Lib.hid hn1
  have gs : decide ((2 : Int) < (n : Int)) = false := by simp; omega
  have gs2 : decide (2 < n) = false := by simp; omega
  clear hv hn hin hX hk3 hh had e1 e2 e3
  go_enter Tryz.func7, Tryz.ntmps7
  go_wp2_with (first
    | (go_at_call 30; refine (HX.out _ (bel1 _ _)).mono ?_; rintro e w2 ⟨rfl, hB⟩; obtain ⟨b0, b1, b2, b3⟩ := HBX.out _ hB; have HBR := Lib.hid hB; have HB2 := Lib.hid (up (bel1 _ _) hB); clear hB)
    | (go_at_call 31; with_reducible refine (HH.out _ HB2.out).mono ?_; rintro e w3 ⟨rfl, hB⟩; obtain ⟨c0, c1, c2, c3⟩ := HBX.out _ (up HBR.out hB); have HBR3 := Lib.hid (up HBR.out hB); have HB3 := Lib.hid (up HB2.out hB); clear hB)
    | (go_at_call 32; with_reducible refine (H1.out _).mono ?_; rintro e wi1 ⟨rfl, rfl⟩)
    | (go_at_call 32; with_reducible refine (H2.out _).mono ?_; rintro e wi2 ⟨rfl, rfl⟩)
    | (go_at_call 32; with_reducible refine (H3.out _).mono ?_; rintro e wi3 ⟨rfl, rfl⟩))
  go_loopg [8, 9] (n - 2) (fun m v i wr => ∃ k : Nat, 2 ≤ k ∧ (k ≤ n ∨ k = 2) ∧ m = n - k ∧ i = .int .i64 k ∧ OwnI w3.heap.size w3 wr v (rangeI 2 k))
  case atStart => exact ⟨2, Nat.le_refl _, .inr rfl, by omega, by first | rfl | (simp; done) | (congr 1; omega), by rw [rangeI_none (Nat.le_refl _)]; exact OwnI.start (Nat.le_refl _)⟩
  case round =>
    obtain ⟨k, hk1, hk2, rfl, rfl, hO⟩ := hrel
    have HO := Lib.hid hO
    clear hO
    by_cases hlt : k < n
    · exfalso; omega
    · have HE : Hid (rangeI 2 k = rangeI 2 n) := Lib.hid (by
        by_cases h : k = n
        · rw [h]
        · rw [rangeI_none (by omega), rangeI_none (by omega)])
      go_wp2_with fail
      refine bodyPost_ret (v := .tuple #[_, .int .i64 0]) (by simp [results, Tryz.results7, go_sem]; rfl) rfl ⟨_, rfl, ?_⟩
      have h := HO.out
      rw [HE.out] at h
      exact h.lower HB3.out.size (up HB3.out h.below)
set_option maxHeartbeats 4000000 in
set_option maxRecDepth 100000 in
theorem rkids_callO (t : T) (hd : ByteArray) (n : Nat) (hk3 : t.kd = 3) (hn : t.ks.length = n) (hn1 : 1 ≤ n) (hn2 : n ≤ 20001) (hh : headF t.form = hd) (e1 : inB hd.data.toList [] krow1.data.toList = false) (gmatch : (hd.toList == [109, 97, 116, 99, 104]) = false) (e2 : inB hd.data.toList [] krow2.data.toList = false) (e3 : inB hd.data.toList [] krow3.data.toList = true) (u : T) (hdu : ByteArray) (hl : 2 < n) (hu : t.ks[2]'(by omega) = u) (hhu : headF u.form = hdu) (gu : (hdu.toList == [111, 102]) = true) (w : World) (hin : In w t)
    (hX : ∀ W, Below w.heap.size w W → Calls Tryz.prog 30 #[t.val] W fun e w' => e = .returned (.int .i64 0) ∧ Below W.heap.size W w') :
    Calls Tryz.prog 7 #[t.val] w fun e w' => ∃ v, e = .returned (.tuple #[v, .int .i64 0]) ∧ OwnI w.heap.size w w' v (rangeI 3 n) := by
  have H1 := Lib.hid fun (W : World) => in_val hd krow1 (by kernel_rfl) false e1 W
  have H2 := Lib.hid fun (W : World) => in_val hd krow2 (by kernel_rfl) false e2 W
  have H3 := Lib.hid fun (W : World) => in_val hd krow3 (by kernel_rfl) true e3 W
  obtain ⟨⟨b, o, had, -⟩, -⟩ := hin.inL.at 0 (by omega)
  have HH := Lib.hid fun (W : World) (h : Below w.heap.size w W) => rhead_any t W (hin.below h)
  have HX := Lib.hid hX
  obtain ⟨⟨b', o', had', v0, v1, v2, v3⟩, hinu⟩ := hin.inL.at 2 (by omega)
  rw [had] at had'
  injection had' with had'
  injection had' with q1 q2 q3
  subst q1 q2
  rw [hu] at v0 v1 v2 v3 hinu
  have lbu : b < w.heap.size := World.block_lt_of_cell? _ _ v0
  have HHU := Lib.hid fun (W : World) (h : Below w.heap.size w W) => rhead_any u W (hinu.below h)
  have HU := Lib.hid fun (W : World) (h : Below w.heap.size w W) => (⟨(h.cell (p := ⟨b, o + 2 * 4, none⟩) lbu).trans v0, (h.cell (p := ⟨b, o + 2 * 4 + 1, none⟩) lbu).trans v1, (h.cell (p := ⟨b, o + 2 * 4 + 2, none⟩) lbu).trans v2, (h.cell (p := ⟨b, o + 2 * 4 + 3, none⟩) lbu).trans v3⟩ : W.cell? ⟨b, o + 2 * 4, none⟩ = some (.int .i64 u.kd) ∧ W.cell? ⟨b, o + 2 * 4 + 1, none⟩ = some (.int .i64 u.nn) ∧ W.cell? ⟨b, o + 2 * 4 + 2, none⟩ = some (.string u.tx) ∧ W.cell? ⟨b, o + 2 * 4 + 3, none⟩ = some (.slice u.ad u.ks.length u.cp))
  rw [hhu] at HHU
  clear v0 v1 v2 v3 hinu hu hhu
  have hv : t.val = .agg #[.int .i64 3, .int .i64 t.nn, .string t.tx, .slice (some ⟨b, o, none⟩) n t.cp] := by rw [T.val, had, hk3, hn]
  rw [hh, hv] at HH
  rw [hv] at HX ⊢
  have hul := hin.ok.cp
  unfold maxLen at hul
  have HBX := Lib.hid fun (W : World) (h : Below (w.alloc (.cells #[.int .i64 3, .int .i64 t.nn, .string t.tx, .slice (some ⟨b, o, none⟩) n t.cp] 24)).heap.size (w.alloc (.cells #[.int .i64 3, .int .i64 t.nn, .string t.tx, .slice (some ⟨b, o, none⟩) n t.cp] 24)) W) => (⟨cell_block (j := 0) ((h.block w.heap.size (by simp)).trans (heap_alloc_new _ _)) rfl, cell_block (j := 1) ((h.block w.heap.size (by simp)).trans (heap_alloc_new _ _)) rfl, cell_block (j := 2) ((h.block w.heap.size (by simp)).trans (heap_alloc_new _ _)) rfl, cell_block (j := 3) ((h.block w.heap.size (by simp)).trans (heap_alloc_new _ _)) rfl⟩ : W.cell? ⟨w.heap.size, 0, none⟩ = some (.int .i64 3) ∧ W.cell? ⟨w.heap.size, 1, none⟩ = some (.int .i64 t.nn) ∧ W.cell? ⟨w.heap.size, 2, none⟩ = some (.string t.tx) ∧ W.cell? ⟨w.heap.size, 3, none⟩ = some (.slice (some ⟨b, o, none⟩) n t.cp))
  have HN1 := Lib.hid hn1
  have gs : (2 : Int) < (n : Int) := by omega
  clear hv hn hin hX hk3 hh had e1 e2 e3
  go_enter Tryz.func7, Tryz.ntmps7
  go_wp2_with (first
    | (go_at_call 30; refine (HX.out _ (bel1 _ _)).mono ?_; rintro e w2 ⟨rfl, hB⟩; obtain ⟨b0, b1, b2, b3⟩ := HBX.out _ hB; have HBR := Lib.hid hB; have HB2 := Lib.hid (up (bel1 _ _) hB); clear hB)
    | (go_at_call 31; with_reducible refine (HH.out _ HB2.out).mono ?_; rintro e w3 ⟨rfl, hB⟩; obtain ⟨c0, c1, c2, c3⟩ := HBX.out _ (up HBR.out hB); have HBR3 := Lib.hid (up HBR.out hB); have HB3 := Lib.hid (up HB2.out hB); obtain ⟨u0, u1, u2, u3⟩ := HU.out _ HB3.out; clear hB)
    | (go_at_call 31; with_reducible refine (HHU.out _ HB3.out).mono ?_; rintro e w4 ⟨rfl, hB⟩; obtain ⟨d0, d1, d2, d3⟩ := HBX.out _ (up HBR3.out hB); have HB4 := Lib.hid (up HB3.out hB); clear hB)
    | (go_at_call 32; with_reducible refine (H1.out _).mono ?_; rintro e wi1 ⟨rfl, rfl⟩)
    | (go_at_call 32; with_reducible refine (H2.out _).mono ?_; rintro e wi2 ⟨rfl, rfl⟩)
    | (go_at_call 32; with_reducible refine (H3.out _).mono ?_; rintro e wi3 ⟨rfl, rfl⟩))
  go_loopg [8, 9] (n - 3) (fun m v i wr => ∃ k : Nat, 3 ≤ k ∧ (k ≤ n ∨ k = 3) ∧ m = n - k ∧ i = .int .i64 k ∧ OwnI w4.heap.size w4 wr v (rangeI 3 k))
  case atStart => exact ⟨3, Nat.le_refl _, .inr rfl, by omega, by first | rfl | (simp; done) | (congr 1; omega), by rw [rangeI_none (Nat.le_refl _)]; exact OwnI.start (Nat.le_refl _)⟩
  case round =>
    obtain ⟨k, hk1, hk2, rfl, rfl, hO⟩ := hrel
    have HO := Lib.hid hO
    clear hO
    by_cases hlt : k < n
    · have gk : (k : Int) < (n : Nat) := by omega
      have HM := Lib.hid (rangeI_more hk1)
      have HLN : Hid ((rangeI 3 k).length ≤ 1000000000) := Lib.hid (by rw [rangeI_len]; omega)
      go_wp2_with (at_builtin; refine ownI_push rfl _ _ 25 rfl Tryz.underlying25 rfl (HO.out.next (bel1 _ _)) (k : Int) 1 _ rfl (heap_alloc_new _ _) HLN.out ?_; intro v5 w5 ho5 hg5; have HO5 := Lib.hid ho5; clear ho5 hg5)
      go_roundg (n - (k + 1))
      case measure => omega
      case rel => exact ⟨k + 1, by omega, .inl (by omega), rfl, by go_num, by rw [HM.out]; exact HO5.out⟩
    · have HE : Hid (rangeI 3 k = rangeI 3 n) := Lib.hid (by
        by_cases h : k = n
        · rw [h]
        · rw [rangeI_none (by omega), rangeI_none (by omega)])
      go_wp2_with fail
      refine bodyPost_ret (v := .tuple #[_, .int .i64 0]) (by simp [results, Tryz.results7, go_sem]; rfl) rfl ⟨_, rfl, ?_⟩
      have h := HO.out
      rw [HE.out] at h
      exact h.lower HB4.out.size (up HB4.out h.below)
set_option maxHeartbeats 4000000 in
set_option maxRecDepth 100000 in
theorem rkids_callP (t : T) (hd : ByteArray) (n : Nat) (hk3 : t.kd = 3) (hn : t.ks.length = n) (hn1 : 1 ≤ n) (hn2 : n ≤ 20001) (hh : headF t.form = hd) (e1 : inB hd.data.toList [] krow1.data.toList = false) (gmatch : (hd.toList == [109, 97, 116, 99, 104]) = false) (e2 : inB hd.data.toList [] krow2.data.toList = false) (e3 : inB hd.data.toList [] krow3.data.toList = true) (u : T) (hdu : ByteArray) (hl : 2 < n) (hu : t.ks[2]'(by omega) = u) (hhu : headF u.form = hdu) (gu : (hdu.toList == [111, 102]) = false) (w : World) (hin : In w t)
    (hX : ∀ W, Below w.heap.size w W → Calls Tryz.prog 30 #[t.val] W fun e w' => e = .returned (.int .i64 0) ∧ Below W.heap.size W w') :
    Calls Tryz.prog 7 #[t.val] w fun e w' => ∃ v, e = .returned (.tuple #[v, .int .i64 0]) ∧ OwnI w.heap.size w w' v (rangeI 2 n) := by
  have H1 := Lib.hid fun (W : World) => in_val hd krow1 (by kernel_rfl) false e1 W
  have H2 := Lib.hid fun (W : World) => in_val hd krow2 (by kernel_rfl) false e2 W
  have H3 := Lib.hid fun (W : World) => in_val hd krow3 (by kernel_rfl) true e3 W
  obtain ⟨⟨b, o, had, -⟩, -⟩ := hin.inL.at 0 (by omega)
  have HH := Lib.hid fun (W : World) (h : Below w.heap.size w W) => rhead_any t W (hin.below h)
  have HX := Lib.hid hX
  obtain ⟨⟨b', o', had', v0, v1, v2, v3⟩, hinu⟩ := hin.inL.at 2 (by omega)
  rw [had] at had'
  injection had' with had'
  injection had' with q1 q2 q3
  subst q1 q2
  rw [hu] at v0 v1 v2 v3 hinu
  have lbu : b < w.heap.size := World.block_lt_of_cell? _ _ v0
  have HHU := Lib.hid fun (W : World) (h : Below w.heap.size w W) => rhead_any u W (hinu.below h)
  have HU := Lib.hid fun (W : World) (h : Below w.heap.size w W) => (⟨(h.cell (p := ⟨b, o + 2 * 4, none⟩) lbu).trans v0, (h.cell (p := ⟨b, o + 2 * 4 + 1, none⟩) lbu).trans v1, (h.cell (p := ⟨b, o + 2 * 4 + 2, none⟩) lbu).trans v2, (h.cell (p := ⟨b, o + 2 * 4 + 3, none⟩) lbu).trans v3⟩ : W.cell? ⟨b, o + 2 * 4, none⟩ = some (.int .i64 u.kd) ∧ W.cell? ⟨b, o + 2 * 4 + 1, none⟩ = some (.int .i64 u.nn) ∧ W.cell? ⟨b, o + 2 * 4 + 2, none⟩ = some (.string u.tx) ∧ W.cell? ⟨b, o + 2 * 4 + 3, none⟩ = some (.slice u.ad u.ks.length u.cp))
  rw [hhu] at HHU
  clear v0 v1 v2 v3 hinu hu hhu
  have hv : t.val = .agg #[.int .i64 3, .int .i64 t.nn, .string t.tx, .slice (some ⟨b, o, none⟩) n t.cp] := by rw [T.val, had, hk3, hn]
  rw [hh, hv] at HH
  rw [hv] at HX ⊢
  have hul := hin.ok.cp
  unfold maxLen at hul
  have HBX := Lib.hid fun (W : World) (h : Below (w.alloc (.cells #[.int .i64 3, .int .i64 t.nn, .string t.tx, .slice (some ⟨b, o, none⟩) n t.cp] 24)).heap.size (w.alloc (.cells #[.int .i64 3, .int .i64 t.nn, .string t.tx, .slice (some ⟨b, o, none⟩) n t.cp] 24)) W) => (⟨cell_block (j := 0) ((h.block w.heap.size (by simp)).trans (heap_alloc_new _ _)) rfl, cell_block (j := 1) ((h.block w.heap.size (by simp)).trans (heap_alloc_new _ _)) rfl, cell_block (j := 2) ((h.block w.heap.size (by simp)).trans (heap_alloc_new _ _)) rfl, cell_block (j := 3) ((h.block w.heap.size (by simp)).trans (heap_alloc_new _ _)) rfl⟩ : W.cell? ⟨w.heap.size, 0, none⟩ = some (.int .i64 3) ∧ W.cell? ⟨w.heap.size, 1, none⟩ = some (.int .i64 t.nn) ∧ W.cell? ⟨w.heap.size, 2, none⟩ = some (.string t.tx) ∧ W.cell? ⟨w.heap.size, 3, none⟩ = some (.slice (some ⟨b, o, none⟩) n t.cp))
  have HN1 := Lib.hid hn1
  have gs : (2 : Int) < (n : Int) := by omega
  clear hv hn hin hX hk3 hh had e1 e2 e3
  go_enter Tryz.func7, Tryz.ntmps7
  go_wp2_with (first
    | (go_at_call 30; refine (HX.out _ (bel1 _ _)).mono ?_; rintro e w2 ⟨rfl, hB⟩; obtain ⟨b0, b1, b2, b3⟩ := HBX.out _ hB; have HBR := Lib.hid hB; have HB2 := Lib.hid (up (bel1 _ _) hB); clear hB)
    | (go_at_call 31; with_reducible refine (HH.out _ HB2.out).mono ?_; rintro e w3 ⟨rfl, hB⟩; obtain ⟨c0, c1, c2, c3⟩ := HBX.out _ (up HBR.out hB); have HBR3 := Lib.hid (up HBR.out hB); have HB3 := Lib.hid (up HB2.out hB); obtain ⟨u0, u1, u2, u3⟩ := HU.out _ HB3.out; clear hB)
    | (go_at_call 31; with_reducible refine (HHU.out _ HB3.out).mono ?_; rintro e w4 ⟨rfl, hB⟩; obtain ⟨d0, d1, d2, d3⟩ := HBX.out _ (up HBR3.out hB); have HB4 := Lib.hid (up HB3.out hB); clear hB)
    | (go_at_call 32; with_reducible refine (H1.out _).mono ?_; rintro e wi1 ⟨rfl, rfl⟩)
    | (go_at_call 32; with_reducible refine (H2.out _).mono ?_; rintro e wi2 ⟨rfl, rfl⟩)
    | (go_at_call 32; with_reducible refine (H3.out _).mono ?_; rintro e wi3 ⟨rfl, rfl⟩))
  go_loopg [8, 9] (n - 2) (fun m v i wr => ∃ k : Nat, 2 ≤ k ∧ (k ≤ n ∨ k = 2) ∧ m = n - k ∧ i = .int .i64 k ∧ OwnI w4.heap.size w4 wr v (rangeI 2 k))
  case atStart => exact ⟨2, Nat.le_refl _, .inr rfl, by omega, by first | rfl | (simp; done) | (congr 1; omega), by rw [rangeI_none (Nat.le_refl _)]; exact OwnI.start (Nat.le_refl _)⟩
  case round =>
    obtain ⟨k, hk1, hk2, rfl, rfl, hO⟩ := hrel
    have HO := Lib.hid hO
    clear hO
    by_cases hlt : k < n
    · have gk : (k : Int) < (n : Nat) := by omega
      have HM := Lib.hid (rangeI_more hk1)
      have HLN : Hid ((rangeI 2 k).length ≤ 1000000000) := Lib.hid (by rw [rangeI_len]; omega)
      go_wp2_with (at_builtin; refine ownI_push rfl _ _ 25 rfl Tryz.underlying25 rfl (HO.out.next (bel1 _ _)) (k : Int) 1 _ rfl (heap_alloc_new _ _) HLN.out ?_; intro v5 w5 ho5 hg5; have HO5 := Lib.hid ho5; clear ho5 hg5)
      go_roundg (n - (k + 1))
      case measure => omega
      case rel => exact ⟨k + 1, by omega, .inl (by omega), rfl, by go_num, by rw [HM.out]; exact HO5.out⟩
    · have HE : Hid (rangeI 2 k = rangeI 2 n) := Lib.hid (by
        by_cases h : k = n
        · rw [h]
        · rw [rangeI_none (by omega), rangeI_none (by omega)])
      go_wp2_with fail
      refine bodyPost_ret (v := .tuple #[_, .int .i64 0]) (by simp [results, Tryz.results7, go_sem]; rfl) rfl ⟨_, rfl, ?_⟩
      have h := HO.out
      rw [HE.out] at h
      exact h.lower HB4.out.size (up HB4.out h.below)
set_option maxHeartbeats 4000000 in
set_option maxRecDepth 100000 in
theorem rkids_old3 (t : T) (hd : ByteArray) (hk3 : t.kd = 3) (hn : t.ks.length = 3) (hn1 : 1 ≤ 3) (_hn2 : 3 ≤ 20001) (hh : headF t.form = hd) (e1 : inB hd.data.toList [] krow1.data.toList = false) (gmatch : (hd.toList == [109, 97, 116, 99, 104]) = false) (e2 : inB hd.data.toList [] krow2.data.toList = false) (e3 : inB hd.data.toList [] krow3.data.toList = false) (gold : (hd.toList == [111, 108, 100]) = true) (w : World) (hin : In w t)
    (hX : ∀ W, Below w.heap.size w W → Calls Tryz.prog 30 #[t.val] W fun e w' => e = .returned (.int .i64 0) ∧ Below W.heap.size W w') :
    Calls Tryz.prog 7 #[t.val] w fun e w' => ∃ v, e = .returned (.tuple #[v, .int .i64 0]) ∧ OwnI w.heap.size w w' v (rangeI 2 3) := by
  have H1 := Lib.hid fun (W : World) => in_val hd krow1 (by kernel_rfl) false e1 W
  have H2 := Lib.hid fun (W : World) => in_val hd krow2 (by kernel_rfl) false e2 W
  have H3 := Lib.hid fun (W : World) => in_val hd krow3 (by kernel_rfl) false e3 W
  obtain ⟨⟨b, o, had, -⟩, -⟩ := hin.inL.at 0 (by omega)
  have HH := Lib.hid fun (W : World) (h : Below w.heap.size w W) => rhead_any t W (hin.below h)
  have HX := Lib.hid hX
  have hv : t.val = .agg #[.int .i64 3, .int .i64 t.nn, .string t.tx, .slice (some ⟨b, o, none⟩) 3 t.cp] := by rw [T.val, had, hk3, hn]
  rw [hh, hv] at HH
  rw [hv] at HX ⊢
  have hul := hin.ok.cp
  unfold maxLen at hul
  have HBX := Lib.hid fun (W : World) (h : Below (w.alloc (.cells #[.int .i64 3, .int .i64 t.nn, .string t.tx, .slice (some ⟨b, o, none⟩) 3 t.cp] 24)).heap.size (w.alloc (.cells #[.int .i64 3, .int .i64 t.nn, .string t.tx, .slice (some ⟨b, o, none⟩) 3 t.cp] 24)) W) => (⟨cell_block (j := 0) ((h.block w.heap.size (by simp)).trans (heap_alloc_new _ _)) rfl, cell_block (j := 1) ((h.block w.heap.size (by simp)).trans (heap_alloc_new _ _)) rfl, cell_block (j := 2) ((h.block w.heap.size (by simp)).trans (heap_alloc_new _ _)) rfl, cell_block (j := 3) ((h.block w.heap.size (by simp)).trans (heap_alloc_new _ _)) rfl⟩ : W.cell? ⟨w.heap.size, 0, none⟩ = some (.int .i64 3) ∧ W.cell? ⟨w.heap.size, 1, none⟩ = some (.int .i64 t.nn) ∧ W.cell? ⟨w.heap.size, 2, none⟩ = some (.string t.tx) ∧ W.cell? ⟨w.heap.size, 3, none⟩ = some (.slice (some ⟨b, o, none⟩) 3 t.cp))
  have HN1 := Lib.hid hn1
  clear hv hn hin hX hk3 hh had e1 e2 e3
  go_enter Tryz.func7, Tryz.ntmps7
  go_wp2_with (first
    | (go_at_call 30; refine (HX.out _ (bel1 _ _)).mono ?_; rintro e w2 ⟨rfl, hB⟩; obtain ⟨b0, b1, b2, b3⟩ := HBX.out _ hB; have HBR := Lib.hid hB; have HB2 := Lib.hid (up (bel1 _ _) hB); clear hB)
    | (go_at_call 31; with_reducible refine (HH.out _ HB2.out).mono ?_; rintro e w3 ⟨rfl, hB⟩; obtain ⟨c0, c1, c2, c3⟩ := HBX.out _ (up HBR.out hB); have HBR3 := Lib.hid (up HBR.out hB); have HB3 := Lib.hid (up HB2.out hB); clear hB)
    | (go_at_call 32; with_reducible refine (H1.out _).mono ?_; rintro e wi1 ⟨rfl, rfl⟩)
    | (go_at_call 32; with_reducible refine (H2.out _).mono ?_; rintro e wi2 ⟨rfl, rfl⟩)
    | (go_at_call 32; with_reducible refine (H3.out _).mono ?_; rintro e wi3 ⟨rfl, rfl⟩))
  go_loopg [8, 9] (3 - 2) (fun m v i wr => ∃ k : Nat, 2 ≤ k ∧ (k ≤ 3 ∨ k = 2) ∧ m = 3 - k ∧ i = .int .i64 k ∧ OwnI w3.heap.size w3 wr v (rangeI 2 k))
  case atStart => exact ⟨2, Nat.le_refl _, .inr rfl, by omega, by first | rfl | (simp; done) | (congr 1; omega), by rw [rangeI_none (Nat.le_refl _)]; exact OwnI.start (Nat.le_refl _)⟩
  case round =>
    obtain ⟨k, hk1, hk2, rfl, rfl, hO⟩ := hrel
    have HO := Lib.hid hO
    clear hO
    by_cases hlt : k < 3
    · have gk : (k : Int) < (3 : Nat) := by omega
      have HM := Lib.hid (rangeI_more hk1)
      have HLN : Hid ((rangeI 2 k).length ≤ 1000000000) := Lib.hid (by rw [rangeI_len]; omega)
      go_wp2_with (at_builtin; refine ownI_push rfl _ _ 25 rfl Tryz.underlying25 rfl (HO.out.next (bel1 _ _)) (k : Int) 1 _ rfl (heap_alloc_new _ _) HLN.out ?_; intro v5 w5 ho5 hg5; have HO5 := Lib.hid ho5; clear ho5 hg5)
      go_roundg (3 - (k + 1))
      case measure => omega
      case rel => exact ⟨k + 1, by omega, .inl (by omega), rfl, by go_num, by rw [HM.out]; exact HO5.out⟩
    · have HE : Hid (rangeI 2 k = rangeI 2 3) := Lib.hid (by
        by_cases h : k = 3
        · rw [h]
        · rw [rangeI_none (by omega), rangeI_none (by omega)])
      go_wp2_with fail
      refine bodyPost_ret (v := .tuple #[_, .int .i64 0]) (by simp [results, Tryz.results7, go_sem]; rfl) rfl ⟨_, rfl, ?_⟩
      have h := HO.out
      rw [HE.out] at h
      exact h.lower HB3.out.size (up HB3.out h.below)
set_option maxHeartbeats 4000000 in
set_option maxRecDepth 100000 in
theorem rkids_old1 (t : T) (hd : ByteArray) (n : Nat) (hk3 : t.kd = 3) (hn : t.ks.length = n) (hn1 : 1 ≤ n) (hn2 : n ≤ 20001) (hh : headF t.form = hd) (e1 : inB hd.data.toList [] krow1.data.toList = false) (gmatch : (hd.toList == [109, 97, 116, 99, 104]) = false) (e2 : inB hd.data.toList [] krow2.data.toList = false) (e3 : inB hd.data.toList [] krow3.data.toList = false) (gold : (hd.toList == [111, 108, 100]) = true) (gfuel : (hd.toList == [102, 117, 101, 108]) = false) (e4 : inB hd.data.toList [] krow4.data.toList = false) (gimap : (hd.toList == [105, 109, 97, 112]) = false) (hl : n ≠ 3) (w : World) (hin : In w t)
    (hX : ∀ W, Below w.heap.size w W → Calls Tryz.prog 30 #[t.val] W fun e w' => e = .returned (.int .i64 0) ∧ Below W.heap.size W w') :
    Calls Tryz.prog 7 #[t.val] w fun e w' => ∃ v, e = .returned (.tuple #[v, .int .i64 0]) ∧ OwnI w.heap.size w w' v (rangeI 1 n) := by
  have H1 := Lib.hid fun (W : World) => in_val hd krow1 (by kernel_rfl) false e1 W
  have H2 := Lib.hid fun (W : World) => in_val hd krow2 (by kernel_rfl) false e2 W
  have H3 := Lib.hid fun (W : World) => in_val hd krow3 (by kernel_rfl) false e3 W
  have H4 := Lib.hid fun (W : World) => in_val hd krow4 (by kernel_rfl) false e4 W
  obtain ⟨⟨b, o, had, -⟩, -⟩ := hin.inL.at 0 (by omega)
  have HH := Lib.hid fun (W : World) (h : Below w.heap.size w W) => rhead_any t W (hin.below h)
  have HX := Lib.hid hX
  have hv : t.val = .agg #[.int .i64 3, .int .i64 t.nn, .string t.tx, .slice (some ⟨b, o, none⟩) n t.cp] := by rw [T.val, had, hk3, hn]
  rw [hh, hv] at HH
  rw [hv] at HX ⊢
  have hul := hin.ok.cp
  unfold maxLen at hul
  have HBX := Lib.hid fun (W : World) (h : Below (w.alloc (.cells #[.int .i64 3, .int .i64 t.nn, .string t.tx, .slice (some ⟨b, o, none⟩) n t.cp] 24)).heap.size (w.alloc (.cells #[.int .i64 3, .int .i64 t.nn, .string t.tx, .slice (some ⟨b, o, none⟩) n t.cp] 24)) W) => (⟨cell_block (j := 0) ((h.block w.heap.size (by simp)).trans (heap_alloc_new _ _)) rfl, cell_block (j := 1) ((h.block w.heap.size (by simp)).trans (heap_alloc_new _ _)) rfl, cell_block (j := 2) ((h.block w.heap.size (by simp)).trans (heap_alloc_new _ _)) rfl, cell_block (j := 3) ((h.block w.heap.size (by simp)).trans (heap_alloc_new _ _)) rfl⟩ : W.cell? ⟨w.heap.size, 0, none⟩ = some (.int .i64 3) ∧ W.cell? ⟨w.heap.size, 1, none⟩ = some (.int .i64 t.nn) ∧ W.cell? ⟨w.heap.size, 2, none⟩ = some (.string t.tx) ∧ W.cell? ⟨w.heap.size, 3, none⟩ = some (.slice (some ⟨b, o, none⟩) n t.cp))
  have HN1 := Lib.hid hn1
  have gs : ((n : Int) == 3) = false := by simp; omega
  clear hv hn hin hX hk3 hh had e1 e2 e3 e4
  go_enter Tryz.func7, Tryz.ntmps7
  go_wp2_with (first
    | (go_at_call 30; refine (HX.out _ (bel1 _ _)).mono ?_; rintro e w2 ⟨rfl, hB⟩; obtain ⟨b0, b1, b2, b3⟩ := HBX.out _ hB; have HBR := Lib.hid hB; have HB2 := Lib.hid (up (bel1 _ _) hB); clear hB)
    | (go_at_call 31; with_reducible refine (HH.out _ HB2.out).mono ?_; rintro e w3 ⟨rfl, hB⟩; obtain ⟨c0, c1, c2, c3⟩ := HBX.out _ (up HBR.out hB); have HBR3 := Lib.hid (up HBR.out hB); have HB3 := Lib.hid (up HB2.out hB); clear hB)
    | (go_at_call 32; with_reducible refine (H1.out _).mono ?_; rintro e wi1 ⟨rfl, rfl⟩)
    | (go_at_call 32; with_reducible refine (H2.out _).mono ?_; rintro e wi2 ⟨rfl, rfl⟩)
    | (go_at_call 32; with_reducible refine (H3.out _).mono ?_; rintro e wi3 ⟨rfl, rfl⟩)
    | (go_at_call 32; with_reducible refine (H4.out _).mono ?_; rintro e wi4 ⟨rfl, rfl⟩))
  go_loopg [8, 9] (n - 1) (fun m v i wr => ∃ k : Nat, 1 ≤ k ∧ (k ≤ n ∨ k = 1) ∧ m = n - k ∧ i = .int .i64 k ∧ OwnI w3.heap.size w3 wr v (rangeI 1 k))
  case atStart => exact ⟨1, Nat.le_refl _, .inr rfl, by omega, by first | rfl | (simp; done) | (congr 1; omega), by rw [rangeI_none (Nat.le_refl _)]; exact OwnI.start (Nat.le_refl _)⟩
  case round =>
    obtain ⟨k, hk1, hk2, rfl, rfl, hO⟩ := hrel
    have HO := Lib.hid hO
    clear hO
    by_cases hlt : k < n
    · have gk : (k : Int) < (n : Nat) := by omega
      have HM := Lib.hid (rangeI_more hk1)
      have HLN : Hid ((rangeI 1 k).length ≤ 1000000000) := Lib.hid (by rw [rangeI_len]; omega)
      go_wp2_with (at_builtin; refine ownI_push rfl _ _ 25 rfl Tryz.underlying25 rfl (HO.out.next (bel1 _ _)) (k : Int) 1 _ rfl (heap_alloc_new _ _) HLN.out ?_; intro v5 w5 ho5 hg5; have HO5 := Lib.hid ho5; clear ho5 hg5)
      go_roundg (n - (k + 1))
      case measure => omega
      case rel => exact ⟨k + 1, by omega, .inl (by omega), rfl, by go_num, by rw [HM.out]; exact HO5.out⟩
    · have HE : Hid (rangeI 1 k = rangeI 1 n) := Lib.hid (by
        by_cases h : k = n
        · rw [h]
        · rw [rangeI_none (by omega), rangeI_none (by omega)])
      go_wp2_with fail
      refine bodyPost_ret (v := .tuple #[_, .int .i64 0]) (by simp [results, Tryz.results7, go_sem]; rfl) rfl ⟨_, rfl, ?_⟩
      have h := HO.out
      rw [HE.out] at h
      exact h.lower HB3.out.size (up HB3.out h.below)
set_option maxHeartbeats 4000000 in
set_option maxRecDepth 100000 in
theorem rkids_fuel (t : T) (hd : ByteArray) (n : Nat) (hk3 : t.kd = 3) (hn : t.ks.length = n) (hn1 : 1 ≤ n) (hn2 : n ≤ 20001) (hh : headF t.form = hd) (e1 : inB hd.data.toList [] krow1.data.toList = false) (gmatch : (hd.toList == [109, 97, 116, 99, 104]) = false) (e2 : inB hd.data.toList [] krow2.data.toList = false) (e3 : inB hd.data.toList [] krow3.data.toList = false) (gold : (hd.toList == [111, 108, 100]) = false) (gfuel : (hd.toList == [102, 117, 101, 108]) = true) (w : World) (hin : In w t)
    (hX : ∀ W, Below w.heap.size w W → Calls Tryz.prog 30 #[t.val] W fun e w' => e = .returned (.int .i64 0) ∧ Below W.heap.size W w') :
    Calls Tryz.prog 7 #[t.val] w fun e w' => ∃ v, e = .returned (.tuple #[v, .int .i64 0]) ∧ OwnI w.heap.size w w' v (rangeI 3 n) := by
  have H1 := Lib.hid fun (W : World) => in_val hd krow1 (by kernel_rfl) false e1 W
  have H2 := Lib.hid fun (W : World) => in_val hd krow2 (by kernel_rfl) false e2 W
  have H3 := Lib.hid fun (W : World) => in_val hd krow3 (by kernel_rfl) false e3 W
  obtain ⟨⟨b, o, had, -⟩, -⟩ := hin.inL.at 0 (by omega)
  have HH := Lib.hid fun (W : World) (h : Below w.heap.size w W) => rhead_any t W (hin.below h)
  have HX := Lib.hid hX
  have hv : t.val = .agg #[.int .i64 3, .int .i64 t.nn, .string t.tx, .slice (some ⟨b, o, none⟩) n t.cp] := by rw [T.val, had, hk3, hn]
  rw [hh, hv] at HH
  rw [hv] at HX ⊢
  have hul := hin.ok.cp
  unfold maxLen at hul
  have HBX := Lib.hid fun (W : World) (h : Below (w.alloc (.cells #[.int .i64 3, .int .i64 t.nn, .string t.tx, .slice (some ⟨b, o, none⟩) n t.cp] 24)).heap.size (w.alloc (.cells #[.int .i64 3, .int .i64 t.nn, .string t.tx, .slice (some ⟨b, o, none⟩) n t.cp] 24)) W) => (⟨cell_block (j := 0) ((h.block w.heap.size (by simp)).trans (heap_alloc_new _ _)) rfl, cell_block (j := 1) ((h.block w.heap.size (by simp)).trans (heap_alloc_new _ _)) rfl, cell_block (j := 2) ((h.block w.heap.size (by simp)).trans (heap_alloc_new _ _)) rfl, cell_block (j := 3) ((h.block w.heap.size (by simp)).trans (heap_alloc_new _ _)) rfl⟩ : W.cell? ⟨w.heap.size, 0, none⟩ = some (.int .i64 3) ∧ W.cell? ⟨w.heap.size, 1, none⟩ = some (.int .i64 t.nn) ∧ W.cell? ⟨w.heap.size, 2, none⟩ = some (.string t.tx) ∧ W.cell? ⟨w.heap.size, 3, none⟩ = some (.slice (some ⟨b, o, none⟩) n t.cp))
  have HN1 := Lib.hid hn1
  clear hv hn hin hX hk3 hh had e1 e2 e3
  go_enter Tryz.func7, Tryz.ntmps7
  go_wp2_with (first
    | (go_at_call 30; refine (HX.out _ (bel1 _ _)).mono ?_; rintro e w2 ⟨rfl, hB⟩; obtain ⟨b0, b1, b2, b3⟩ := HBX.out _ hB; have HBR := Lib.hid hB; have HB2 := Lib.hid (up (bel1 _ _) hB); clear hB)
    | (go_at_call 31; with_reducible refine (HH.out _ HB2.out).mono ?_; rintro e w3 ⟨rfl, hB⟩; obtain ⟨c0, c1, c2, c3⟩ := HBX.out _ (up HBR.out hB); have HBR3 := Lib.hid (up HBR.out hB); have HB3 := Lib.hid (up HB2.out hB); clear hB)
    | (go_at_call 32; with_reducible refine (H1.out _).mono ?_; rintro e wi1 ⟨rfl, rfl⟩)
    | (go_at_call 32; with_reducible refine (H2.out _).mono ?_; rintro e wi2 ⟨rfl, rfl⟩)
    | (go_at_call 32; with_reducible refine (H3.out _).mono ?_; rintro e wi3 ⟨rfl, rfl⟩))
  go_loopg [8, 9] (n - 3) (fun m v i wr => ∃ k : Nat, 3 ≤ k ∧ (k ≤ n ∨ k = 3) ∧ m = n - k ∧ i = .int .i64 k ∧ OwnI w3.heap.size w3 wr v (rangeI 3 k))
  case atStart => exact ⟨3, Nat.le_refl _, .inr rfl, by omega, by first | rfl | (simp; done) | (congr 1; omega), by rw [rangeI_none (Nat.le_refl _)]; exact OwnI.start (Nat.le_refl _)⟩
  case round =>
    obtain ⟨k, hk1, hk2, rfl, rfl, hO⟩ := hrel
    have HO := Lib.hid hO
    clear hO
    by_cases hlt : k < n
    · have gk : (k : Int) < (n : Nat) := by omega
      have HM := Lib.hid (rangeI_more hk1)
      have HLN : Hid ((rangeI 3 k).length ≤ 1000000000) := Lib.hid (by rw [rangeI_len]; omega)
      go_wp2_with (at_builtin; refine ownI_push rfl _ _ 25 rfl Tryz.underlying25 rfl (HO.out.next (bel1 _ _)) (k : Int) 1 _ rfl (heap_alloc_new _ _) HLN.out ?_; intro v5 w5 ho5 hg5; have HO5 := Lib.hid ho5; clear ho5 hg5)
      go_roundg (n - (k + 1))
      case measure => omega
      case rel => exact ⟨k + 1, by omega, .inl (by omega), rfl, by go_num, by rw [HM.out]; exact HO5.out⟩
    · have HE : Hid (rangeI 3 k = rangeI 3 n) := Lib.hid (by
        by_cases h : k = n
        · rw [h]
        · rw [rangeI_none (by omega), rangeI_none (by omega)])
      go_wp2_with fail
      refine bodyPost_ret (v := .tuple #[_, .int .i64 0]) (by simp [results, Tryz.results7, go_sem]; rfl) rfl ⟨_, rfl, ?_⟩
      have h := HO.out
      rw [HE.out] at h
      exact h.lower HB3.out.size (up HB3.out h.below)
set_option maxHeartbeats 4000000 in
set_option maxRecDepth 100000 in
theorem rkids_none4 (t : T) (hd : ByteArray) (n : Nat) (hk3 : t.kd = 3) (hn : t.ks.length = n) (hn1 : 1 ≤ n) (hn2 : n ≤ 20001) (hh : headF t.form = hd) (e1 : inB hd.data.toList [] krow1.data.toList = false) (gmatch : (hd.toList == [109, 97, 116, 99, 104]) = false) (e2 : inB hd.data.toList [] krow2.data.toList = false) (e3 : inB hd.data.toList [] krow3.data.toList = false) (gold : (hd.toList == [111, 108, 100]) = false) (gfuel : (hd.toList == [102, 117, 101, 108]) = false) (e4 : inB hd.data.toList [] krow4.data.toList = true) (w : World) (hin : In w t)
    (hX : ∀ W, Below w.heap.size w W → Calls Tryz.prog 30 #[t.val] W fun e w' => e = .returned (.int .i64 0) ∧ Below W.heap.size W w') :
    Calls Tryz.prog 7 #[t.val] w fun e w' => ∃ v, e = .returned (.tuple #[v, .int .i64 0]) ∧ OwnI w.heap.size w w' v (rangeI n n) := by
  have H1 := Lib.hid fun (W : World) => in_val hd krow1 (by kernel_rfl) false e1 W
  have H2 := Lib.hid fun (W : World) => in_val hd krow2 (by kernel_rfl) false e2 W
  have H3 := Lib.hid fun (W : World) => in_val hd krow3 (by kernel_rfl) false e3 W
  have H4 := Lib.hid fun (W : World) => in_val hd krow4 (by kernel_rfl) true e4 W
  obtain ⟨⟨b, o, had, -⟩, -⟩ := hin.inL.at 0 (by omega)
  have HH := Lib.hid fun (W : World) (h : Below w.heap.size w W) => rhead_any t W (hin.below h)
  have HX := Lib.hid hX
  have hv : t.val = .agg #[.int .i64 3, .int .i64 t.nn, .string t.tx, .slice (some ⟨b, o, none⟩) n t.cp] := by rw [T.val, had, hk3, hn]
  rw [hh, hv] at HH
  rw [hv] at HX ⊢
  have hul := hin.ok.cp
  unfold maxLen at hul
  have HBX := Lib.hid fun (W : World) (h : Below (w.alloc (.cells #[.int .i64 3, .int .i64 t.nn, .string t.tx, .slice (some ⟨b, o, none⟩) n t.cp] 24)).heap.size (w.alloc (.cells #[.int .i64 3, .int .i64 t.nn, .string t.tx, .slice (some ⟨b, o, none⟩) n t.cp] 24)) W) => (⟨cell_block (j := 0) ((h.block w.heap.size (by simp)).trans (heap_alloc_new _ _)) rfl, cell_block (j := 1) ((h.block w.heap.size (by simp)).trans (heap_alloc_new _ _)) rfl, cell_block (j := 2) ((h.block w.heap.size (by simp)).trans (heap_alloc_new _ _)) rfl, cell_block (j := 3) ((h.block w.heap.size (by simp)).trans (heap_alloc_new _ _)) rfl⟩ : W.cell? ⟨w.heap.size, 0, none⟩ = some (.int .i64 3) ∧ W.cell? ⟨w.heap.size, 1, none⟩ = some (.int .i64 t.nn) ∧ W.cell? ⟨w.heap.size, 2, none⟩ = some (.string t.tx) ∧ W.cell? ⟨w.heap.size, 3, none⟩ = some (.slice (some ⟨b, o, none⟩) n t.cp))
  have HN1 := Lib.hid hn1
  clear hv hn hin hX hk3 hh had e1 e2 e3 e4
  go_enter Tryz.func7, Tryz.ntmps7
  go_wp2_with (first
    | (go_at_call 30; refine (HX.out _ (bel1 _ _)).mono ?_; rintro e w2 ⟨rfl, hB⟩; obtain ⟨b0, b1, b2, b3⟩ := HBX.out _ hB; have HBR := Lib.hid hB; have HB2 := Lib.hid (up (bel1 _ _) hB); clear hB)
    | (go_at_call 31; with_reducible refine (HH.out _ HB2.out).mono ?_; rintro e w3 ⟨rfl, hB⟩; obtain ⟨c0, c1, c2, c3⟩ := HBX.out _ (up HBR.out hB); have HBR3 := Lib.hid (up HBR.out hB); have HB3 := Lib.hid (up HB2.out hB); clear hB)
    | (go_at_call 32; with_reducible refine (H1.out _).mono ?_; rintro e wi1 ⟨rfl, rfl⟩)
    | (go_at_call 32; with_reducible refine (H2.out _).mono ?_; rintro e wi2 ⟨rfl, rfl⟩)
    | (go_at_call 32; with_reducible refine (H3.out _).mono ?_; rintro e wi3 ⟨rfl, rfl⟩)
    | (go_at_call 32; with_reducible refine (H4.out _).mono ?_; rintro e wi4 ⟨rfl, rfl⟩))
  go_loopg [8, 9] (n - n) (fun m v i wr => ∃ k : Nat, n ≤ k ∧ (k ≤ n ∨ k = n) ∧ m = n - k ∧ i = .int .i64 k ∧ OwnI w3.heap.size w3 wr v (rangeI n k))
  case atStart => exact ⟨n, Nat.le_refl _, .inr rfl, by omega, by first | rfl | (simp; done) | (congr 1; omega), by rw [rangeI_none (Nat.le_refl _)]; exact OwnI.start (Nat.le_refl _)⟩
  case round =>
    obtain ⟨k, hk1, hk2, rfl, rfl, hO⟩ := hrel
    have HO := Lib.hid hO
    clear hO
    by_cases hlt : k < n
    · exfalso; omega
    · have HE : Hid (rangeI n k = rangeI n n) := Lib.hid (by
        by_cases h : k = n
        · rw [h]
        · rw [rangeI_none (by omega), rangeI_none (by omega)])
      go_wp2_with fail
      refine bodyPost_ret (v := .tuple #[_, .int .i64 0]) (by simp [results, Tryz.results7, go_sem]; rfl) rfl ⟨_, rfl, ?_⟩
      have h := HO.out
      rw [HE.out] at h
      exact h.lower HB3.out.size (up HB3.out h.below)
set_option maxHeartbeats 4000000 in
set_option maxRecDepth 100000 in
theorem rkids_imap (t : T) (hd : ByteArray) (n : Nat) (hk3 : t.kd = 3) (hn : t.ks.length = n) (hn1 : 1 ≤ n) (hn2 : n ≤ 20001) (hh : headF t.form = hd) (e1 : inB hd.data.toList [] krow1.data.toList = false) (gmatch : (hd.toList == [109, 97, 116, 99, 104]) = false) (e2 : inB hd.data.toList [] krow2.data.toList = false) (e3 : inB hd.data.toList [] krow3.data.toList = false) (gold : (hd.toList == [111, 108, 100]) = false) (gfuel : (hd.toList == [102, 117, 101, 108]) = false) (e4 : inB hd.data.toList [] krow4.data.toList = false) (gimap : (hd.toList == [105, 109, 97, 112]) = true) (w : World) (hin : In w t)
    (hX : ∀ W, Below w.heap.size w W → Calls Tryz.prog 30 #[t.val] W fun e w' => e = .returned (.int .i64 0) ∧ Below W.heap.size W w') :
    Calls Tryz.prog 7 #[t.val] w fun e w' => ∃ v, e = .returned (.tuple #[v, .int .i64 0]) ∧ OwnI w.heap.size w w' v (rangeI 1 2) := by
  have H1 := Lib.hid fun (W : World) => in_val hd krow1 (by kernel_rfl) false e1 W
  have H2 := Lib.hid fun (W : World) => in_val hd krow2 (by kernel_rfl) false e2 W
  have H3 := Lib.hid fun (W : World) => in_val hd krow3 (by kernel_rfl) false e3 W
  have H4 := Lib.hid fun (W : World) => in_val hd krow4 (by kernel_rfl) false e4 W
  obtain ⟨⟨b, o, had, -⟩, -⟩ := hin.inL.at 0 (by omega)
  have HH := Lib.hid fun (W : World) (h : Below w.heap.size w W) => rhead_any t W (hin.below h)
  have HX := Lib.hid hX
  have hv : t.val = .agg #[.int .i64 3, .int .i64 t.nn, .string t.tx, .slice (some ⟨b, o, none⟩) n t.cp] := by rw [T.val, had, hk3, hn]
  rw [hh, hv] at HH
  rw [hv] at HX ⊢
  have hul := hin.ok.cp
  unfold maxLen at hul
  have HBX := Lib.hid fun (W : World) (h : Below (w.alloc (.cells #[.int .i64 3, .int .i64 t.nn, .string t.tx, .slice (some ⟨b, o, none⟩) n t.cp] 24)).heap.size (w.alloc (.cells #[.int .i64 3, .int .i64 t.nn, .string t.tx, .slice (some ⟨b, o, none⟩) n t.cp] 24)) W) => (⟨cell_block (j := 0) ((h.block w.heap.size (by simp)).trans (heap_alloc_new _ _)) rfl, cell_block (j := 1) ((h.block w.heap.size (by simp)).trans (heap_alloc_new _ _)) rfl, cell_block (j := 2) ((h.block w.heap.size (by simp)).trans (heap_alloc_new _ _)) rfl, cell_block (j := 3) ((h.block w.heap.size (by simp)).trans (heap_alloc_new _ _)) rfl⟩ : W.cell? ⟨w.heap.size, 0, none⟩ = some (.int .i64 3) ∧ W.cell? ⟨w.heap.size, 1, none⟩ = some (.int .i64 t.nn) ∧ W.cell? ⟨w.heap.size, 2, none⟩ = some (.string t.tx) ∧ W.cell? ⟨w.heap.size, 3, none⟩ = some (.slice (some ⟨b, o, none⟩) n t.cp))
  have HN1 := Lib.hid hn1
  clear hv hn hin hX hk3 hh had e1 e2 e3 e4
  go_enter Tryz.func7, Tryz.ntmps7
  go_wp2_with (first
    | (go_at_call 30; refine (HX.out _ (bel1 _ _)).mono ?_; rintro e w2 ⟨rfl, hB⟩; obtain ⟨b0, b1, b2, b3⟩ := HBX.out _ hB; have HBR := Lib.hid hB; have HB2 := Lib.hid (up (bel1 _ _) hB); clear hB)
    | (go_at_call 31; with_reducible refine (HH.out _ HB2.out).mono ?_; rintro e w3 ⟨rfl, hB⟩; obtain ⟨c0, c1, c2, c3⟩ := HBX.out _ (up HBR.out hB); have HBR3 := Lib.hid (up HBR.out hB); have HB3 := Lib.hid (up HB2.out hB); clear hB)
    | (go_at_call 32; with_reducible refine (H1.out _).mono ?_; rintro e wi1 ⟨rfl, rfl⟩)
    | (go_at_call 32; with_reducible refine (H2.out _).mono ?_; rintro e wi2 ⟨rfl, rfl⟩)
    | (go_at_call 32; with_reducible refine (H3.out _).mono ?_; rintro e wi3 ⟨rfl, rfl⟩)
    | (go_at_call 32; with_reducible refine (H4.out _).mono ?_; rintro e wi4 ⟨rfl, rfl⟩))
  go_loopg [8, 9] (2 - 1) (fun m v i wr => ∃ k : Nat, 1 ≤ k ∧ (k ≤ 2 ∨ k = 1) ∧ m = 2 - k ∧ i = .int .i64 k ∧ OwnI w3.heap.size w3 wr v (rangeI 1 k))
  case atStart => exact ⟨1, Nat.le_refl _, .inr rfl, by omega, by first | rfl | (simp; done) | (congr 1; omega), by rw [rangeI_none (Nat.le_refl _)]; exact OwnI.start (Nat.le_refl _)⟩
  case round =>
    obtain ⟨k, hk1, hk2, rfl, rfl, hO⟩ := hrel
    have HO := Lib.hid hO
    clear hO
    by_cases hlt : k < 2
    · have gk : (k : Int) < (2 : Nat) := by omega
      have HM := Lib.hid (rangeI_more hk1)
      have HLN : Hid ((rangeI 1 k).length ≤ 1000000000) := Lib.hid (by rw [rangeI_len]; omega)
      go_wp2_with (at_builtin; refine ownI_push rfl _ _ 25 rfl Tryz.underlying25 rfl (HO.out.next (bel1 _ _)) (k : Int) 1 _ rfl (heap_alloc_new _ _) HLN.out ?_; intro v5 w5 ho5 hg5; have HO5 := Lib.hid ho5; clear ho5 hg5)
      go_roundg (2 - (k + 1))
      case measure => omega
      case rel => exact ⟨k + 1, by omega, .inl (by omega), rfl, by go_num, by rw [HM.out]; exact HO5.out⟩
    · have HE : Hid (rangeI 1 k = rangeI 1 2) := Lib.hid (by
        by_cases h : k = 2
        · rw [h]
        · rw [rangeI_none (by omega), rangeI_none (by omega)])
      go_wp2_with fail
      refine bodyPost_ret (v := .tuple #[_, .int .i64 0]) (by simp [results, Tryz.results7, go_sem]; rfl) rfl ⟨_, rfl, ?_⟩
      have h := HO.out
      rw [HE.out] at h
      exact h.lower HB3.out.size (up HB3.out h.below)
set_option maxHeartbeats 4000000 in
set_option maxRecDepth 100000 in
theorem rkids_rest (t : T) (hd : ByteArray) (n : Nat) (hk3 : t.kd = 3) (hn : t.ks.length = n) (hn1 : 1 ≤ n) (hn2 : n ≤ 20001) (hh : headF t.form = hd) (e1 : inB hd.data.toList [] krow1.data.toList = false) (gmatch : (hd.toList == [109, 97, 116, 99, 104]) = false) (e2 : inB hd.data.toList [] krow2.data.toList = false) (e3 : inB hd.data.toList [] krow3.data.toList = false) (gold : (hd.toList == [111, 108, 100]) = false) (gfuel : (hd.toList == [102, 117, 101, 108]) = false) (e4 : inB hd.data.toList [] krow4.data.toList = false) (gimap : (hd.toList == [105, 109, 97, 112]) = false) (w : World) (hin : In w t)
    (hX : ∀ W, Below w.heap.size w W → Calls Tryz.prog 30 #[t.val] W fun e w' => e = .returned (.int .i64 0) ∧ Below W.heap.size W w') :
    Calls Tryz.prog 7 #[t.val] w fun e w' => ∃ v, e = .returned (.tuple #[v, .int .i64 0]) ∧ OwnI w.heap.size w w' v (rangeI 1 n) := by
  have H1 := Lib.hid fun (W : World) => in_val hd krow1 (by kernel_rfl) false e1 W
  have H2 := Lib.hid fun (W : World) => in_val hd krow2 (by kernel_rfl) false e2 W
  have H3 := Lib.hid fun (W : World) => in_val hd krow3 (by kernel_rfl) false e3 W
  have H4 := Lib.hid fun (W : World) => in_val hd krow4 (by kernel_rfl) false e4 W
  obtain ⟨⟨b, o, had, -⟩, -⟩ := hin.inL.at 0 (by omega)
  have HH := Lib.hid fun (W : World) (h : Below w.heap.size w W) => rhead_any t W (hin.below h)
  have HX := Lib.hid hX
  have hv : t.val = .agg #[.int .i64 3, .int .i64 t.nn, .string t.tx, .slice (some ⟨b, o, none⟩) n t.cp] := by rw [T.val, had, hk3, hn]
  rw [hh, hv] at HH
  rw [hv] at HX ⊢
  have hul := hin.ok.cp
  unfold maxLen at hul
  have HBX := Lib.hid fun (W : World) (h : Below (w.alloc (.cells #[.int .i64 3, .int .i64 t.nn, .string t.tx, .slice (some ⟨b, o, none⟩) n t.cp] 24)).heap.size (w.alloc (.cells #[.int .i64 3, .int .i64 t.nn, .string t.tx, .slice (some ⟨b, o, none⟩) n t.cp] 24)) W) => (⟨cell_block (j := 0) ((h.block w.heap.size (by simp)).trans (heap_alloc_new _ _)) rfl, cell_block (j := 1) ((h.block w.heap.size (by simp)).trans (heap_alloc_new _ _)) rfl, cell_block (j := 2) ((h.block w.heap.size (by simp)).trans (heap_alloc_new _ _)) rfl, cell_block (j := 3) ((h.block w.heap.size (by simp)).trans (heap_alloc_new _ _)) rfl⟩ : W.cell? ⟨w.heap.size, 0, none⟩ = some (.int .i64 3) ∧ W.cell? ⟨w.heap.size, 1, none⟩ = some (.int .i64 t.nn) ∧ W.cell? ⟨w.heap.size, 2, none⟩ = some (.string t.tx) ∧ W.cell? ⟨w.heap.size, 3, none⟩ = some (.slice (some ⟨b, o, none⟩) n t.cp))
  have HN1 := Lib.hid hn1
  clear hv hn hin hX hk3 hh had e1 e2 e3 e4
  go_enter Tryz.func7, Tryz.ntmps7
  go_wp2_with (first
    | (go_at_call 30; refine (HX.out _ (bel1 _ _)).mono ?_; rintro e w2 ⟨rfl, hB⟩; obtain ⟨b0, b1, b2, b3⟩ := HBX.out _ hB; have HBR := Lib.hid hB; have HB2 := Lib.hid (up (bel1 _ _) hB); clear hB)
    | (go_at_call 31; with_reducible refine (HH.out _ HB2.out).mono ?_; rintro e w3 ⟨rfl, hB⟩; obtain ⟨c0, c1, c2, c3⟩ := HBX.out _ (up HBR.out hB); have HBR3 := Lib.hid (up HBR.out hB); have HB3 := Lib.hid (up HB2.out hB); clear hB)
    | (go_at_call 32; with_reducible refine (H1.out _).mono ?_; rintro e wi1 ⟨rfl, rfl⟩)
    | (go_at_call 32; with_reducible refine (H2.out _).mono ?_; rintro e wi2 ⟨rfl, rfl⟩)
    | (go_at_call 32; with_reducible refine (H3.out _).mono ?_; rintro e wi3 ⟨rfl, rfl⟩)
    | (go_at_call 32; with_reducible refine (H4.out _).mono ?_; rintro e wi4 ⟨rfl, rfl⟩))
  go_loopg [8, 9] (n - 1) (fun m v i wr => ∃ k : Nat, 1 ≤ k ∧ (k ≤ n ∨ k = 1) ∧ m = n - k ∧ i = .int .i64 k ∧ OwnI w3.heap.size w3 wr v (rangeI 1 k))
  case atStart => exact ⟨1, Nat.le_refl _, .inr rfl, by omega, by first | rfl | (simp; done) | (congr 1; omega), by rw [rangeI_none (Nat.le_refl _)]; exact OwnI.start (Nat.le_refl _)⟩
  case round =>
    obtain ⟨k, hk1, hk2, rfl, rfl, hO⟩ := hrel
    have HO := Lib.hid hO
    clear hO
    by_cases hlt : k < n
    · have gk : (k : Int) < (n : Nat) := by omega
      have HM := Lib.hid (rangeI_more hk1)
      have HLN : Hid ((rangeI 1 k).length ≤ 1000000000) := Lib.hid (by rw [rangeI_len]; omega)
      go_wp2_with (at_builtin; refine ownI_push rfl _ _ 25 rfl Tryz.underlying25 rfl (HO.out.next (bel1 _ _)) (k : Int) 1 _ rfl (heap_alloc_new _ _) HLN.out ?_; intro v5 w5 ho5 hg5; have HO5 := Lib.hid ho5; clear ho5 hg5)
      go_roundg (n - (k + 1))
      case measure => omega
      case rel => exact ⟨k + 1, by omega, .inl (by omega), rfl, by go_num, by rw [HM.out]; exact HO5.out⟩
    · have HE : Hid (rangeI 1 k = rangeI 1 n) := Lib.hid (by
        by_cases h : k = n
        · rw [h]
        · rw [rangeI_none (by omega), rangeI_none (by omega)])
      go_wp2_with fail
      refine bodyPost_ret (v := .tuple #[_, .int .i64 0]) (by simp [results, Tryz.results7, go_sem]; rfl) rfl ⟨_, rfl, ?_⟩
      have h := HO.out
      rw [HE.out] at h
      exact h.lower HB3.out.size (up HB3.out h.below)
end Go.Proofs.YtmlfiopbdlaaaaaGreat
