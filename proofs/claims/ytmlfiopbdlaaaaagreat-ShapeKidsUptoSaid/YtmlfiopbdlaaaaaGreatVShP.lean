/- Where a list names what it calls. (Made by genpl.py.) -/
import Derived.Test.YtmlfiopbdlaaaaaGreatShH
namespace Go.Proofs.YtmlfiopbdlaaaaaGreat
open Go.RowKit Go.Deep
def firstL (f : Fm) : Bool := match f.ks with | _ :: k :: _ => decide (k.kd = 3) | _ => false
def placeF (f : Fm) : Int :=
  let h := (headF f).toList
  if h = [99, 97, 108, 108] then (if firstL f then 2 else 1) else if h = [112, 114, 101, 102, 105, 120] then 1 else if h = [102, 117, 101, 108] then 2 else if h = [108, 101, 109, 109, 97] then (if firstL f then 3 else 0) else 0
theorem place_short_call (t : T) (hd : ByteArray) (w : World) (hh : ∀ W, Below w.heap.size w W → Calls Tryz.prog 50 #[t.val] W fun e w' => e = .returned (.string hd) ∧ Below W.heap.size W w') (hl : t.ks.length ≤ 1) (hq : hd.toList = [99, 97, 108, 108]) : Calls Tryz.prog 63 #[t.val] w fun e w' => e = .returned (.int .i64 1) ∧ Below w.heap.size w w' := by
  have HH := Lib.hid hh
  clear hh
  have g8 : decide ((1 : Int) < (t.ks.length : Int)) = false := by simp; omega
  have g9 : decide (1 < t.ks.length) = false := by simp; omega
  clear hl
  go_enter Tryz.func63, Tryz.ntmps63
  go_wp2_with (first
    | (go_at_call 50; refine (HH.out _ (bel1 _ _)).mono ?_; rintro e w2 ⟨rfl, hB⟩; have HB := Lib.hid (up (bel1 _ _) hB); clear hB))
  go_ret
  exact ⟨rfl, HB.out⟩
theorem place_short_prefix (t : T) (hd : ByteArray) (w : World) (hh : ∀ W, Below w.heap.size w W → Calls Tryz.prog 50 #[t.val] W fun e w' => e = .returned (.string hd) ∧ Below W.heap.size W w') (hl : t.ks.length ≤ 1) (hq : hd.toList = [112, 114, 101, 102, 105, 120]) : Calls Tryz.prog 63 #[t.val] w fun e w' => e = .returned (.int .i64 1) ∧ Below w.heap.size w w' := by
  have HH := Lib.hid hh
  clear hh
  have g8 : decide ((1 : Int) < (t.ks.length : Int)) = false := by simp; omega
  have g9 : decide (1 < t.ks.length) = false := by simp; omega
  clear hl
  go_enter Tryz.func63, Tryz.ntmps63
  go_wp2_with (first
    | (go_at_call 50; refine (HH.out _ (bel1 _ _)).mono ?_; rintro e w2 ⟨rfl, hB⟩; have HB := Lib.hid (up (bel1 _ _) hB); clear hB))
  go_ret
  exact ⟨rfl, HB.out⟩
theorem place_short_fuel (t : T) (hd : ByteArray) (w : World) (hh : ∀ W, Below w.heap.size w W → Calls Tryz.prog 50 #[t.val] W fun e w' => e = .returned (.string hd) ∧ Below W.heap.size W w') (hl : t.ks.length ≤ 1) (hq : hd.toList = [102, 117, 101, 108]) : Calls Tryz.prog 63 #[t.val] w fun e w' => e = .returned (.int .i64 2) ∧ Below w.heap.size w w' := by
  have HH := Lib.hid hh
  clear hh
  have g8 : decide ((1 : Int) < (t.ks.length : Int)) = false := by simp; omega
  have g9 : decide (1 < t.ks.length) = false := by simp; omega
  clear hl
  go_enter Tryz.func63, Tryz.ntmps63
  go_wp2_with (first
    | (go_at_call 50; refine (HH.out _ (bel1 _ _)).mono ?_; rintro e w2 ⟨rfl, hB⟩; have HB := Lib.hid (up (bel1 _ _) hB); clear hB))
  go_ret
  exact ⟨rfl, HB.out⟩
theorem place_short_lemma (t : T) (hd : ByteArray) (w : World) (hh : ∀ W, Below w.heap.size w W → Calls Tryz.prog 50 #[t.val] W fun e w' => e = .returned (.string hd) ∧ Below W.heap.size W w') (hl : t.ks.length ≤ 1) (hq : hd.toList = [108, 101, 109, 109, 97]) : Calls Tryz.prog 63 #[t.val] w fun e w' => e = .returned (.int .i64 0) ∧ Below w.heap.size w w' := by
  have HH := Lib.hid hh
  clear hh
  have g8 : decide ((1 : Int) < (t.ks.length : Int)) = false := by simp; omega
  have g9 : decide (1 < t.ks.length) = false := by simp; omega
  clear hl
  go_enter Tryz.func63, Tryz.ntmps63
  go_wp2_with (first
    | (go_at_call 50; refine (HH.out _ (bel1 _ _)).mono ?_; rintro e w2 ⟨rfl, hB⟩; have HB := Lib.hid (up (bel1 _ _) hB); clear hB))
  go_ret
  exact ⟨rfl, HB.out⟩
theorem place_short_none (t : T) (hd : ByteArray) (w : World) (hh : ∀ W, Below w.heap.size w W → Calls Tryz.prog 50 #[t.val] W fun e w' => e = .returned (.string hd) ∧ Below W.heap.size W w') (hl : t.ks.length ≤ 1) (g0 : (hd.toList == [99, 97, 108, 108]) = false) (g1 : (hd.toList == [112, 114, 101, 102, 105, 120]) = false) (g2 : (hd.toList == [102, 117, 101, 108]) = false) (g3 : (hd.toList == [108, 101, 109, 109, 97]) = false) : Calls Tryz.prog 63 #[t.val] w fun e w' => e = .returned (.int .i64 0) ∧ Below w.heap.size w w' := by
  have HH := Lib.hid hh
  clear hh
  have g8 : decide ((1 : Int) < (t.ks.length : Int)) = false := by simp; omega
  have g9 : decide (1 < t.ks.length) = false := by simp; omega
  clear hl
  go_enter Tryz.func63, Tryz.ntmps63
  go_wp2_with (first
    | (go_at_call 50; refine (HH.out _ (bel1 _ _)).mono ?_; rintro e w2 ⟨rfl, hB⟩; have HB := Lib.hid (up (bel1 _ _) hB); clear hB))
  go_ret
  exact ⟨rfl, HB.out⟩
theorem place_yes_call (t : T) (hd : ByteArray) (w : World) (hh : ∀ W, Below w.heap.size w W → Calls Tryz.prog 50 #[t.val] W fun e w' => e = .returned (.string hd) ∧ Below W.heap.size W w') (hin : In w t) (x u : T) (r : List T) (hks : t.ks = x :: u :: r) (hu : u.kd = 3) (hq : hd.toList = [99, 97, 108, 108]) : Calls Tryz.prog 63 #[t.val] w fun e w' => e = .returned (.int .i64 2) ∧ Below w.heap.size w w' := by
  have HH := Lib.hid hh
  clear hh
  have hlf : listF u.form = true := by simp [listF, T.form_kd, hu]
  obtain ⟨⟨b, o, had, hc⟩, -⟩ := (hin.inL).at 1 (by rw [hks]; simp)
  have e : t.ks[1]'(by rw [hks]; simp) = u := by simp [hks]
  rw [e] at hc
  obtain ⟨x0, x1, x2, x3⟩ := hc
  have lb : b < w.heap.size := World.block_lt_of_cell? _ _ x0
  have hl : (x :: u :: r).length ≤ maxLen := by have := hin.ok; rw [← hks]; exact Nat.le_trans this.le this.cp
  unfold maxLen at hl
  have hl3 : r.length + 2 ≤ 2 ^ 63 - 1 := by simpa using hl
  have hval : t.val = .agg #[.int .i64 t.kd, .int .i64 t.nn, .string t.tx, .slice (some ⟨b, o, none⟩) (r.length + 2) t.cp] := by
    rw [T.val, had, hks]; rfl
  have g8 : (1 : Int) < (r.length : Int) + 2 := by omega
  have g9 : 1 < r.length + 2 := by omega
  have HI := Lib.hid fun (W : World) => (hlf ▸ isList_any u W : Calls Tryz.prog 62 #[u.val] W fun e w' => e = .returned (.bool true) ∧ Below W.heap.size W w')
  rw [hval] at HH ⊢
  clear hval had hin hks hu e hl hlf
  go_enter Tryz.func63, Tryz.ntmps63
  go_wp2_with (first
    | (go_at_call 62; refine (HI.out _).mono ?_; rintro e w1 ⟨rfl, hB⟩; have HB1 := Lib.hid (up (bel1 _ _) hB); obtain ⟨p0, p1, p2, p3⟩ : (w1.cell? ⟨w.heap.size, 0, none⟩ = some (.int .i64 t.kd) ∧ w1.cell? ⟨w.heap.size, 1, none⟩ = some (.int .i64 t.nn) ∧ w1.cell? ⟨w.heap.size, 2, none⟩ = some (.string t.tx) ∧ w1.cell? ⟨w.heap.size, 3, none⟩ = some (.slice (some ⟨b, o, none⟩) (r.length + 2) t.cp)) := ⟨cell_block ((hB.block w.heap.size (by simp)).trans (heap_alloc_new _ _)) rfl, cell_block ((hB.block w.heap.size (by simp)).trans (heap_alloc_new _ _)) rfl, cell_block ((hB.block w.heap.size (by simp)).trans (heap_alloc_new _ _)) rfl, cell_block ((hB.block w.heap.size (by simp)).trans (heap_alloc_new _ _)) rfl⟩; clear hB)
    | (go_at_call 50; refine (HH.out _ HB1.out).mono ?_; rintro e w2 ⟨rfl, hB⟩; have HB := Lib.hid (up HB1.out hB); clear hB))
  go_ret
  exact ⟨rfl, HB.out⟩
theorem place_yes_prefix (t : T) (hd : ByteArray) (w : World) (hh : ∀ W, Below w.heap.size w W → Calls Tryz.prog 50 #[t.val] W fun e w' => e = .returned (.string hd) ∧ Below W.heap.size W w') (hin : In w t) (x u : T) (r : List T) (hks : t.ks = x :: u :: r) (hu : u.kd = 3) (hq : hd.toList = [112, 114, 101, 102, 105, 120]) : Calls Tryz.prog 63 #[t.val] w fun e w' => e = .returned (.int .i64 1) ∧ Below w.heap.size w w' := by
  have HH := Lib.hid hh
  clear hh
  have hlf : listF u.form = true := by simp [listF, T.form_kd, hu]
  obtain ⟨⟨b, o, had, hc⟩, -⟩ := (hin.inL).at 1 (by rw [hks]; simp)
  have e : t.ks[1]'(by rw [hks]; simp) = u := by simp [hks]
  rw [e] at hc
  obtain ⟨x0, x1, x2, x3⟩ := hc
  have lb : b < w.heap.size := World.block_lt_of_cell? _ _ x0
  have hl : (x :: u :: r).length ≤ maxLen := by have := hin.ok; rw [← hks]; exact Nat.le_trans this.le this.cp
  unfold maxLen at hl
  have hl3 : r.length + 2 ≤ 2 ^ 63 - 1 := by simpa using hl
  have hval : t.val = .agg #[.int .i64 t.kd, .int .i64 t.nn, .string t.tx, .slice (some ⟨b, o, none⟩) (r.length + 2) t.cp] := by
    rw [T.val, had, hks]; rfl
  have g8 : (1 : Int) < (r.length : Int) + 2 := by omega
  have g9 : 1 < r.length + 2 := by omega
  have HI := Lib.hid fun (W : World) => (hlf ▸ isList_any u W : Calls Tryz.prog 62 #[u.val] W fun e w' => e = .returned (.bool true) ∧ Below W.heap.size W w')
  rw [hval] at HH ⊢
  clear hval had hin hks hu e hl hlf
  go_enter Tryz.func63, Tryz.ntmps63
  go_wp2_with (first
    | (go_at_call 62; refine (HI.out _).mono ?_; rintro e w1 ⟨rfl, hB⟩; have HB1 := Lib.hid (up (bel1 _ _) hB); obtain ⟨p0, p1, p2, p3⟩ : (w1.cell? ⟨w.heap.size, 0, none⟩ = some (.int .i64 t.kd) ∧ w1.cell? ⟨w.heap.size, 1, none⟩ = some (.int .i64 t.nn) ∧ w1.cell? ⟨w.heap.size, 2, none⟩ = some (.string t.tx) ∧ w1.cell? ⟨w.heap.size, 3, none⟩ = some (.slice (some ⟨b, o, none⟩) (r.length + 2) t.cp)) := ⟨cell_block ((hB.block w.heap.size (by simp)).trans (heap_alloc_new _ _)) rfl, cell_block ((hB.block w.heap.size (by simp)).trans (heap_alloc_new _ _)) rfl, cell_block ((hB.block w.heap.size (by simp)).trans (heap_alloc_new _ _)) rfl, cell_block ((hB.block w.heap.size (by simp)).trans (heap_alloc_new _ _)) rfl⟩; clear hB)
    | (go_at_call 50; refine (HH.out _ HB1.out).mono ?_; rintro e w2 ⟨rfl, hB⟩; have HB := Lib.hid (up HB1.out hB); clear hB))
  go_ret
  exact ⟨rfl, HB.out⟩
theorem place_yes_fuel (t : T) (hd : ByteArray) (w : World) (hh : ∀ W, Below w.heap.size w W → Calls Tryz.prog 50 #[t.val] W fun e w' => e = .returned (.string hd) ∧ Below W.heap.size W w') (hin : In w t) (x u : T) (r : List T) (hks : t.ks = x :: u :: r) (hu : u.kd = 3) (hq : hd.toList = [102, 117, 101, 108]) : Calls Tryz.prog 63 #[t.val] w fun e w' => e = .returned (.int .i64 2) ∧ Below w.heap.size w w' := by
  have HH := Lib.hid hh
  clear hh
  have hlf : listF u.form = true := by simp [listF, T.form_kd, hu]
  obtain ⟨⟨b, o, had, hc⟩, -⟩ := (hin.inL).at 1 (by rw [hks]; simp)
  have e : t.ks[1]'(by rw [hks]; simp) = u := by simp [hks]
  rw [e] at hc
  obtain ⟨x0, x1, x2, x3⟩ := hc
  have lb : b < w.heap.size := World.block_lt_of_cell? _ _ x0
  have hl : (x :: u :: r).length ≤ maxLen := by have := hin.ok; rw [← hks]; exact Nat.le_trans this.le this.cp
  unfold maxLen at hl
  have hl3 : r.length + 2 ≤ 2 ^ 63 - 1 := by simpa using hl
  have hval : t.val = .agg #[.int .i64 t.kd, .int .i64 t.nn, .string t.tx, .slice (some ⟨b, o, none⟩) (r.length + 2) t.cp] := by
    rw [T.val, had, hks]; rfl
  have g8 : (1 : Int) < (r.length : Int) + 2 := by omega
  have g9 : 1 < r.length + 2 := by omega
  have HI := Lib.hid fun (W : World) => (hlf ▸ isList_any u W : Calls Tryz.prog 62 #[u.val] W fun e w' => e = .returned (.bool true) ∧ Below W.heap.size W w')
  rw [hval] at HH ⊢
  clear hval had hin hks hu e hl hlf
  go_enter Tryz.func63, Tryz.ntmps63
  go_wp2_with (first
    | (go_at_call 62; refine (HI.out _).mono ?_; rintro e w1 ⟨rfl, hB⟩; have HB1 := Lib.hid (up (bel1 _ _) hB); obtain ⟨p0, p1, p2, p3⟩ : (w1.cell? ⟨w.heap.size, 0, none⟩ = some (.int .i64 t.kd) ∧ w1.cell? ⟨w.heap.size, 1, none⟩ = some (.int .i64 t.nn) ∧ w1.cell? ⟨w.heap.size, 2, none⟩ = some (.string t.tx) ∧ w1.cell? ⟨w.heap.size, 3, none⟩ = some (.slice (some ⟨b, o, none⟩) (r.length + 2) t.cp)) := ⟨cell_block ((hB.block w.heap.size (by simp)).trans (heap_alloc_new _ _)) rfl, cell_block ((hB.block w.heap.size (by simp)).trans (heap_alloc_new _ _)) rfl, cell_block ((hB.block w.heap.size (by simp)).trans (heap_alloc_new _ _)) rfl, cell_block ((hB.block w.heap.size (by simp)).trans (heap_alloc_new _ _)) rfl⟩; clear hB)
    | (go_at_call 50; refine (HH.out _ HB1.out).mono ?_; rintro e w2 ⟨rfl, hB⟩; have HB := Lib.hid (up HB1.out hB); clear hB))
  go_ret
  exact ⟨rfl, HB.out⟩
theorem place_yes_lemma (t : T) (hd : ByteArray) (w : World) (hh : ∀ W, Below w.heap.size w W → Calls Tryz.prog 50 #[t.val] W fun e w' => e = .returned (.string hd) ∧ Below W.heap.size W w') (hin : In w t) (x u : T) (r : List T) (hks : t.ks = x :: u :: r) (hu : u.kd = 3) (hq : hd.toList = [108, 101, 109, 109, 97]) : Calls Tryz.prog 63 #[t.val] w fun e w' => e = .returned (.int .i64 3) ∧ Below w.heap.size w w' := by
  have HH := Lib.hid hh
  clear hh
  have hlf : listF u.form = true := by simp [listF, T.form_kd, hu]
  obtain ⟨⟨b, o, had, hc⟩, -⟩ := (hin.inL).at 1 (by rw [hks]; simp)
  have e : t.ks[1]'(by rw [hks]; simp) = u := by simp [hks]
  rw [e] at hc
  obtain ⟨x0, x1, x2, x3⟩ := hc
  have lb : b < w.heap.size := World.block_lt_of_cell? _ _ x0
  have hl : (x :: u :: r).length ≤ maxLen := by have := hin.ok; rw [← hks]; exact Nat.le_trans this.le this.cp
  unfold maxLen at hl
  have hl3 : r.length + 2 ≤ 2 ^ 63 - 1 := by simpa using hl
  have hval : t.val = .agg #[.int .i64 t.kd, .int .i64 t.nn, .string t.tx, .slice (some ⟨b, o, none⟩) (r.length + 2) t.cp] := by
    rw [T.val, had, hks]; rfl
  have g8 : (1 : Int) < (r.length : Int) + 2 := by omega
  have g9 : 1 < r.length + 2 := by omega
  have HI := Lib.hid fun (W : World) => (hlf ▸ isList_any u W : Calls Tryz.prog 62 #[u.val] W fun e w' => e = .returned (.bool true) ∧ Below W.heap.size W w')
  rw [hval] at HH ⊢
  clear hval had hin hks hu e hl hlf
  go_enter Tryz.func63, Tryz.ntmps63
  go_wp2_with (first
    | (go_at_call 62; refine (HI.out _).mono ?_; rintro e w1 ⟨rfl, hB⟩; have HB1 := Lib.hid (up (bel1 _ _) hB); obtain ⟨p0, p1, p2, p3⟩ : (w1.cell? ⟨w.heap.size, 0, none⟩ = some (.int .i64 t.kd) ∧ w1.cell? ⟨w.heap.size, 1, none⟩ = some (.int .i64 t.nn) ∧ w1.cell? ⟨w.heap.size, 2, none⟩ = some (.string t.tx) ∧ w1.cell? ⟨w.heap.size, 3, none⟩ = some (.slice (some ⟨b, o, none⟩) (r.length + 2) t.cp)) := ⟨cell_block ((hB.block w.heap.size (by simp)).trans (heap_alloc_new _ _)) rfl, cell_block ((hB.block w.heap.size (by simp)).trans (heap_alloc_new _ _)) rfl, cell_block ((hB.block w.heap.size (by simp)).trans (heap_alloc_new _ _)) rfl, cell_block ((hB.block w.heap.size (by simp)).trans (heap_alloc_new _ _)) rfl⟩; clear hB)
    | (go_at_call 50; refine (HH.out _ HB1.out).mono ?_; rintro e w2 ⟨rfl, hB⟩; have HB := Lib.hid (up HB1.out hB); clear hB))
  go_ret
  exact ⟨rfl, HB.out⟩
theorem place_yes_none (t : T) (hd : ByteArray) (w : World) (hh : ∀ W, Below w.heap.size w W → Calls Tryz.prog 50 #[t.val] W fun e w' => e = .returned (.string hd) ∧ Below W.heap.size W w') (hin : In w t) (x u : T) (r : List T) (hks : t.ks = x :: u :: r) (hu : u.kd = 3) (g0 : (hd.toList == [99, 97, 108, 108]) = false) (g1 : (hd.toList == [112, 114, 101, 102, 105, 120]) = false) (g2 : (hd.toList == [102, 117, 101, 108]) = false) (g3 : (hd.toList == [108, 101, 109, 109, 97]) = false) : Calls Tryz.prog 63 #[t.val] w fun e w' => e = .returned (.int .i64 0) ∧ Below w.heap.size w w' := by
  have HH := Lib.hid hh
  clear hh
  have hlf : listF u.form = true := by simp [listF, T.form_kd, hu]
  obtain ⟨⟨b, o, had, hc⟩, -⟩ := (hin.inL).at 1 (by rw [hks]; simp)
  have e : t.ks[1]'(by rw [hks]; simp) = u := by simp [hks]
  rw [e] at hc
  obtain ⟨x0, x1, x2, x3⟩ := hc
  have lb : b < w.heap.size := World.block_lt_of_cell? _ _ x0
  have hl : (x :: u :: r).length ≤ maxLen := by have := hin.ok; rw [← hks]; exact Nat.le_trans this.le this.cp
  unfold maxLen at hl
  have hl3 : r.length + 2 ≤ 2 ^ 63 - 1 := by simpa using hl
  have hval : t.val = .agg #[.int .i64 t.kd, .int .i64 t.nn, .string t.tx, .slice (some ⟨b, o, none⟩) (r.length + 2) t.cp] := by
    rw [T.val, had, hks]; rfl
  have g8 : (1 : Int) < (r.length : Int) + 2 := by omega
  have g9 : 1 < r.length + 2 := by omega
  have HI := Lib.hid fun (W : World) => (hlf ▸ isList_any u W : Calls Tryz.prog 62 #[u.val] W fun e w' => e = .returned (.bool true) ∧ Below W.heap.size W w')
  rw [hval] at HH ⊢
  clear hval had hin hks hu e hl hlf
  go_enter Tryz.func63, Tryz.ntmps63
  go_wp2_with (first
    | (go_at_call 62; refine (HI.out _).mono ?_; rintro e w1 ⟨rfl, hB⟩; have HB1 := Lib.hid (up (bel1 _ _) hB); obtain ⟨p0, p1, p2, p3⟩ : (w1.cell? ⟨w.heap.size, 0, none⟩ = some (.int .i64 t.kd) ∧ w1.cell? ⟨w.heap.size, 1, none⟩ = some (.int .i64 t.nn) ∧ w1.cell? ⟨w.heap.size, 2, none⟩ = some (.string t.tx) ∧ w1.cell? ⟨w.heap.size, 3, none⟩ = some (.slice (some ⟨b, o, none⟩) (r.length + 2) t.cp)) := ⟨cell_block ((hB.block w.heap.size (by simp)).trans (heap_alloc_new _ _)) rfl, cell_block ((hB.block w.heap.size (by simp)).trans (heap_alloc_new _ _)) rfl, cell_block ((hB.block w.heap.size (by simp)).trans (heap_alloc_new _ _)) rfl, cell_block ((hB.block w.heap.size (by simp)).trans (heap_alloc_new _ _)) rfl⟩; clear hB)
    | (go_at_call 50; refine (HH.out _ HB1.out).mono ?_; rintro e w2 ⟨rfl, hB⟩; have HB := Lib.hid (up HB1.out hB); clear hB))
  go_ret
  exact ⟨rfl, HB.out⟩
theorem place_no_call (t : T) (hd : ByteArray) (w : World) (hh : ∀ W, Below w.heap.size w W → Calls Tryz.prog 50 #[t.val] W fun e w' => e = .returned (.string hd) ∧ Below W.heap.size W w') (hin : In w t) (x u : T) (r : List T) (hks : t.ks = x :: u :: r) (hu : u.kd ≠ 3) (hq : hd.toList = [99, 97, 108, 108]) : Calls Tryz.prog 63 #[t.val] w fun e w' => e = .returned (.int .i64 1) ∧ Below w.heap.size w w' := by
  have HH := Lib.hid hh
  clear hh
  have hlf : listF u.form = false := by simp [listF, T.form_kd, hu]
  obtain ⟨⟨b, o, had, hc⟩, -⟩ := (hin.inL).at 1 (by rw [hks]; simp)
  have e : t.ks[1]'(by rw [hks]; simp) = u := by simp [hks]
  rw [e] at hc
  obtain ⟨x0, x1, x2, x3⟩ := hc
  have lb : b < w.heap.size := World.block_lt_of_cell? _ _ x0
  have hl : (x :: u :: r).length ≤ maxLen := by have := hin.ok; rw [← hks]; exact Nat.le_trans this.le this.cp
  unfold maxLen at hl
  have hl3 : r.length + 2 ≤ 2 ^ 63 - 1 := by simpa using hl
  have hval : t.val = .agg #[.int .i64 t.kd, .int .i64 t.nn, .string t.tx, .slice (some ⟨b, o, none⟩) (r.length + 2) t.cp] := by
    rw [T.val, had, hks]; rfl
  have g8 : (1 : Int) < (r.length : Int) + 2 := by omega
  have g9 : 1 < r.length + 2 := by omega
  have HI := Lib.hid fun (W : World) => (hlf ▸ isList_any u W : Calls Tryz.prog 62 #[u.val] W fun e w' => e = .returned (.bool false) ∧ Below W.heap.size W w')
  rw [hval] at HH ⊢
  clear hval had hin hks hu e hl hlf
  go_enter Tryz.func63, Tryz.ntmps63
  go_wp2_with (first
    | (go_at_call 62; refine (HI.out _).mono ?_; rintro e w1 ⟨rfl, hB⟩; have HB1 := Lib.hid (up (bel1 _ _) hB); obtain ⟨p0, p1, p2, p3⟩ : (w1.cell? ⟨w.heap.size, 0, none⟩ = some (.int .i64 t.kd) ∧ w1.cell? ⟨w.heap.size, 1, none⟩ = some (.int .i64 t.nn) ∧ w1.cell? ⟨w.heap.size, 2, none⟩ = some (.string t.tx) ∧ w1.cell? ⟨w.heap.size, 3, none⟩ = some (.slice (some ⟨b, o, none⟩) (r.length + 2) t.cp)) := ⟨cell_block ((hB.block w.heap.size (by simp)).trans (heap_alloc_new _ _)) rfl, cell_block ((hB.block w.heap.size (by simp)).trans (heap_alloc_new _ _)) rfl, cell_block ((hB.block w.heap.size (by simp)).trans (heap_alloc_new _ _)) rfl, cell_block ((hB.block w.heap.size (by simp)).trans (heap_alloc_new _ _)) rfl⟩; clear hB)
    | (go_at_call 50; refine (HH.out _ HB1.out).mono ?_; rintro e w2 ⟨rfl, hB⟩; have HB := Lib.hid (up HB1.out hB); clear hB))
  go_ret
  exact ⟨rfl, HB.out⟩
theorem place_no_prefix (t : T) (hd : ByteArray) (w : World) (hh : ∀ W, Below w.heap.size w W → Calls Tryz.prog 50 #[t.val] W fun e w' => e = .returned (.string hd) ∧ Below W.heap.size W w') (hin : In w t) (x u : T) (r : List T) (hks : t.ks = x :: u :: r) (hu : u.kd ≠ 3) (hq : hd.toList = [112, 114, 101, 102, 105, 120]) : Calls Tryz.prog 63 #[t.val] w fun e w' => e = .returned (.int .i64 1) ∧ Below w.heap.size w w' := by
  have HH := Lib.hid hh
  clear hh
  have hlf : listF u.form = false := by simp [listF, T.form_kd, hu]
  obtain ⟨⟨b, o, had, hc⟩, -⟩ := (hin.inL).at 1 (by rw [hks]; simp)
  have e : t.ks[1]'(by rw [hks]; simp) = u := by simp [hks]
  rw [e] at hc
  obtain ⟨x0, x1, x2, x3⟩ := hc
  have lb : b < w.heap.size := World.block_lt_of_cell? _ _ x0
  have hl : (x :: u :: r).length ≤ maxLen := by have := hin.ok; rw [← hks]; exact Nat.le_trans this.le this.cp
  unfold maxLen at hl
  have hl3 : r.length + 2 ≤ 2 ^ 63 - 1 := by simpa using hl
  have hval : t.val = .agg #[.int .i64 t.kd, .int .i64 t.nn, .string t.tx, .slice (some ⟨b, o, none⟩) (r.length + 2) t.cp] := by
    rw [T.val, had, hks]; rfl
  have g8 : (1 : Int) < (r.length : Int) + 2 := by omega
  have g9 : 1 < r.length + 2 := by omega
  have HI := Lib.hid fun (W : World) => (hlf ▸ isList_any u W : Calls Tryz.prog 62 #[u.val] W fun e w' => e = .returned (.bool false) ∧ Below W.heap.size W w')
  rw [hval] at HH ⊢
  clear hval had hin hks hu e hl hlf
  go_enter Tryz.func63, Tryz.ntmps63
  go_wp2_with (first
    | (go_at_call 62; refine (HI.out _).mono ?_; rintro e w1 ⟨rfl, hB⟩; have HB1 := Lib.hid (up (bel1 _ _) hB); obtain ⟨p0, p1, p2, p3⟩ : (w1.cell? ⟨w.heap.size, 0, none⟩ = some (.int .i64 t.kd) ∧ w1.cell? ⟨w.heap.size, 1, none⟩ = some (.int .i64 t.nn) ∧ w1.cell? ⟨w.heap.size, 2, none⟩ = some (.string t.tx) ∧ w1.cell? ⟨w.heap.size, 3, none⟩ = some (.slice (some ⟨b, o, none⟩) (r.length + 2) t.cp)) := ⟨cell_block ((hB.block w.heap.size (by simp)).trans (heap_alloc_new _ _)) rfl, cell_block ((hB.block w.heap.size (by simp)).trans (heap_alloc_new _ _)) rfl, cell_block ((hB.block w.heap.size (by simp)).trans (heap_alloc_new _ _)) rfl, cell_block ((hB.block w.heap.size (by simp)).trans (heap_alloc_new _ _)) rfl⟩; clear hB)
    | (go_at_call 50; refine (HH.out _ HB1.out).mono ?_; rintro e w2 ⟨rfl, hB⟩; have HB := Lib.hid (up HB1.out hB); clear hB))
  go_ret
  exact ⟨rfl, HB.out⟩
theorem place_no_fuel (t : T) (hd : ByteArray) (w : World) (hh : ∀ W, Below w.heap.size w W → Calls Tryz.prog 50 #[t.val] W fun e w' => e = .returned (.string hd) ∧ Below W.heap.size W w') (hin : In w t) (x u : T) (r : List T) (hks : t.ks = x :: u :: r) (hu : u.kd ≠ 3) (hq : hd.toList = [102, 117, 101, 108]) : Calls Tryz.prog 63 #[t.val] w fun e w' => e = .returned (.int .i64 2) ∧ Below w.heap.size w w' := by
  have HH := Lib.hid hh
  clear hh
  have hlf : listF u.form = false := by simp [listF, T.form_kd, hu]
  obtain ⟨⟨b, o, had, hc⟩, -⟩ := (hin.inL).at 1 (by rw [hks]; simp)
  have e : t.ks[1]'(by rw [hks]; simp) = u := by simp [hks]
  rw [e] at hc
  obtain ⟨x0, x1, x2, x3⟩ := hc
  have lb : b < w.heap.size := World.block_lt_of_cell? _ _ x0
  have hl : (x :: u :: r).length ≤ maxLen := by have := hin.ok; rw [← hks]; exact Nat.le_trans this.le this.cp
  unfold maxLen at hl
  have hl3 : r.length + 2 ≤ 2 ^ 63 - 1 := by simpa using hl
  have hval : t.val = .agg #[.int .i64 t.kd, .int .i64 t.nn, .string t.tx, .slice (some ⟨b, o, none⟩) (r.length + 2) t.cp] := by
    rw [T.val, had, hks]; rfl
  have g8 : (1 : Int) < (r.length : Int) + 2 := by omega
  have g9 : 1 < r.length + 2 := by omega
  have HI := Lib.hid fun (W : World) => (hlf ▸ isList_any u W : Calls Tryz.prog 62 #[u.val] W fun e w' => e = .returned (.bool false) ∧ Below W.heap.size W w')
  rw [hval] at HH ⊢
  clear hval had hin hks hu e hl hlf
  go_enter Tryz.func63, Tryz.ntmps63
  go_wp2_with (first
    | (go_at_call 62; refine (HI.out _).mono ?_; rintro e w1 ⟨rfl, hB⟩; have HB1 := Lib.hid (up (bel1 _ _) hB); obtain ⟨p0, p1, p2, p3⟩ : (w1.cell? ⟨w.heap.size, 0, none⟩ = some (.int .i64 t.kd) ∧ w1.cell? ⟨w.heap.size, 1, none⟩ = some (.int .i64 t.nn) ∧ w1.cell? ⟨w.heap.size, 2, none⟩ = some (.string t.tx) ∧ w1.cell? ⟨w.heap.size, 3, none⟩ = some (.slice (some ⟨b, o, none⟩) (r.length + 2) t.cp)) := ⟨cell_block ((hB.block w.heap.size (by simp)).trans (heap_alloc_new _ _)) rfl, cell_block ((hB.block w.heap.size (by simp)).trans (heap_alloc_new _ _)) rfl, cell_block ((hB.block w.heap.size (by simp)).trans (heap_alloc_new _ _)) rfl, cell_block ((hB.block w.heap.size (by simp)).trans (heap_alloc_new _ _)) rfl⟩; clear hB)
    | (go_at_call 50; refine (HH.out _ HB1.out).mono ?_; rintro e w2 ⟨rfl, hB⟩; have HB := Lib.hid (up HB1.out hB); clear hB))
  go_ret
  exact ⟨rfl, HB.out⟩
theorem place_no_lemma (t : T) (hd : ByteArray) (w : World) (hh : ∀ W, Below w.heap.size w W → Calls Tryz.prog 50 #[t.val] W fun e w' => e = .returned (.string hd) ∧ Below W.heap.size W w') (hin : In w t) (x u : T) (r : List T) (hks : t.ks = x :: u :: r) (hu : u.kd ≠ 3) (hq : hd.toList = [108, 101, 109, 109, 97]) : Calls Tryz.prog 63 #[t.val] w fun e w' => e = .returned (.int .i64 0) ∧ Below w.heap.size w w' := by
  have HH := Lib.hid hh
  clear hh
  have hlf : listF u.form = false := by simp [listF, T.form_kd, hu]
  obtain ⟨⟨b, o, had, hc⟩, -⟩ := (hin.inL).at 1 (by rw [hks]; simp)
  have e : t.ks[1]'(by rw [hks]; simp) = u := by simp [hks]
  rw [e] at hc
  obtain ⟨x0, x1, x2, x3⟩ := hc
  have lb : b < w.heap.size := World.block_lt_of_cell? _ _ x0
  have hl : (x :: u :: r).length ≤ maxLen := by have := hin.ok; rw [← hks]; exact Nat.le_trans this.le this.cp
  unfold maxLen at hl
  have hl3 : r.length + 2 ≤ 2 ^ 63 - 1 := by simpa using hl
  have hval : t.val = .agg #[.int .i64 t.kd, .int .i64 t.nn, .string t.tx, .slice (some ⟨b, o, none⟩) (r.length + 2) t.cp] := by
    rw [T.val, had, hks]; rfl
  have g8 : (1 : Int) < (r.length : Int) + 2 := by omega
  have g9 : 1 < r.length + 2 := by omega
  have HI := Lib.hid fun (W : World) => (hlf ▸ isList_any u W : Calls Tryz.prog 62 #[u.val] W fun e w' => e = .returned (.bool false) ∧ Below W.heap.size W w')
  rw [hval] at HH ⊢
  clear hval had hin hks hu e hl hlf
  go_enter Tryz.func63, Tryz.ntmps63
  go_wp2_with (first
    | (go_at_call 62; refine (HI.out _).mono ?_; rintro e w1 ⟨rfl, hB⟩; have HB1 := Lib.hid (up (bel1 _ _) hB); obtain ⟨p0, p1, p2, p3⟩ : (w1.cell? ⟨w.heap.size, 0, none⟩ = some (.int .i64 t.kd) ∧ w1.cell? ⟨w.heap.size, 1, none⟩ = some (.int .i64 t.nn) ∧ w1.cell? ⟨w.heap.size, 2, none⟩ = some (.string t.tx) ∧ w1.cell? ⟨w.heap.size, 3, none⟩ = some (.slice (some ⟨b, o, none⟩) (r.length + 2) t.cp)) := ⟨cell_block ((hB.block w.heap.size (by simp)).trans (heap_alloc_new _ _)) rfl, cell_block ((hB.block w.heap.size (by simp)).trans (heap_alloc_new _ _)) rfl, cell_block ((hB.block w.heap.size (by simp)).trans (heap_alloc_new _ _)) rfl, cell_block ((hB.block w.heap.size (by simp)).trans (heap_alloc_new _ _)) rfl⟩; clear hB)
    | (go_at_call 50; refine (HH.out _ HB1.out).mono ?_; rintro e w2 ⟨rfl, hB⟩; have HB := Lib.hid (up HB1.out hB); clear hB))
  go_ret
  exact ⟨rfl, HB.out⟩
theorem place_no_none (t : T) (hd : ByteArray) (w : World) (hh : ∀ W, Below w.heap.size w W → Calls Tryz.prog 50 #[t.val] W fun e w' => e = .returned (.string hd) ∧ Below W.heap.size W w') (hin : In w t) (x u : T) (r : List T) (hks : t.ks = x :: u :: r) (hu : u.kd ≠ 3) (g0 : (hd.toList == [99, 97, 108, 108]) = false) (g1 : (hd.toList == [112, 114, 101, 102, 105, 120]) = false) (g2 : (hd.toList == [102, 117, 101, 108]) = false) (g3 : (hd.toList == [108, 101, 109, 109, 97]) = false) : Calls Tryz.prog 63 #[t.val] w fun e w' => e = .returned (.int .i64 0) ∧ Below w.heap.size w w' := by
  have HH := Lib.hid hh
  clear hh
  have hlf : listF u.form = false := by simp [listF, T.form_kd, hu]
  obtain ⟨⟨b, o, had, hc⟩, -⟩ := (hin.inL).at 1 (by rw [hks]; simp)
  have e : t.ks[1]'(by rw [hks]; simp) = u := by simp [hks]
  rw [e] at hc
  obtain ⟨x0, x1, x2, x3⟩ := hc
  have lb : b < w.heap.size := World.block_lt_of_cell? _ _ x0
  have hl : (x :: u :: r).length ≤ maxLen := by have := hin.ok; rw [← hks]; exact Nat.le_trans this.le this.cp
  unfold maxLen at hl
  have hl3 : r.length + 2 ≤ 2 ^ 63 - 1 := by simpa using hl
  have hval : t.val = .agg #[.int .i64 t.kd, .int .i64 t.nn, .string t.tx, .slice (some ⟨b, o, none⟩) (r.length + 2) t.cp] := by
    rw [T.val, had, hks]; rfl
  have g8 : (1 : Int) < (r.length : Int) + 2 := by omega
  have g9 : 1 < r.length + 2 := by omega
  have HI := Lib.hid fun (W : World) => (hlf ▸ isList_any u W : Calls Tryz.prog 62 #[u.val] W fun e w' => e = .returned (.bool false) ∧ Below W.heap.size W w')
  rw [hval] at HH ⊢
  clear hval had hin hks hu e hl hlf
  go_enter Tryz.func63, Tryz.ntmps63
  go_wp2_with (first
    | (go_at_call 62; refine (HI.out _).mono ?_; rintro e w1 ⟨rfl, hB⟩; have HB1 := Lib.hid (up (bel1 _ _) hB); obtain ⟨p0, p1, p2, p3⟩ : (w1.cell? ⟨w.heap.size, 0, none⟩ = some (.int .i64 t.kd) ∧ w1.cell? ⟨w.heap.size, 1, none⟩ = some (.int .i64 t.nn) ∧ w1.cell? ⟨w.heap.size, 2, none⟩ = some (.string t.tx) ∧ w1.cell? ⟨w.heap.size, 3, none⟩ = some (.slice (some ⟨b, o, none⟩) (r.length + 2) t.cp)) := ⟨cell_block ((hB.block w.heap.size (by simp)).trans (heap_alloc_new _ _)) rfl, cell_block ((hB.block w.heap.size (by simp)).trans (heap_alloc_new _ _)) rfl, cell_block ((hB.block w.heap.size (by simp)).trans (heap_alloc_new _ _)) rfl, cell_block ((hB.block w.heap.size (by simp)).trans (heap_alloc_new _ _)) rfl⟩; clear hB)
    | (go_at_call 50; refine (HH.out _ HB1.out).mono ?_; rintro e w2 ⟨rfl, hB⟩; have HB := Lib.hid (up HB1.out hB); clear hB))
  go_ret
  exact ⟨rfl, HB.out⟩
theorem place_any (t : T) (w : World) (hin : In w t) : Calls Tryz.prog 63 #[t.val] w fun e w' => e = .returned (.int .i64 (placeF t.form)) ∧ Below w.heap.size w w' := by
  have hh : ∀ W, Below w.heap.size w W → Calls Tryz.prog 50 #[t.val] W fun e w' => e = .returned (.string (headF t.form)) ∧ Below W.heap.size W w' := fun W h => head_any t W (hin.below h)
  have hf := T.form_ks t
  have hne : ∀ l : List UInt8, ¬ (headF t.form).toList = l → ((headF t.form).toList == l) = false := fun l h => by simpa using h
  by_cases hs : t.ks.length ≤ 1
  · have e : firstL t.form = false := by
      unfold firstL; rw [hf]
      match h' : t.ks, hs with
      | [], _ => rfl
      | [_], _ => rfl
    unfold placeF
    rw [e]
    dsimp only
    by_cases h1 : (headF t.form).toList = [99, 97, 108, 108]
    · rw [if_pos h1]; exact place_short_call t _ w hh hs h1
    rw [if_neg h1]
    by_cases h2 : (headF t.form).toList = [112, 114, 101, 102, 105, 120]
    · rw [if_pos h2]; exact place_short_prefix t _ w hh hs h2
    rw [if_neg h2]
    by_cases h3 : (headF t.form).toList = [102, 117, 101, 108]
    · rw [if_pos h3]; exact place_short_fuel t _ w hh hs h3
    rw [if_neg h3]
    by_cases h4 : (headF t.form).toList = [108, 101, 109, 109, 97]
    · rw [if_pos h4]; exact place_short_lemma t _ w hh hs h4
    rw [if_neg h4]
    exact place_short_none t _ w hh hs (hne _ h1) (hne _ h2) (hne _ h3) (hne _ h4)
  · obtain ⟨x, u, r, hks⟩ : ∃ x u r, t.ks = x :: u :: r := by
      match h' : t.ks, hs with
      | x :: u :: r, _ => exact ⟨x, u, r, rfl⟩
      | [], h => simp at h
      | [_], h => simp at h
    have e : firstL t.form = decide (u.kd = 3) := by unfold firstL; rw [hf, hks, ← T.form_kd]; rfl
    by_cases hu : u.kd = 3
    · rw [show decide (u.kd = 3) = true by simpa using hu] at e
      unfold placeF
      rw [e]
      dsimp only
      by_cases h1 : (headF t.form).toList = [99, 97, 108, 108]
      · rw [if_pos h1]; exact place_yes_call t _ w hh hin x u r hks hu h1
      rw [if_neg h1]
      by_cases h2 : (headF t.form).toList = [112, 114, 101, 102, 105, 120]
      · rw [if_pos h2]; exact place_yes_prefix t _ w hh hin x u r hks hu h2
      rw [if_neg h2]
      by_cases h3 : (headF t.form).toList = [102, 117, 101, 108]
      · rw [if_pos h3]; exact place_yes_fuel t _ w hh hin x u r hks hu h3
      rw [if_neg h3]
      by_cases h4 : (headF t.form).toList = [108, 101, 109, 109, 97]
      · rw [if_pos h4]; exact place_yes_lemma t _ w hh hin x u r hks hu h4
      rw [if_neg h4]
      exact place_yes_none t _ w hh hin x u r hks hu (hne _ h1) (hne _ h2) (hne _ h3) (hne _ h4)
    · rw [show decide (u.kd = 3) = false by simpa using hu] at e
      unfold placeF
      rw [e]
      dsimp only
      by_cases h1 : (headF t.form).toList = [99, 97, 108, 108]
      · rw [if_pos h1]; exact place_no_call t _ w hh hin x u r hks hu h1
      rw [if_neg h1]
      by_cases h2 : (headF t.form).toList = [112, 114, 101, 102, 105, 120]
      · rw [if_pos h2]; exact place_no_prefix t _ w hh hin x u r hks hu h2
      rw [if_neg h2]
      by_cases h3 : (headF t.form).toList = [102, 117, 101, 108]
      · rw [if_pos h3]; exact place_no_fuel t _ w hh hin x u r hks hu h3
      rw [if_neg h3]
      by_cases h4 : (headF t.form).toList = [108, 101, 109, 109, 97]
      · rw [if_pos h4]; exact place_no_lemma t _ w hh hin x u r hks hu h4
      rw [if_neg h4]
      exact place_no_none t _ w hh hin x u r hks hu (hne _ h1) (hne _ h2) (hne _ h3) (hne _ h4)
end Go.Proofs.YtmlfiopbdlaaaaaGreat
