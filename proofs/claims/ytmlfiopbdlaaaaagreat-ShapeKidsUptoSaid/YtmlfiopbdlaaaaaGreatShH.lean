/- reader.Head; slices.Contains of words; lists with a head; numbers. -/
import Derived.Test.YtmlfiopbdlaaaaaGreatSh7
namespace Go.Proofs.YtmlfiopbdlaaaaaGreat
open Go.RowKit Go.Deep
variable {S : Nat → Prop}

def headF (f : Fm) : ByteArray := match f.kids with
  | [] => ⟨#[]⟩
  | k :: _ => if k.kd = 1 then k.tx else ⟨#[]⟩
theorem headF_nil {f : Fm} (h : f.kids = []) : headF f = ⟨#[]⟩ := by unfold headF; rw [h]
theorem headF_cons {f k : Fm} {r : List Fm} (h : f.kids = k :: r) : headF f = if k.kd = 1 then k.tx else ⟨#[]⟩ := by unfold headF; rw [h]
theorem ret_strH {a b : ByteArray} (h : a = b) : Ending.returned (.string a) = .returned (.string b) := by rw [h]
set_option maxHeartbeats 1000000 in
theorem head_any (t : T) (w : World) (hin : In w t) :
    Calls Tryz.prog 50 #[t.val] w fun e w' => e = .returned (.string (headF t.form)) ∧ Below w.heap.size w w' := by
  obtain ⟨a, c, xs, hxs, hlen, hmem, hInL, hkids⟩ := kids_any t
  have hlen := hlen hin.ok
  unfold maxLen at hlen
  have HK := Lib.hid hkids
  have HI := Lib.hid hInL
  have HIN := Lib.hid hin
  clear hkids hInL hin hmem
  rcases xs with _ | ⟨x, r⟩
  · rw [headF_nil (by rw [← hxs]; rfl)]
    simp only [List.length_nil] at HK
    clear hxs hlen
    go_enter Tryz.func50, Tryz.ntmps50
    go_wp2_with (go_at_call 75; refine (HK.out _).mono ?_; rintro e w2 ⟨rfl, hB⟩; have HB := Lib.hid hB; clear hB)
    go_ret
    exact ⟨rfl, up (bel1 _ _) HB.out⟩
  · have hh : headF t.form = if x.kd = 1 then x.tx else ⟨#[]⟩ := by
      rw [headF_cons (k := x.form) (r := r.map T.form) (by rw [← hxs]; rfl), T.form_kd, T.form_tx]
    have HX : Hid (∀ w', In w' t → ∃ b o, a = some ⟨b, o, none⟩ ∧ Cells4 w' b o x) := Lib.hid fun w' h => by
      have h0 := (HI.out w' h).at 0 (by simp)
      obtain ⟨⟨b, o, e, hc⟩, _⟩ := h0
      exact ⟨b, o, e, by simpa using hc⟩
    obtain ⟨b, o, rfl, _⟩ := HX.out w HIN.out
    have HC : Hid (∀ w', In w' t → Cells4 w' b o x) := Lib.hid fun w' h => by
      obtain ⟨b', o', e, hc⟩ := HX.out w' h
      injection e with e
      injection e with e1 e2 e3
      subst e1 e2
      exact hc
    obtain ⟨n, hn⟩ : ∃ n : Nat, (x :: r).length = n + 1 := ⟨r.length, rfl⟩
    rw [hn] at HK hlen
    have hn0 : (((n : Int) + 1) == 0) = false := by simp; omega
    have hn1 : (0 : Int) < (n : Int) + 1 := by omega
    rw [hh]
    clear hh hxs HX hn
    by_cases h1 : x.kd = 1
    · rw [if_pos h1]
      have g1 : (x.kd != 1) = false := by simpa using h1
      clear h1
      go_enter Tryz.func50, Tryz.ntmps50
      go_wp2_with (go_at_call 75; refine (HK.out _).mono ?_; rintro e w2 ⟨rfl, hB⟩; obtain ⟨k0, k1, k2, k3⟩ := HC.out w2 ((HIN.out.alloc _).below hB); have HB := Lib.hid hB; clear hB)
      go_ret
      exact ⟨rfl, up (bel1 _ _) HB.out⟩
    · rw [if_neg h1]
      have g1 : (x.kd != 1) = true := by simpa using h1
      clear h1
      go_enter Tryz.func50, Tryz.ntmps50
      go_wp2_with (go_at_call 75; refine (HK.out _).mono ?_; rintro e w2 ⟨rfl, hB⟩; obtain ⟨k0, k1, k2, k3⟩ := HC.out w2 ((HIN.out.alloc _).below hB); have HB := Lib.hid hB; clear hB)
      go_ret
      exact ⟨rfl, up (bel1 _ _) HB.out⟩

inductive OD where
  | err (e : Int)
  | ok (f : Fm)
/-- Words side by side. -/
def Words (w : World) (b o : Nat) (hs : List ByteArray) : Prop := ∀ i (h : i < hs.length), w.cell? ⟨b, o + i, none⟩ = some (.string hs[i])
theorem Words.below {w w' : World} {b o : Nat} {hs : List ByteArray} (h : Words w b o hs) (hlt : b < w.heap.size) (hb : Below w.heap.size w w') : Words w' b o hs := fun i hi => (hb.cell (p := ⟨b, o + i, none⟩) hlt).trans (h i hi)
def memB (v : ByteArray) (hs : List ByteArray) : Bool := hs.any fun h => v.toList == h.toList
theorem index_any (b o c : Nat) (hs : List ByteArray) (v : ByteArray) (w : World) (hw : Words w b o hs) (hlen : hs.length ≤ 1000) :
    Calls Tryz.prog 175 #[.slice (some ⟨b, o, none⟩) hs.length c, .string v] w fun e w' => (∃ r : Int, e = .returned (.int .i64 r) ∧ (0 ≤ r ↔ memB v hs = true) ∧ r ≤ 1000 ∧ -1 ≤ r) ∧ Below w.heap.size w w' := by
  have HW := Lib.hid hw
  go_enter Tryz.func175, Tryz.ntmps175
  have HLN := Lib.hid hlen
  clear hw hlen
  go_wp2_with fail
  go_loopg [8] hs.length (fun q i wr => ∃ k : Nat, q = hs.length - k ∧ k ≤ hs.length ∧ i = .int .i64 k ∧ wr = w ∧ Hid (∀ j (h : j < hs.length), j < k → (v.toList == hs[j].toList) = false))
  case atStart => exact ⟨0, by omega, by omega, rfl, rfl, Lib.hid fun j _ h => absurd h (by omega)⟩
  case round =>
    obtain ⟨k, rfl, hk, rfl, rfl, HN⟩ := hrel
    by_cases hlt : k < hs.length
    · have hk1000 := HLN.out
      have HLT := Lib.hid hlt
      obtain ⟨y, hy⟩ : ∃ y, hs[k] = y := ⟨_, rfl⟩
      have HY := Lib.hid hy
      have x0 : wr.cell? ⟨b, o + k, none⟩ = some (.string y) := by rw [← hy]; exact HW.out k hlt
      clear hy
      cases g : (v.toList == y.toList) with
      | true =>
        have HE := Lib.hid g
        go_wp2_with fail
        refine bodyPost_ret (v := .int .i64 k) (by simp [results, Tryz.results175, go_sem]) rfl ⟨⟨(k : Int), rfl, ?_, by omega, by omega⟩, Below.refl _ _⟩
        exact ⟨fun _ => List.any_eq_true.2 ⟨_, List.getElem_mem HLT.out, (congrArg (fun z : ByteArray => v.toList == z.toList) HY.out).trans HE.out⟩, fun _ => by omega⟩
      | false =>
        have HE := Lib.hid g
        go_wp2_with fail
        go_roundg (hs.length - (k + 1))
        case measure => omega
        case rel =>
          refine ⟨k + 1, by omega, by omega, by go_num, rfl, Lib.hid fun j hj hjk => ?_⟩
          by_cases e : j = k
          · subst e; exact (congrArg (fun z : ByteArray => v.toList == z.toList) HY.out).trans HE.out
          · exact HN.out j hj (by omega)
    · go_wp2_with fail
      refine bodyPost_ret (v := .int .i64 (-1)) (by simp [results, Tryz.results175, go_sem]) rfl ⟨⟨-1, rfl, ⟨fun h => by omega, fun h => ?_⟩, by omega, by omega⟩, Below.refl _ _⟩
      obtain ⟨x, hx, e⟩ := List.any_eq_true.1 h
      obtain ⟨j, hj, rfl⟩ := List.getElem_of_mem hx
      exact absurd ((HN.out j hj (by omega)).symm.trans e) (by simp)
theorem contains_any (b o c : Nat) (hs : List ByteArray) (v : ByteArray) (w : World) (hw : Words w b o hs) (hlen : hs.length ≤ 1000) :
    Calls Tryz.prog 119 #[.slice (some ⟨b, o, none⟩) hs.length c, .string v] w fun e w' => e = .returned (.bool (memB v hs)) ∧ Below w.heap.size w w' := by
  have HI := Lib.hid (index_any b o c hs v w hw hlen)
  obtain ⟨k, hk⟩ : ∃ k, hs.length = k := ⟨_, rfl⟩
  rw [hk] at HI ⊢
  clear hw hlen hk
  go_enter Tryz.func119, Tryz.ntmps119
  go_wp2_with (go_at_call 175; refine HI.out.mono ?_; rintro e w2 ⟨⟨r, rfl, hr, -, -⟩, hB⟩; have HR := Lib.hid hr; have HB := Lib.hid hB; clear hr hB)
  refine bodyPost_ret (v := .bool (memB v hs)) ?_ rfl ⟨rfl, HB.out⟩
  have : decide (0 ≤ r) = memB v hs := by
    have := HR.out
    cases h : memB v hs <;> rw [h] at this <;> simp at this ⊢ <;> omega
  simp [results, Tryz.results119, go_sem, this]
theorem hasHead_any (t : T) (b o c : Nat) (hs : List ByteArray) (w : World) (hin : In w t) (hb : b < w.heap.size) (hw : Words w b o hs) (hlen : hs.length ≤ 1000) :
    Calls Tryz.prog 68 #[t.val, .slice (some ⟨b, o, none⟩) hs.length c] w fun e w' => e = .returned (.bool (memB (headF t.form) hs)) ∧ Below w.heap.size w w' := by
  have HIN := Lib.hid fun (W : World) (h : Below w.heap.size w W) => head_any t W (hin.below h)
  have HC := Lib.hid fun (W : World) (h : Below w.heap.size w W) => contains_any b o c hs (headF t.form) W (hw.below hb h) hlen
  obtain ⟨k, hk⟩ : ∃ k, hs.length = k := ⟨_, rfl⟩
  obtain ⟨r, hr⟩ : ∃ r, memB (headF t.form) hs = r := ⟨_, rfl⟩
  obtain ⟨hd, hhd⟩ : ∃ hd, headF t.form = hd := ⟨_, rfl⟩
  rw [hk, hr] at HC
  rw [hk, hr]
  rw [hhd] at HC HIN
  clear hin hb hw hlen hk hr hhd
  go_enter Tryz.func68, Tryz.ntmps68
  go_wp2_with (first
    | (go_at_call 50; refine (HIN.out _ (bel1 _ _)).mono ?_; rintro e w1 ⟨rfl, hB⟩; have HB := Lib.hid (up (bel1 _ _) hB); clear hB)
    | (go_at_call 119; refine (HC.out _ HB.out).mono ?_; rintro e w2 ⟨rfl, hB⟩; have HB2 := Lib.hid (up HB.out hB); clear hB))
  go_ret
  exact ⟨rfl, HB2.out⟩
/-- A number within bounds. -/
def numP (lo hi : Int) : PS := ⟨fun f => decide (f.kd = 0) && (decide (lo ≤ f.nn) && decide (f.nn ≤ hi)), none, false⟩
theorem aNumber1_any (t : T) (lo hi : Int) (B : Nat) (w : World) (h0 : w.heap[B]? = some (.cells #[.int .i64 lo] 3 (0, 0))) (h1 : w.heap[B + 1]? = some (.cells #[.int .i64 hi] 3 (0, 0))) :
    Calls Tryz.prog 156 #[t.val, .pointer (some ⟨B, 0, none⟩), .pointer (some ⟨B + 1, 0, none⟩)] w fun e w' => e = .returned (.bool ((numP lo hi).fits t.form)) ∧ Below w.heap.size w w' := by
  have x0 : w.cell? ⟨B, 0, none⟩ = some (.int .i64 lo) := cell_block h0 rfl
  have x1 : w.cell? ⟨B + 1, 0, none⟩ = some (.int .i64 hi) := cell_block h1 rfl
  have l0 := lt_of_block h0
  have l1 := lt_of_block h1
  have e : (numP lo hi).fits t.form = (decide (t.kd = 0) && (decide (lo ≤ t.nn) && decide (t.nn ≤ hi))) := by simp [numP, T.form_kd, T.form_nn]
  rw [e]
  clear e h0 h1
  by_cases g : t.kd = 0
  · have g0 : (t.kd == 0) = true := by simpa using g
    have g1 : decide (t.kd = 0) = true := by simpa using g
    rw [g1]
    clear g g1
    by_cases g2 : lo ≤ t.nn
    · have g3 : decide (lo ≤ t.nn) = true := by simpa using g2
      rw [g3]
      clear g3
      go_enter Tryz.func156, Tryz.ntmps156
      go_wp2_with fail
      go_ret
      exact ⟨by simp, bel1 _ _⟩
    · have g3 : decide (lo ≤ t.nn) = false := by simpa using g2
      rw [g3]
      clear g2
      go_enter Tryz.func156, Tryz.ntmps156
      go_wp2_with fail
      go_ret
      exact ⟨by simp, bel1 _ _⟩
  · have g0 : (t.kd == 0) = false := by simpa using g
    have g1 : decide (t.kd = 0) = false := by simpa using g
    rw [g1]
    clear g g1
    go_enter Tryz.func156, Tryz.ntmps156
    go_wp2_with fail
    go_ret
    exact ⟨by simp, bel1 _ _⟩
theorem enters_aNumber1 : Enters Tryz.prog 156 := enters_of Tryz.func156 (by kernel_rfl) rfl
theorem aNumber_any (n : Nat) (lo hi : Int) (w : World) (hS : ∀ b, S b → b < w.heap.size) : Calls Tryz.prog 95 #[.int .i64 lo, .int .i64 hi] w (fun e w' => PartEnd n S w w' (numP lo hi) e) := by
  have hmf : ∀ (fn : Fn) (first cap : Array Value) (w : World), (Instr.makeFunc fn first cap).run Tryz.prog w = .ok (.func fn first cap) w := fun _ _ _ _ => rfl
  have HS := Lib.hid hS
  clear hS
  go_enter Tryz.func95, Tryz.ntmps95
  go_wp2_with fail
  refine bodyPost_ret (v := .agg #[.func (.func 156) #[] #[.pointer (some ⟨w.heap.size, 0, none⟩), .pointer (some ⟨w.heap.size + 1, 0, none⟩)], .nilFunc, .bool false]) (by simp [results, Tryz.results95, go_sem]) rfl ⟨_, _, _, rfl, ⟨⟨_, _, rfl, enters_aNumber1, fun W hW _ t _ _ => ?_⟩, rfl, rfl⟩, bel3 _ _ _ _⟩
  have e1 : ∀ o o' o'' : Obj, (((w.alloc o).alloc o').alloc o'').heap[w.heap.size]? = some o := fun o o' o'' => (Below.heap_alloc _ _ _ (by simp; omega)).trans ((Below.heap_alloc _ _ _ (by simp)).trans (heap_alloc_new w o))
  have e2 : ∀ o o' o'' : Obj, (((w.alloc o).alloc o').alloc o'').heap[w.heap.size + 1]? = some o' := fun o o' o'' => (Below.heap_alloc _ _ _ (by simp)).trans (heap2 w o o')
  exact aNumber1_any t lo hi w.heap.size W ((hW.block _ (by simp; omega) (fun e => absurd (HS.out _ e) (by omega))).trans (e1 _ _ _)) ((hW.block _ (by simp) (fun e => absurd (HS.out _ e) (by omega))).trans (e2 _ _ _))
end Go.Proofs.YtmlfiopbdlaaaaaGreat
