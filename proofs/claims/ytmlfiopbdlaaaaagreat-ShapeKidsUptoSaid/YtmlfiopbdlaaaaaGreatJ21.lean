/- Several texts, one behind the other. -/
import Derived.Test.YtmlfiopbdlaaaaaGreatVShQ
import Derived.Test.YtmlfiopbdlaaaaaGreatVNSort
import Derived.Test.YtmlfiopbdlaaaaaGreatVRVal
import Derived.Lib.SlicesCompact
import Derived.Lib.RowBridge
import Derived.Test.YtmlfiopbdlaaaaaGreatShelfB
import Derived.Sort.OwnSorted
namespace Go.Proofs.YtmlfiopbdlaaaaaGreat
open Go.RowKit Go.Deep
def oneL : Option ByteArray → List (List UInt8)
  | some d => [d.data.toList]
  | none => []
mutual
def callsF : Fm → List (List UInt8)
  | .mk k n s ks => if k = 3 then oneL (calledF (.mk k n s ks)) ++ callsL ks else []
def callsL : List Fm → List (List UInt8)
  | [] => []
  | f :: fs => callsF f ++ callsL fs
end
theorem callsF_eq (f : Fm) : callsF f = if f.kd = 3 then oneL (calledF f) ++ callsL f.ks else [] := by
  cases f; simp only [callsF, Fm.kd, Fm.ks]; rfl
theorem callsL_append : ∀ a b : List Fm, callsL (a ++ b) = callsL a ++ callsL b
  | [], _ => rfl
  | x :: a, b => by simp [callsL, callsL_append a b]
theorem callsL_more {l : List Fm} {k : Nat} (h : k < l.length) : callsL (l.take (k + 1)) = callsL (l.take k) ++ callsF l[k] := by
  rw [List.take_succ_eq_append_getElem h, callsL_append]; simp [callsL]
theorem oneL_len (o : Option ByteArray) : (oneL o).length ≤ 1 := by cases o <;> simp [oneL]
theorem calls_len (n : Nat) : ∀ f : Fm, SizeOf.sizeOf f < n → (callsF f).length ≤ szF f := by
  induction n with
  | zero => intro f h; omega
  | succ n ih =>
    intro f hf
    rw [callsF_eq, szF_eq]
    by_cases hk : f.kd = 3
    · rw [if_pos hk, Fm.kids, if_pos hk, List.length_append]
      have h1 := oneL_len (calledF f)
      have key : ∀ l : List Fm, (∀ x ∈ l, x ∈ f.ks) → (callsL l).length ≤ szL l := by
        intro l
        induction l with
        | nil => intro _; simp [callsL, szL]
        | cons x l ihl =>
          intro hm
          have hx := ih x (by have := Fm.kid_lt (hm x (by simp)); omega)
          have hr := ihl fun y hy => hm y (by simp [hy])
          simp only [callsL, szL, List.length_append]; omega
      have := key f.ks fun x hx => hx
      omega
    · rw [if_neg hk]; simp
theorem calls_le (f : Fm) : (callsF f).length ≤ szF f := calls_len _ f (Nat.lt_succ_self _)
theorem callsL_le : ∀ l : List Fm, (callsL l).length ≤ szL l
  | [] => by simp [callsL, szL]
  | x :: l => by
    have h1 := calls_le x
    have h2 := callsL_le l
    simp only [callsL, szL, List.length_append]; omega
structure Sees (w0 : World) (P : Nat) (w : World) (l : List (List UInt8)) : Prop where
  cell : ∃ v, w.heap[P]? = some (.cells #[v] 30 (0, 0)) ∧ w.ownsRow (P + 1) 9 1 v l.length (strV l)
  below : Below w0.heap.size w0 w
  le : w0.heap.size ≤ P
theorem Sees.lt {w0 w : World} {P : Nat} {l : List (List UInt8)} (h : Sees w0 P w l) : P < w.heap.size := by
  obtain ⟨v, hv, _⟩ := h.cell; exact lt_of_getElem? hv
theorem Sees.next {w0 w w' : World} {P : Nat} {l : List (List UInt8)} (h : Sees w0 P w l) (hb : Below w.heap.size w w') : Sees w0 P w' l := by
  obtain ⟨v, hv, ho⟩ := h.cell
  exact ⟨⟨v, (hb.block P h.lt).trans hv, own_same ho fun k hk => hb.block k (ho.lt k hk).2⟩, up h.below hb, h.le⟩
def Spares (P : Nat) (w w' : World) : Prop := ∀ b, b < w.heap.size → b ≠ P → (∀ v, w.heap[P]? = some (.cells #[v] 30 (0, 0)) → v.ownBlock ≠ some b) → w'.heap[b]? = w.heap[b]?
set_option maxHeartbeats 2000000 in
set_option maxRecDepth 100000 in
theorem gather_any (t : T) (w0 : World) (P : Nat) (w : World) (l : List (List UInt8)) (hin : In w t) (hm : MaxIs w) (hs : Sees w0 P w l) (hl : l.length ≤ 100000000) :
    Calls Tryz.prog 34 #[t.val, .pointer (some ⟨P, 0, none⟩)] w fun e w' => e = .returned (.tuple #[]) ∧ Sees w0 P w' (l ++ oneL (calledF t.form)) ∧ Spares P w w' := by
  have HPL := Lib.hid hs.lt
  have HC := Lib.hid fun (W : World) (h : Below w.heap.size w W) => called_any t W (hin.below h) (hm.below h)
  have HS := Lib.hid fun (W : World) (h : Below w.heap.size w W) => hs.next h
  have HL := Lib.hid hl
  cases hc : calledF t.form with
  | none =>
    rw [hc] at HC
    clear hc hin hm hs hl
    go_enter Tryz.func34, Tryz.ntmps34
    go_wp2_with (go_at_call 35; refine (HC.out _ (bel1 _ _)).mono ?_; rintro e w2 ⟨rfl, hB⟩; have HB := Lib.hid (up (bel1 _ _) hB); clear hB)
    go_end0
    exact ⟨rfl, by simpa [oneL] using HS.out _ HB.out, fun b hb _ _ => HB.out.block b hb⟩
  | some d =>
    rw [hc] at HC
    clear hc hin hm hs hl
    go_enter Tryz.func34, Tryz.ntmps34
    go_wp2_with (first
      | (go_at_call 35; refine (HC.out _ (bel1 _ _)).mono ?_; rintro e w2 ⟨rfl, hB⟩; have HB := Lib.hid (up (bel1 _ _) hB); have hsee := HS.out _ HB.out; obtain ⟨v, hv, ho⟩ := hsee.cell; have hB0 := hsee.below; have hle := hsee.le; have lp := lt_of_getElem? hv; have hO : OwnS (P + 1) w2 w2 v l := ⟨ho, Below.refl _ _, lp⟩; obtain ⟨va, vc, rfl, -, -⟩ := hO.slice; have c0 := cell_of_one hv; have f0 := free_of_one hv; have HO := Lib.hid hO; have HV := Lib.hid hv; have HB0 := Lib.hid hB0; have HLE := Lib.hid hle; clear hB ho hO hsee hB0 hle)
      | (at_builtin; refine ownS_push rfl _ _ 30 rfl Tryz.underlying30 rfl (HO.out.next (bel1 _ _)) d 1 _ rfl (heap_alloc_new _ _) (by have := HL.out; omega) ?_; intro v4 w4 ho4 hg4; obtain ⟨va4, vc4, rfl, -, -⟩ := ho4.slice; have hv4 : w4.heap[P]? = some (.cells #[.slice va l.length vc] 30 (0, 0)) := (hg4.block P (by simp; omega) (fun e => by have := (HO.out.own.lt P e.symm).1; omega)).trans ((Below.heap_alloc _ _ _ lp).trans HV.out); have c4 := cell_of_one hv4; have f4 := free_of_one hv4; have HV4 := Lib.hid hv4; have HO4 := Lib.hid ho4; have HG4 := Lib.hid hg4; clear ho4 hg4 hv4))
    go_end0
    refine ⟨rfl, ⟨⟨_, one_setCell HV4.out, ?_⟩, ?_, HLE.out⟩, ?_⟩
    · have ho := HO4.out.own
      have hlen : (l ++ [d.data.toList]).length = l.length + 1 := by simp
      rw [hlen] at ho
      have e2 : l ++ oneL (some d) = l ++ [d.data.toList] := rfl
      rw [e2, hlen]
      exact own_same ho fun k hk => Below.heap_setCell _ _ _ _ (fun e => by have := (ho.lt k hk).1; have e : k = P := e; omega)
    · exact below_set (HB0.out.trans (HO4.out.below.mono (by have := HLE.out; omega))) HLE.out
    · intro b hb hne hv
      have hs2 := HB.out.size
      have h2 := hv _ ((HB.out.block P HPL.out).symm.trans HV.out)
      refine (Below.heap_setCell _ _ _ _ hne).trans ((HG4.out.block b (by simp; omega) (fun e => h2 e.symm)).trans ((Below.heap_alloc _ _ _ (by omega)).trans (HB.out.block b hb)))
set_option maxHeartbeats 2000000 in
set_option maxRecDepth 100000 in
theorem each_any (n : Nat) : ∀ (t : T), SizeOf.sizeOf t < n → ∀ (w0 : World) (P : Nat) (w : World) (l : List (List UInt8)), In w0 t → MaxIs w0 → Sees w0 P w l → l.length + szF t.form ≤ 100000000 →
    Calls Tryz.prog 33 #[t.val, .func (.func 34) #[] #[.pointer (some ⟨P, 0, none⟩)]] w fun e w' => e = .returned (.tuple #[]) ∧ Sees w0 P w' (l ++ callsF t.form) := by
  induction n with
  | zero => intro t h; omega
  | succ n ih =>
    intro t hn w0 P w l hin hm hs hl
    have HIS := Lib.hid fun (W : World) => isList_any t W
    have n1 := Nat.le_trans hin.ok.le hin.ok.cp
    unfold maxLen at n1
    by_cases hk : t.kd = 3
    · have e1 : listF t.form = true := by unfold listF; rw [T.form_kd]; simpa using hk
      rw [e1] at HIS
      have hkf : t.form.kd = 3 := by rw [T.form_kd]; exact hk
      have hcf : callsF t.form = oneL (calledF t.form) ++ callsL (t.ks.map T.form) := by rw [callsF_eq, if_pos hkf, T.form_ks]
      have hsz : szF t.form = 1 + szL (t.ks.map T.form) := by rw [szF_eq, Fm.kids, if_pos hkf, T.form_ks]
      have hcl := oneL_len (calledF t.form)
      have HSE := Lib.hid hs
      have HG := Lib.hid fun (W : World) (h : Below w.heap.size w W) => gather_any t w0 P W l (hin.below (hs.next h).below) (hm.below (hs.next h).below) (hs.next h) (by omega)
      have HK := Lib.hid fun (W : World) (h : Below w0.heap.size w0 W) => (hin.below h).inL
      have HIK := Lib.hid fun j (h : j < t.ks.length) => hin.kid j h
      have HM := Lib.hid hm
      have HIH := Lib.hid ih
      have HN := Lib.hid hn
      have HL : Hid (l.length + 1 + szL (t.ks.map T.form) ≤ 100000000) := Lib.hid (by rw [hsz] at hl; omega)
      obtain ⟨a, ha⟩ : ∃ a, t.ad = a := ⟨_, rfl⟩
      have hv : t.val = .agg #[.int .i64 t.kd, .int .i64 t.nn, .string t.tx, .slice a t.ks.length t.cp] := by rw [T.val, ha]
      have hbo : boxT t = .cells #[.int .i64 t.kd, .int .i64 t.nn, .string t.tx, .slice a t.ks.length t.cp] 24 := by rw [boxT, ha]
      have hbx : ∀ W, Below (w.alloc (boxT t)).heap.size (w.alloc (boxT t)) W → ∀ W', Spares P W W' → W'.heap[w.heap.size]? = some (boxT t) := fun W hW W' hS => by
        have h1 := (hW.block w.heap.size (by simp)).trans (heap_alloc_new w (boxT t))
        refine (hS w.heap.size (by have := hW.size; simp at this; omega) (by have := hs.lt; omega) (fun v hv e => ?_)).trans h1
        obtain ⟨v', hv', ho'⟩ := hs.cell
        have h2 := (hW.block P (by have := hs.lt; simp; omega)).trans ((Below.heap_alloc _ _ _ hs.lt).trans hv')
        rw [h2] at hv
        injection hv with hv; injection hv with hv
        simp at hv; subst hv
        have := (ho'.lt _ e).2
        omega
      rw [hbo] at hbx
      have HBX := Lib.hid hbx
      have HBY := Lib.hid fun (W : World) (h : W.heap[w.heap.size]? = some (.cells #[.int .i64 t.kd, .int .i64 t.nn, .string t.tx, .slice a t.ks.length t.cp] 24)) => (⟨cell_block (j := 0) h rfl, cell_block (j := 1) h rfl, cell_block (j := 2) h rfl, cell_block (j := 3) h rfl⟩ : W.cell? ⟨w.heap.size, 0, none⟩ = some (.int .i64 t.kd) ∧ W.cell? ⟨w.heap.size, 1, none⟩ = some (.int .i64 t.nn) ∧ W.cell? ⟨w.heap.size, 2, none⟩ = some (.string t.tx) ∧ W.cell? ⟨w.heap.size, 3, none⟩ = some (.slice a t.ks.length t.cp))
      have HK2 : Hid (∀ W, Below w0.heap.size w0 W → InL W a 0 t.ks) := Lib.hid fun W h => by rw [← ha]; exact HK.out W h
      rw [hv] at HG HIS
      rw [hcf, hv]
      clear hv hbo ha HK
      clear hn hin hm hs hl ih e1 hkf hcf hsz hcl hbx hk
      go_enter Tryz.func33, Tryz.ntmps33
      go_wp2_with (first
        | (go_at_call 62; refine (HIS.out _).mono ?_; rintro e w2 ⟨rfl, hB⟩; obtain ⟨b0, b1, b2, b3⟩ := HBY.out w2 ((hB.block w.heap.size (by simp)).trans (heap_alloc_new w _)); have HBR := Lib.hid hB; have HB := Lib.hid (up (bel1 _ _) hB); clear hB)
        | (go_at_call 34; refine (HG.out _ HB.out).mono ?_; rintro e w3 ⟨rfl, hS3, hSp⟩; obtain ⟨d0, d1, d2, d3⟩ := HBY.out w3 (HBX.out _ HBR.out _ hSp); have HS3 := Lib.hid hS3; clear hS3 hSp))
      go_loopg [15] (t.ks.length) (fun q i wr => ∃ k : Nat, k ≤ t.ks.length ∧ q = t.ks.length - k ∧ i = .int .i64 k ∧ Sees w0 P wr (l ++ oneL (calledF t.form) ++ callsL ((t.ks.map T.form).take k)))
      case atStart => exact ⟨0, by omega, by omega, rfl, by simpa [callsL] using HS3.out⟩
      case round =>
        obtain ⟨k, hk, rfl, rfl, hS⟩ := hrel
        have HS := Lib.hid hS
        clear hS b0 b1 b2 b3 d0 d1 d2 d3
        by_cases hlt : k < t.ks.length
        · obtain ⟨⟨b, o, rfl, hx0, hx1, hx2, hx3⟩, -⟩ := (HK2.out _ HS.out.below).at k hlt
          have lb : b < wr.heap.size := World.block_lt_of_cell? _ _ hx0
          have gk : (k : Int) < (t.ks.length : Int) := by omega
          have hmk := List.getElem_mem hlt
          have HMO := Lib.hid (callsL_more (l := t.ks.map T.form) (k := k) (by simpa using hlt))
          have HR := Lib.hid fun (W : World) (h : Below wr.heap.size wr W) => HIH.out t.ks[k] (by have := T.kid_lt hmk; have := HN.out; omega) w0 P W _ (HIK.out k hlt) HM.out (HS.out.next h) (by
            have h1 := szL_next (t.ks.map T.form) k (by simpa using hlt)
            have h2 := szL_takesR (t.ks.map T.form) (k + 1)
            have h3 := HL.out
            have h4 := oneL_len (calledF t.form)
            have h5 := callsL_le ((t.ks.map T.form).take k)
            simp only [List.getElem_map] at h1
            simp only [List.length_append]
            omega)
          clear hmk
          go_wp2_with (go_at_call 33; refine (HR.out _ (bel1 _ _)).mono ?_; rintro e w5 ⟨rfl, hS5⟩; have HS5 := Lib.hid hS5; clear hS5)
          go_roundg (t.ks.length - (k + 1))
          case measure => omega
          case rel => exact ⟨k + 1, by omega, rfl, by go_num, by have h := HS5.out; rw [HMO.out, ← List.append_assoc]; simpa using h⟩
        · have HE : Hid ((t.ks.map T.form).take k = t.ks.map T.form) := Lib.hid (List.take_of_length_le (by simp; omega))
          go_wp2_with fail
          go_end0
          refine ⟨rfl, ?_⟩
          have h := HS.out
          rw [HE.out, List.append_assoc] at h
          exact h
    · have e1 : listF t.form = false := by unfold listF; rw [T.form_kd]; simpa using hk
      rw [e1] at HIS
      have hcf : callsF t.form = [] := by rw [callsF_eq, if_neg (by rw [T.form_kd]; exact hk)]
      have HS := Lib.hid fun (W : World) (h : Below w.heap.size w W) => hs.next h
      rw [hcf, List.append_nil]
      clear hn hin hm hs hl ih e1 hcf hk
      go_enter Tryz.func33, Tryz.ntmps33
      go_wp2_with (first
        | (go_at_call 62; refine (HIS.out _).mono ?_; rintro e w2 ⟨rfl, hB⟩; have HB := Lib.hid (up (bel1 _ _) hB); clear hB))
      refine bodyPost_ret (results_none (by rfl) _ _ _) rfl ?_
      exact ⟨rfl, HS.out _ HB.out⟩
end Go.Proofs.YtmlfiopbdlaaaaaGreat

namespace Go.Proofs.YtmlfiopbdlaaaaaGreat
open Go
theorem le_lt_s {a b c : List UInt8} (h1 : a ≤ b) (h2 : b ≤ c) (h3 : b ≠ c) : a < c := by
  rcases Classical.em (a < c) with h | h
  · exact h
  · have h := List.not_lt.1 h
    exact absurd (List.le_antisymm h2 (List.le_trans h h1)) h3
theorem compact_upTo {d : Array (List UInt8)} (hd : ∀ i j, i < j → j < d.size → d[i]! ≤ d[j]!) : ∀ m, m ≤ d.size → (Lib.compactUpTo d m).Pairwise (· < ·) ∧ ∀ z, z ∈ Lib.compactUpTo d m ↔ ∃ j, j < m ∧ d[j]! = z
  | 0, _ => ⟨by simp [Lib.compactUpTo], fun z => by simp [Lib.compactUpTo]⟩
  | m + 1, hm => by
    obtain ⟨h1, h2⟩ := compact_upTo hd m (by omega)
    rw [Lib.compactUpTo_succ]
    by_cases hk : Lib.keeps d m = true
    · rw [if_pos hk]
      constructor
      · rw [List.pairwise_append]
        refine ⟨h1, by simp, fun a ha b hb => ?_⟩
        rw [List.mem_singleton] at hb
        subst hb
        obtain ⟨j, hj, rfl⟩ := (h2 a).1 ha
        have hne : d[m - 1]! ≠ d[m]! := fun e => by
          rw [Lib.keeps_neg (by omega) e.symm] at hk; cases hk
        have hle : d[m - 1]! ≤ d[m]! := hd _ _ (by omega) (by omega)
        by_cases e : j = m - 1
        · subst e; exact le_lt_s (List.le_refl _) hle hne
        · exact le_lt_s (hd j (m - 1) (by omega) (by omega)) hle hne
      · intro z
        rw [List.mem_append, h2, List.mem_singleton]
        constructor
        · rintro (⟨j, hj, e⟩ | e)
          · exact ⟨j, by omega, e⟩
          · exact ⟨m, by omega, e.symm⟩
        · rintro ⟨j, hj, e⟩
          by_cases hjm : j = m
          · subst hjm; exact .inr e.symm
          · exact .inl ⟨j, by omega, e⟩
    · rw [if_neg hk, List.append_nil]
      refine ⟨h1, fun z => (h2 z).trans ⟨fun ⟨j, hj, e⟩ => ⟨j, by omega, e⟩, fun ⟨j, hj, e⟩ => ?_⟩⟩
      by_cases hjm : j = m
      · subst hjm
        have h0 : 0 < j := by
          rcases Nat.eq_zero_or_pos j with h | h
          · subst h; exact absurd (by simp [Lib.keeps]) hk
          · exact h
        refine ⟨j - 1, by omega, ?_⟩
        rw [← e]
        rcases Classical.em (d[j - 1]! = d[j]!) with h | h
        · exact h
        · exact absurd (Lib.keeps_pos (fun e => h e.symm)) hk
      · exact ⟨j, by omega, e⟩
theorem compact_sort (l : List (List UInt8)) : Lib.compact (l.mergeSort fun x y => decide (x ≤ y)) = sortS l := by
  have tr : ∀ a b c : List UInt8, decide (a ≤ b) = true → decide (b ≤ c) = true → decide (a ≤ c) = true := fun a b c h1 h2 => decide_eq_true (List.le_trans (of_decide_eq_true h1) (of_decide_eq_true h2))
  have to : ∀ a b : List UInt8, (decide (a ≤ b) || decide (b ≤ a)) = true := fun a b => by rcases List.le_total a b with h | h <;> simp [h]
  obtain ⟨s, hs⟩ : ∃ s, (l.mergeSort fun x y => decide (x ≤ y)) = s := ⟨_, rfl⟩
  have hp : s.Pairwise fun x y => decide (x ≤ y) = true := by rw [← hs]; exact List.pairwise_mergeSort tr to l
  have hm : ∀ z, z ∈ s ↔ z ∈ l := fun z => by rw [← hs]; exact List.mem_mergeSort
  rw [hs]
  have hd : ∀ i j, i < j → j < s.toArray.size → s.toArray[i]! ≤ s.toArray[j]! := fun i j hij hj => by
    have hj' : j < s.length := by simpa using hj
    have := (List.pairwise_iff_getElem.1 hp) i j (by omega) hj' hij
    rw [getElem!_pos _ i (by simp; omega), getElem!_pos _ j hj]
    simpa using this
  obtain ⟨h1, h2⟩ := compact_upTo hd s.length (by simp)
  refine asc_unique h1 (sortS_asc l) fun z => ?_
  unfold Lib.compact at *
  rw [h2, sortS_mem, ← hm]
  constructor
  · rintro ⟨j, hj, e⟩
    rw [getElem!_pos _ j (by simpa using hj)] at e
    rw [← e]; simp
  · intro hz
    obtain ⟨j, hj, e⟩ := List.getElem_of_mem hz
    exact ⟨j, hj, by rw [getElem!_pos _ j (by simpa using hj)]; simpa using e⟩
theorem sortS_len (l : List (List UInt8)) : (sortS l).length ≤ l.length := by
  rw [← compact_sort]
  exact Nat.le_trans (Lib.compact_length_le _) (by simp)
end Go.Proofs.YtmlfiopbdlaaaaaGreat

namespace Go.Proofs.YtmlfiopbdlaaaaaGreat
open Go.RowKit Go.Deep
def CallsEnd (w w' : World) (L : List (List UInt8)) (e : Ending) : Prop := ∃ a c, e = .returned (.slice a L.length c) ∧ RowS w' a L ∧ Below w.heap.size w w'
theorem sees_start (w : World) (o : Obj) : Sees w (w.heap.size + 1) ((w.alloc o).alloc (.cells #[.slice none 0 0] 30)) [] :=
  ⟨⟨.slice none 0 0, heap2 _ _ _, World.ownsRow_nil _ _ _ _⟩, bel2 _ _ _, by omega⟩
set_option maxHeartbeats 2000000 in
set_option maxRecDepth 100000 in
theorem calls_any (t : T) (w : World) (hin : In w t) (hm : MaxIs w) (hsz : szF t.form ≤ 50000000) :
    Calls Tryz.prog 9 #[t.val] w fun e w' => CallsEnd w w' (sortS (callsF t.form)) e := by
  have hmf : ∀ (fn : Fn) (first cap : Array Value) (w : World), (Instr.makeFunc fn first cap).run Tryz.prog w = .ok (.func fn first cap) w := fun _ _ _ _ => rfl
  have HE := Lib.hid (each_any (SizeOf.sizeOf t + 1) t (Nat.lt_succ_self _) w (w.heap.size + 1) _ [] hin hm (sees_start w (boxT t)) (by simp; omega))
  have hlen := calls_le t.form
  rw [List.nil_append] at HE
  obtain ⟨L, hL⟩ : ∃ L, callsF t.form = L := ⟨_, rfl⟩
  rw [hL] at HE hlen ⊢
  have HLN : Hid (L.length ≤ 50000000) := Lib.hid (by omega)
  clear hin hm hsz hL hlen
  by_cases h0 : L = []
  · subst h0
    go_enter Tryz.func9, Tryz.ntmps9
    go_wp2_with (first
      | (go_at_call 33; refine HE.out.mono ?_; rintro e w2 ⟨rfl, hS⟩; obtain ⟨v, hv, ho⟩ := hS.cell; have hO : OwnS (w.heap.size + 1 + 1) w2 w2 v [] := ⟨ho, Below.refl _ _, lt_of_getElem? hv⟩; obtain ⟨va, vc, rfl, -, -⟩ := hO.slice; have c0 := cell_of_one hv; have HB := Lib.hid hS.below; clear hS ho hO)
      | (go_at_call 36; refine (Tryz.slices_Sort_string_none _ _ _).mono ?_; rintro e w3 ⟨rfl, rfl⟩)
      | (go_at_call 37; refine (Tryz.slices_Compact_string_empty _ _ _).mono ?_; rintro e w4 ⟨rfl, rfl⟩))
    go_ret
    exact ⟨_, _, rfl, .inl rfl, HB.out⟩
  · obtain ⟨S, hS⟩ : ∃ S, (L.mergeSort fun x y => decide (x ≤ y)) = S := ⟨_, rfl⟩
    have hSl : S.length = L.length := by rw [← hS]; simp
    have hC := compact_sort L
    rw [hS] at hC
    have hcl := Lib.compact_length_le S
    have HS := Lib.hid hS
    have HSL := Lib.hid hSl
    have HC := Lib.hid hC
    have HCL := Lib.hid hcl
    have H0 := Lib.hid h0
    clear hS hSl hC hcl h0
    go_enter Tryz.func9, Tryz.ntmps9
    go_wp2_with (first
      | (go_at_call 33; refine HE.out.mono ?_; rintro e w2 ⟨rfl, hS⟩; obtain ⟨v, hv, ho⟩ := hS.cell; obtain ⟨g, cap, cur, hve, hg, hb, hcap, hmx, hsz, htk⟩ := (ho.2.resolve_left fun h => H0.out (List.length_eq_zero_iff.1 h.2)); subst hve; have c0 := cell_of_one hv; have HV := Lib.hid hv; have HB := Lib.hid hS.below; have HG := Lib.hid hg; have HBK := Lib.hid hb; have HCAP := Lib.hid hcap; have HMX := Lib.hid hmx; have HCS := Lib.hid hsz; have hT : cur.toList.take L.length = L.map encStr := (by rw [Nat.mul_one] at htk; rw [htk]; rfl); have HT := Lib.hid hT; clear hS ho hg hb hcap hmx hsz htk hT)
      | (go_at_call 36; refine (Tryz.slices_Sort_string g 0 cap L w2 (holds_of_block HBK.out HT.out) (lt_of_getElem? HBK.out) (by have := HLN.out; omega)).mono ?_; rintro e w3 ⟨rfl, n3, os, hw3⟩; rw [HS.out] at hw3; have hgr : w2.grownBy w3 (some g) := (by rw [hw3]; exact grownBy_sorted _); have how := ownsRow_sorted (w := w2) (g := g) (base := g) (n := n3) (os := os) (ts := S) (ss := L) (cap := cap) HSL.out (Nat.le_refl _) HBK.out HCAP.out HMX.out HCS.out; rw [← hw3] at how; obtain ⟨g', cap', cur3, he3, -, hb3, -, -, -, htk3⟩ := (how.2.resolve_left fun h => H0.out (List.length_eq_zero_iff.1 h.2)); obtain ⟨hgg, hcc⟩ : g' = g ∧ cap' = cap := (by injection he3 with e1 e2 e3; injection e1 with e1; injection e1 with e1; exact ⟨e1.symm, e3.symm⟩); subst hgg hcc; have hv3 : w3.heap[w.heap.size + 1]? = some (.cells #[.slice (some ⟨g', 0, none⟩) L.length cap'] 30 (0, 0)) := (hgr.block _ (lt_of_getElem? HV.out) (fun e => by injection e with e; have := HG.out; omega)).trans HV.out; have c3 := cell_of_one hv3; have HB3 := Lib.hid (HB.out.grown hgr (by have := HB.out.size; omega) (fun k hk => by cases hk; have := HG.out; omega)); have hT3 : cur3.toList.take S.length = S.map encStr := (by rw [Nat.mul_one] at htk3; rw [HSL.out]; exact htk3); have HH3 := Lib.hid (holds_of_block hb3 hT3); have HK3 := Lib.hid hb3; clear hgr how hb3 htk3 hv3 hT3 he3 hw3)
      | (go_at_call 37; rw [← HSL.out]; refine (Tryz.slices_Compact_string g' 0 cap' S w3 HH3.out (by have := HLN.out; have := HSL.out; omega) (by have := HCAP.out; have := HSL.out; omega)).mono ?_; rintro e w4 ⟨rfl, q4, hw4⟩; have HW4 := Lib.hid hw4; clear hw4))
    go_ret
    have hC := HC.out
    have hlt := lt_of_getElem? HK3.out
    have hcl := HCL.out
    have hgg := HG.out
    refine ⟨some ⟨g', 0, none⟩, cap', by rw [← hC]; rfl, .inr ⟨g', 0, rfl, ?_, ?_⟩, ?_⟩
    · rw [HW4.out]
      simpa using hlt
    · intro j hj
      rw [HW4.out]
      have hjc : j < (Lib.compact S).length := by rw [hC]; exact hj
      have hx : (sortS L)[j] = (Lib.compact S)[j] := getElem_congr_coll hC.symm
      rw [hx]
      have h := «Sort».cell?_putRow encStr (Sort.ahead w3 q4) g' 0 S.toArray (Lib.compact S ++ List.replicate (S.length - (Lib.compact S).length) []).toArray («Sort».holds_ahead _ _ _ _ _ _ HH3.out) (by simp; omega) j (by simp; omega)
      rw [h, getElem!_pos _ j (by simp; omega)]
      simp [encStr, List.getElem_append_left hjc]
    · rw [HW4.out, ← «Sort».grow_empty («Sort».putRow _ _ _ _ _)]
      exact HB3.out.grown (grownBy_sorted _) (by have := HB3.out.size; omega) (fun k hk => by cases hk; omega)
end Go.Proofs.YtmlfiopbdlaaaaaGreat
