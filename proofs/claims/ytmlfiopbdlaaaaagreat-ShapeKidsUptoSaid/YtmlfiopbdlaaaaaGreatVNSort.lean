/- The document's Sorted: texts ascending, each once. -/
import Derived.Test.YtmlfiopbdlaaaaaGreatJ6
import Derived.Deep.RegionHeld3
import Derived.Sort.Walk0
namespace Go.Proofs.YtmlfiopbdlaaaaaGreat
open Go.RowKit Go.Deep
def insS (x : List UInt8) : List (List UInt8) → List (List UInt8)
  | [] => [x]
  | y :: L => if y < x then y :: insS x L else if y = x then y :: L else x :: y :: L
def sortS (l : List (List UInt8)) : List (List UInt8) := l.foldl (fun L x => insS x L) []
theorem ins_eq (x : List UInt8) : ∀ (L : List (List UInt8)) (a : Nat), (∀ j (h : j < L.length), j < a → L[j] < x) → ∀ h : a < L.length, L[a] = x → insS x L = L
  | [], _, _, h, _ => absurd h (by simp)
  | y :: L, 0, _, _, e => by
    have e : y = x := e
    subst e
    unfold insS
    rw [if_neg (List.lt_irrefl y), if_pos rfl]
  | y :: L, a + 1, hl, h, e => by
    unfold insS
    have h0 : y < x := hl 0 (by simp) (by omega)
    rw [if_pos h0]
    rw [ins_eq x L a (fun j h1 h2 => hl (j + 1) (by simpa using h1) (by omega)) (by simpa using h) (by simpa using e)]
theorem ins_put (x : List UInt8) : ∀ (L : List (List UInt8)) (a : Nat), a ≤ L.length → (∀ j (h : j < L.length), j < a → L[j] < x) → (∀ h : a < L.length, ¬ L[a] < x ∧ ¬ L[a] = x) → insS x L = L.take a ++ [x] ++ L.drop a
  | [], a, _, _, _ => by simp [insS]
  | y :: L, 0, _, _, h => by
    have := h (by simp)
    unfold insS
    rw [if_neg (by simpa using this.1), if_neg (by simpa using this.2)]; simp
  | y :: L, a + 1, ha, hl, h => by
    unfold insS
    have h0 : y < x := hl 0 (by simp) (by omega)
    rw [if_pos h0]
    rw [ins_put x L a (by simpa using ha) (fun j h1 h2 => hl (j + 1) (by simpa using h1) (by omega)) (fun h' => h (by simpa using h'))]
    simp
theorem ins_mem (x : List UInt8) : ∀ (L : List (List UInt8)) (z : List UInt8), z ∈ insS x L ↔ z = x ∨ z ∈ L
  | [], z => by simp [insS]
  | y :: L, z => by
    unfold insS
    split
    · simp only [List.mem_cons, ins_mem x L z]; exact ⟨fun h => by rcases h with h | h | h <;> simp [h], fun h => by rcases h with h | h | h <;> simp [h]⟩
    · split
      · rename_i h; subst h; simp
      · simp
theorem ins_asc (x : List UInt8) : ∀ (L : List (List UInt8)), L.Pairwise (· < ·) → (insS x L).Pairwise (· < ·)
  | [], _ => by simp [insS]
  | y :: L, h => by
    obtain ⟨h1, h2⟩ := List.pairwise_cons.1 h
    unfold insS
    split
    · rename_i hy
      refine .cons (fun z hz => ?_) (ins_asc x L h2)
      rcases (ins_mem x L z).1 hz with rfl | hz
      · exact hy
      · exact h1 z hz
    · rename_i hn
      split
      · exact h
      · rename_i hne
        have hxy : x < y := Classical.byContradiction fun h' => hne (List.le_antisymm (List.not_lt.1 h') (List.not_lt.1 hn))
        refine .cons (fun z hz => ?_) h
        rcases List.mem_cons.1 hz with rfl | hz
        · exact hxy
        · exact List.lt_trans hxy (h1 z hz)
theorem fold_asc : ∀ (l L : List (List UInt8)), L.Pairwise (· < ·) → (l.foldl (fun L x => insS x L) L).Pairwise (· < ·) ∧ ∀ z, z ∈ l.foldl (fun L x => insS x L) L ↔ z ∈ l ∨ z ∈ L
  | [], L, h => ⟨h, by simp⟩
  | x :: l, L, h => by
    obtain ⟨h1, h2⟩ := fold_asc l (insS x L) (ins_asc x L h)
    refine ⟨h1, fun z => ?_⟩
    rw [List.foldl_cons, h2, ins_mem]
    simp only [List.mem_cons]
    exact ⟨fun h => by rcases h with h | h | h <;> simp [h], fun h => by rcases h with (h | h) | h <;> simp [h]⟩
theorem sortS_asc (l : List (List UInt8)) : (sortS l).Pairwise (· < ·) := (fold_asc l [] .nil).1
theorem sortS_mem (l : List (List UInt8)) (z : List UInt8) : z ∈ sortS l ↔ z ∈ l := by have := (fold_asc l [] .nil).2 z; simpa [sortS] using this
theorem asc_unique {l l' : List (List UInt8)} (h : l.Pairwise (· < ·)) (h' : l'.Pairwise (· < ·)) (hm : ∀ z, z ∈ l ↔ z ∈ l') : l = l' := by
  have nd : ∀ {l : List (List UInt8)}, l.Pairwise (· < ·) → l.Nodup := fun {l} h => List.Pairwise.imp (fun {a b} (hab : a < b) (e : a = b) => List.lt_irrefl b (by rw [e] at hab; exact hab)) h
  have hp : l.Perm l' := (List.perm_ext_iff_of_nodup (nd h) (nd h')).2 hm
  exact hp.eq_of_pairwise (le := fun a b => a < b) (fun a b _ _ h1 h2 => absurd (List.lt_trans h1 h2) (List.lt_irrefl a)) h h'
theorem bytesLess_lt (x y : ByteArray) : Op.bytesLess x.toList y.toList = decide (x.data.toList < y.data.toList) := by
  rw [bytesLess_eq, Lib.toList_data, Lib.toList_data]
def RowS (w : World) (a : Option Addr) (l : List (List UInt8)) : Prop :=
  l = [] ∨ ∃ b o, a = some ⟨b, o, none⟩ ∧ b < w.heap.size ∧ ∀ j (hj : j < l.length), w.cell? ⟨b, o + j, none⟩ = some (.string ⟨l[j].toArray⟩)
theorem RowS.below {w w' : World} {a : Option Addr} {l : List (List UInt8)} (h : RowS w a l) (hb : Below w.heap.size w w') : RowS w' a l := by
  rcases h with h | ⟨b, o, h1, h2, h3⟩
  · exact .inl h
  · exact .inr ⟨b, o, h1, Nat.lt_of_lt_of_le h2 hb.size, fun j hj => (hb.cell (p := ⟨b, o + j, none⟩) h2).trans (h3 j hj)⟩
theorem OwnS.row {B : Nat} {w0 w : World} {v : Value} {l : List (List UInt8)} (h : OwnS B w0 w v l) : ∃ a c, v = .slice a l.length c ∧ l.length ≤ c ∧ RowS w a l := by
  obtain ⟨a, c, h1, h2, h3⟩ := h.slice
  refine ⟨a, c, h1, h2, ?_⟩
  rcases h3 with h3 | ⟨g, h3, _, h4, h5⟩
  · exact .inl h3
  · exact .inr ⟨g, 0, h3, h4, fun j hj => by rw [Nat.zero_add]; exact h5 j hj⟩
theorem OwnS.from {B : Nat} {w w3 w7 : World} {v : Value} {l : List (List UInt8)} (hb : Below B w w3) (hB : B ≤ w3.heap.size) (h : OwnS w3.heap.size w3 w7 v l) : OwnS B w w7 v l :=
  ⟨Joins.ownsRow_le h.own hB, hb.trans (h.below.mono hB), Nat.le_trans hB h.le⟩
theorem strV_stretch {W : World} {g : Nat} {L : List (List UInt8)} (h : ∀ j (hj : j < L.length), W.cell? ⟨g, j, none⟩ = some (.string ⟨L[j].toArray⟩)) (a m : Nat) : ∀ j u, (strV ((L.drop a).take m))[j]? = some u → W.cell? ⟨g, a + j, none⟩ = some u := by
  intro j u hj
  simp only [strV, List.getElem?_map, Option.map_eq_some_iff] at hj
  obtain ⟨x, hx, rfl⟩ := hj
  rw [List.getElem?_take] at hx
  split at hx
  · rw [List.getElem?_drop] at hx
    obtain ⟨h1, h2⟩ := List.getElem?_eq_some_iff.1 hx
    rw [h (a + j) h1, h2]
  · cases hx
theorem take_more {l : List (List UInt8)} {k : Nat} (hk : k < l.length) : sortS (l.take (k + 1)) = insS l[k] (sortS (l.take k)) := by
  rw [List.take_add_one, List.getElem?_eq_getElem hk]; unfold sortS; rw [Option.toList_some, List.foldl_append]; rfl
set_option maxHeartbeats 8000000 in
set_option maxRecDepth 100000 in
theorem sorted_any (la : Option Addr) (l : List (List UInt8)) (lc : Nat) (w : World) (hl : l.length ≤ 1000000) (hr : RowS w la l) :
    Calls Tryz.prog 38 #[.slice la l.length lc] w fun e w' => ∃ v, e = .returned v ∧ OwnS w.heap.size w w' v (sortS l) := by
  have HR := Lib.hid hr
  clear hr
  have mixed : Tryz.prog.follows .mixedOrders = true := by kernel_rfl
  go_enter Tryz.func38, Tryz.ntmps38
  go_wp2_with fail
  go_loopg [3, 4] (l.length) (fun m v i wr => ∃ (k : Nat) (L : List (List UInt8)), m = l.length - k ∧ k ≤ l.length ∧ i = .int .i64 k ∧ L = sortS (l.take k) ∧ L.length ≤ k ∧ OwnS w.heap.size w wr v L ∧ (L = [] → v = .slice none 0 0))
  case atStart => exact ⟨0, [], by omega, by omega, rfl, rfl, by simp, OwnS.start (Nat.le_refl _), fun _ => rfl⟩
  case round =>
    obtain ⟨k, L, rfl, hk, rfl, hL, hlen, hO, hnil⟩ := hrel
    have HO := Lib.hid hO
    have HL := Lib.hid hL
    by_cases hlt : k < l.length
    · have hrw := HR.out.below HO.out.below
      rcases hrw with h0 | ⟨b, o, rfl, hbl, hcl⟩
      · rw [h0] at hlt; simp at hlt
      have HY : Hid (∀ W, Below wr.heap.size wr W → W.cell? ⟨b, o + k, none⟩ = some (.string ⟨l[k].toArray⟩)) := Lib.hid fun W hB => (hB.cell (p := ⟨b, o + k, none⟩) hbl).trans (hcl k hlt)
      obtain ⟨y, hy⟩ : ∃ y : ByteArray, (⟨l[k].toArray⟩ : ByteArray) = y := ⟨_, rfl⟩
      rw [hy] at HY
      have HYE : Hid (l[k] = y.data.toList) := Lib.hid (by rw [← hy])
      clear hy hcl
      rcases hO.slice2 with ⟨rfl, hLe⟩ | ⟨g, c, rfl, hc, hgB, hgl, hgc⟩
      · subst hLe
        have HR2 : Hid (sortS (l.take (k + 1)) = [] ++ [y.data.toList]) := Lib.hid (by rw [take_more hlt, ← HL.out, HYE.out]; rfl)
        clear hO hL hnil
        go_wp2_with fail
        go_loopg [5] 0 (fun q vx wa => vx = .int .i64 0 ∧ Below wr.heap.size wr wa)
        case atStart => exact ⟨rfl, Below.refl _ _⟩
        case round =>
          obtain ⟨rfl, hBa⟩ := hrel
          have HBA := Lib.hid hBa
          have y0 := HY.out wr hBa
          clear hBa
          go_wp2_with fail
          go_big_region_o
          all_goals go_wp2
          go_big_region_o
          obtain ⟨w3, hw3⟩ : ∃ w3, wr.drew.drew = w3 := ⟨_, rfl⟩
          have HB3 := HBA.out.drew.drew
          rw [hw3] at HB3 ⊢
          have HB3 := Lib.hid HB3
          clear hw3
          have HD : ∀ (W : World), Below W.heap.size W W.drew := fun W => (Below.refl _ W).drew
          have H00 : OwnS w3.heap.size w3 (w3.alloc oE) (.slice (some ⟨w3.heap.size, 0, none⟩) 0 0) [] := ⟨World.ownsRow_made w3 #[] 0 (Nat.le_refl _) (Nat.zero_le _) (by simp), bel1 _ _, by simp⟩
          have H0 := Lib.hid (H00.next (HD _))
          have H0b := Lib.hid ((H00.next (bel1 _ (oY y))).next (HD _))
          have H0c : Hid (OwnS w3.heap.size w3 ((w3.alloc (oY y)).alloc oE).drew (.slice (some ⟨w3.heap.size + 1, 0, none⟩) 0 0) []) := Lib.hid (OwnS.next ⟨by
            have := World.ownsRow_made (base := w3.heap.size) (e := 9) (size := 1) (w3.alloc (oY y)) #[] 0 (by simp) (Nat.zero_le _) (by simp)
            simpa [strV] using this, bel2 _ _ _, by simp; omega⟩ (HD _))
          clear H00
          go_wp2_with fail
          go_region_held3 (fun w' => w'.cell? ⟨b, o + k, none⟩ = some (.string y))
            (first
              | exact HY.out _ (up HB3.out (HD _))
              | exact HY.out _ (up HB3.out (up (bel1 _ _) (HD _)))
              | exact HY.out _ (up HB3.out (up (bel2 _ _ _) (HD _)))
              | exact HY.out _ (up HB3.out H4.out.below)
              | exact HY.out _ (up (up HB3.out H4.out.below) (bel1 _ _))
              | exact HY.out _ (up HB3.out H6.out.below)
              | exact HY.out _ (up HB3.out H7.out.below)
              | fail)
            (first
              | (refine step_noneS (v := .slice (some ⟨w3.heap.size, 0, none⟩) 0 0) (l := []) (B := w3.heap.size) (w0 := w3) rfl _ _ 30 rfl Tryz.underlying30 rfl (by with_reducible exact H0.out) rfl ?_; have H4 := H0)
              | (refine step_noneS (v := .slice (some ⟨w3.heap.size, 0, none⟩) 0 0) (l := []) (B := w3.heap.size) (w0 := w3) rfl _ _ 30 rfl Tryz.underlying30 rfl (by with_reducible exact H0b.out) rfl ?_; have H4 := H0b)
              | (refine step_noneS (v := .slice (some ⟨w3.heap.size + 1, 0, none⟩) 0 0) (l := []) (B := w3.heap.size) (w0 := w3) rfl _ _ 30 rfl Tryz.underlying30 rfl (by with_reducible exact H0c.out) rfl ?_; have H4 := H0c)
              | (refine step_pushS (v := .slice (some ⟨w3.heap.size, 0, none⟩) 0 0) (l := []) (B := w3.heap.size) (w0 := w3) rfl _ _ 30 rfl Tryz.underlying30 rfl (by with_reducible exact H0b.out) y 1 (w3.heap.size + 1) rfl (by with_reducible exact hb_b _ _) (by simp) ?_; intro v6 w6 h6 g6; have H6 := Lib.hid h6; clear h6 g6)
              | (refine step_pushS (v := .slice (some ⟨w3.heap.size + 1, 0, none⟩) 0 0) (l := []) (B := w3.heap.size) (w0 := w3) rfl _ _ 30 rfl Tryz.underlying30 rfl (by with_reducible exact H0c.out) y 1 w3.heap.size rfl (by with_reducible exact hb_c _ _) (by simp) ?_; intro v6 w6 h6 g6; have H6 := Lib.hid h6; clear h6 g6)
              | (refine step_noneS (v := v6) (l := [] ++ [y.data.toList]) (B := w3.heap.size) (w0 := w3) rfl _ _ 30 rfl Tryz.underlying30 rfl H6.out rfl ?_; have H7 := H6)
              | fail)
          all_goals (go_wp2_with fail; go_roundg (l.length - (k + 1)))
          all_goals first
            | omega
            | exact ⟨k + 1, _, by omega, by omega, by go_num, HR2.out.symm, (by first | (simp; done) | (simp; omega)), OwnS.from (HO.out.below.trans (HB3.out.mono HO.out.le)) (Nat.le_trans HO.out.le HB3.out.size) H7.out, fun e => absurd e (by simp)⟩
      · have hLne : L ≠ [] := fun e => by have := hnil e; cases this
        have hLpos : 0 < L.length := List.length_pos_iff.2 hLne
        have HG : Hid (∀ W, Below wr.heap.size wr W → ∀ a m j u, (strV ((L.drop a).take m))[j]? = some u → W.cell? ⟨g, a + j, none⟩ = some u) := Lib.hid fun W hB a m => strV_stretch (fun j hj => (hB.cell (p := ⟨g, j, none⟩) hgl).trans (hgc j hj)) a m
        have HX0 : Hid (∀ W, Below wr.heap.size wr W → ∀ j (hj : j < L.length), W.cell? ⟨g, j, none⟩ = some (.string ⟨L[j].toArray⟩)) := Lib.hid fun W hB j hj => (hB.cell (p := ⟨g, j, none⟩) hgl).trans (hgc j hj)
        clear hO hL hnil hgc
        go_wp2_with fail
        go_loopg [5] L.length (fun q vx wa => ∃ at' : Nat, vx = .int .i64 at' ∧ at' ≤ L.length ∧ q = L.length - at' ∧ Hid (∀ x (hx : x < L.length), x < at' → L[x] < y.data.toList) ∧ Below wr.heap.size wr wa)
        case atStart => exact ⟨0, rfl, by omega, by omega, Lib.hid fun x _ h => by omega, Below.refl _ _⟩
        case round =>
          obtain ⟨p, rfl, hpl, rfl, HLO, hBa⟩ := hrel
          have HBA := Lib.hid hBa
          have y0 := HY.out wr hBa
          by_cases hpu : p < L.length
          · have ga : (p : Int) < (L.length : Int) := by omega
            have dg1 : decide ((p : Int) < (L.length : Int)) = true := by simp; omega
            have dg2 : decide (p < L.length) = true := by simp; omega
            obtain ⟨x, hx⟩ : ∃ x : ByteArray, (⟨L[p].toArray⟩ : ByteArray) = x := ⟨_, rfl⟩
            have x0 := HX0.out wr hBa p hpu
            rw [hx] at x0
            have HXE : Hid (L[p] = x.data.toList) := Lib.hid (by rw [← hx])
            clear hx hBa
            by_cases hlx : L[p] < y.data.toList
            · have hle : Op.bytesLess x.toList y.toList = true := by rw [bytesLess_lt, ← HXE.out]; simpa using hlx
              have HX := Lib.hid hlx
              clear hlx
              go_wp2_with fail
              go_big_region_o
              all_goals go_wp2
              go_roundg (L.length - (p + 1))
              case measure => omega
              case rel =>
                refine ⟨p + 1, by go_num, by omega, rfl, Lib.hid fun z hz hzp => ?_, HBA.out.drew⟩
                by_cases e : z = p
                · subst e; exact HX.out
                · exact HLO.out z hz (by omega)
            · have hle : Op.bytesLess x.toList y.toList = false := by rw [bytesLess_lt, ← HXE.out]; simpa using hlx
              have HX := Lib.hid hlx
              clear hlx
              by_cases hxy : x = y
              · have he := eqT hxy
                have HR2 : Hid (sortS (l.take (k + 1)) = L) := Lib.hid (by rw [take_more hlt, ← HL.out]; exact ins_eq _ L p (fun j h1 h2 => by rw [HYE.out]; exact HLO.out j h1 h2) hpu (by rw [HXE.out, HYE.out, hxy]))
                clear hxy
                go_wp2_with fail
                go_big_region_o
                all_goals go_wp2
                go_big_region_o
                all_goals go_wp2
                go_roundg (l.length - (k + 1))
                case measure => omega
                case rel => exact ⟨k + 1, L, by omega, by omega, by go_num, HR2.out.symm, by omega, HO.out.next HBA.out.drew.drew, fun e => absurd e hLne⟩
              · have he := eqF hxy
                have HR2 : Hid (sortS (l.take (k + 1)) = L.take p ++ [y.data.toList] ++ L.drop p) := Lib.hid (by rw [take_more hlt, ← HL.out, HYE.out]; exact ins_put _ L p hpl HLO.out (fun h => ⟨HX.out, fun e => hxy (beq_bytes (by rw [← HXE.out, e]))⟩))
                clear hxy
                go_wp2_with fail
                go_big_region_o
                all_goals go_wp2
                go_big_region_o
                obtain ⟨w3, hw3⟩ : ∃ w3, wr.drew.drew = w3 := ⟨_, rfl⟩
                have HB3 := HBA.out.drew.drew
                rw [hw3] at HB3 ⊢
                have HB3 := Lib.hid HB3
                clear hw3
                have HD : ∀ (W : World), Below W.heap.size W W.drew := fun W => (Below.refl _ W).drew
                have H00 : OwnS w3.heap.size w3 (w3.alloc oE) (.slice (some ⟨w3.heap.size, 0, none⟩) 0 0) [] := ⟨World.ownsRow_made w3 #[] 0 (Nat.le_refl _) (Nat.zero_le _) (by simp), bel1 _ _, by simp⟩
                have H0 := Lib.hid (H00.next (HD _))
                have H0b := Lib.hid ((H00.next (bel1 _ (oY y))).next (HD _))
                have H0c : Hid (OwnS w3.heap.size w3 ((w3.alloc (oY y)).alloc oE).drew (.slice (some ⟨w3.heap.size + 1, 0, none⟩) 0 0) []) := Lib.hid (OwnS.next ⟨by
                  have := World.ownsRow_made (base := w3.heap.size) (e := 9) (size := 1) (w3.alloc (oY y)) #[] 0 (by simp) (Nat.zero_le _) (by simp)
                  simpa [strV] using this, bel2 _ _ _, by simp; omega⟩ (HD _))
                clear H00
                have hcap1 : ¬ c = p := by omega
                have hcap2 : (p : Int) ≤ (c : Int) := by omega
                have hcap3 : (p : Int) ≤ (L.length : Int) := by omega
                have HT1 : Hid ((L.take p).length = p) := Lib.hid (by rw [List.length_take]; omega)
                have HT2 : Hid ((L.drop p).length = L.length - p) := Lib.hid (by rw [List.length_drop])
                go_wp2_with fail
                go_region_held3 (fun w' => w'.cell? ⟨b, o + k, none⟩ = some (.string y))
                  (first
                    | exact HY.out _ (up HB3.out (HD _))
                    | exact HY.out _ (up HB3.out (up (bel1 _ _) (HD _)))
                    | exact HY.out _ (up HB3.out (up (bel2 _ _ _) (HD _)))
                    | exact HY.out _ (up HB3.out H4.out.below)
                    | exact HY.out _ (up (up HB3.out H4.out.below) (bel1 _ _))
                    | exact HY.out _ (up HB3.out H6.out.below)
                    | exact HY.out _ (up HB3.out H7.out.below)
                    | fail)
                  (first
                    | (refine step_moreS (v := .slice (some ⟨w3.heap.size, 0, none⟩) 0 0) (l := []) (B := w3.heap.size) (w0 := w3) rfl _ _ 30 rfl Tryz.underlying30 rfl (by with_reducible exact H0.out) (L.take p) g 0 p _ rfl HT1.out (HG.out _ (up HB3.out (by with_reducible exact H0.out.below)) 0 p) (by simp; omega) ?_; intro v4 w4 h4 g4; have H4 := Lib.hid h4; clear h4 g4)
                    | (refine step_moreS (v := .slice (some ⟨w3.heap.size, 0, none⟩) 0 0) (l := []) (B := w3.heap.size) (w0 := w3) rfl _ _ 30 rfl Tryz.underlying30 rfl (by with_reducible exact H0b.out) (L.take p) g 0 p _ rfl HT1.out (HG.out _ (up HB3.out (by with_reducible exact H0b.out.below)) 0 p) (by simp; omega) ?_; intro v4 w4 h4 g4; have H4 := Lib.hid h4; have HA := Lib.hid (ha_b g4); clear h4 g4)
                    | (refine step_moreS (v := .slice (some ⟨w3.heap.size + 1, 0, none⟩) 0 0) (l := []) (B := w3.heap.size) (w0 := w3) rfl _ _ 30 rfl Tryz.underlying30 rfl (by with_reducible exact H0c.out) (L.take p) g 0 p _ rfl HT1.out (HG.out _ (up HB3.out (by with_reducible exact H0c.out.below)) 0 p) (by simp; omega) ?_; intro v4 w4 h4 g4; have H4 := Lib.hid h4; have HA := Lib.hid (ha_c g4); clear h4 g4)
                    | (refine step_pushS (v := v4) (l := L.take p) (B := w3.heap.size) (w0 := w3) rfl _ _ 30 rfl Tryz.underlying30 rfl (H4.out.next (bel1 _ _)) y 1 _ rfl (by with_reducible exact heap_alloc_new _ _) (by have := HT1.out; simp; omega) ?_; intro v6 w6 h6 g6; have H6 := Lib.hid h6; clear h6 g6)
                    | (refine step_pushS (v := v4) (l := L.take p) (B := w3.heap.size) (w0 := w3) rfl _ _ 30 rfl Tryz.underlying30 rfl H4.out y 1 _ rfl (by with_reducible exact HA.out) (by have := HT1.out; simp; omega) ?_; intro v6 w6 h6 g6; have H6 := Lib.hid h6; clear h6 g6)
                    | (refine step_moreS (v := v6) (l := L.take p ++ [y.data.toList]) (B := w3.heap.size) (w0 := w3) rfl _ _ 30 rfl Tryz.underlying30 rfl H6.out (L.drop p) g p (L.length - p) _ rfl HT2.out (fun j u hj => HG.out _ (up HB3.out H6.out.below) p (L.length - p) j u (by rw [List.take_of_length_le (by rw [HT2.out]; omega)]; exact hj)) (by simp; omega) ?_; intro v7 w7 h7 g7; have H7 := Lib.hid h7; clear h7 g7)
                    | fail)
                all_goals (go_wp2_with fail; go_roundg (l.length - (k + 1)))
                all_goals first
                  | omega
                  | exact ⟨k + 1, _, by omega, by omega, by go_num, HR2.out.symm, (by first | (simp; done) | (simp; omega)), OwnS.from (HO.out.below.trans (HB3.out.mono HO.out.le)) (Nat.le_trans HO.out.le HB3.out.size) H7.out, fun e => absurd e (by simp)⟩
          · have ga : ¬ (p : Int) < (L.length : Int) := by omega
            have dg1 : decide ((p : Int) < (L.length : Int)) = false := by simp; omega
            have dg2 : decide (p < L.length) = false := by simp; omega
            have HR2 : Hid (sortS (l.take (k + 1)) = L.take p ++ [y.data.toList] ++ L.drop p) := Lib.hid (by rw [take_more hlt, ← HL.out, HYE.out]; exact ins_put _ L p hpl HLO.out (fun h => absurd h hpu))
            clear hBa
            by_cases hcu : c = p
            · go_wp2_with fail
              go_big_region_o
              all_goals go_wp2
              go_big_region_o
              obtain ⟨w3, hw3⟩ : ∃ w3, wr.drew.drew = w3 := ⟨_, rfl⟩
              have HB3 := HBA.out.drew.drew
              rw [hw3] at HB3 ⊢
              have HB3 := Lib.hid HB3
              clear hw3
              have HD : ∀ (W : World), Below W.heap.size W W.drew := fun W => (Below.refl _ W).drew
              have H00 : OwnS w3.heap.size w3 (w3.alloc oE) (.slice (some ⟨w3.heap.size, 0, none⟩) 0 0) [] := ⟨World.ownsRow_made w3 #[] 0 (Nat.le_refl _) (Nat.zero_le _) (by simp), bel1 _ _, by simp⟩
              have H0 := Lib.hid (H00.next (HD _))
              have H0b := Lib.hid ((H00.next (bel1 _ (oY y))).next (HD _))
              have H0c : Hid (OwnS w3.heap.size w3 ((w3.alloc (oY y)).alloc oE).drew (.slice (some ⟨w3.heap.size + 1, 0, none⟩) 0 0) []) := Lib.hid (OwnS.next ⟨by
                have := World.ownsRow_made (base := w3.heap.size) (e := 9) (size := 1) (w3.alloc (oY y)) #[] 0 (by simp) (Nat.zero_le _) (by simp)
                simpa [strV] using this, bel2 _ _ _, by simp; omega⟩ (HD _))
              clear H00
              have hcap1 : c = p := by omega
              have hcap2 : (p : Int) ≤ (c : Int) := by omega
              have hcap3 : (p : Int) ≤ (L.length : Int) := by omega
              have HT1 : Hid ((L.take p).length = p) := Lib.hid (by rw [List.length_take]; omega)
              have HT2 : Hid ((L.drop p).length = L.length - p) := Lib.hid (by rw [List.length_drop])
              have HDR : Hid (L.drop p = []) := Lib.hid (List.drop_of_length_le (by omega))
              go_wp2_with fail
              go_region_held3 (fun w' => w'.cell? ⟨b, o + k, none⟩ = some (.string y))
                (first
                  | exact HY.out _ (up HB3.out (HD _))
                  | exact HY.out _ (up HB3.out (up (bel1 _ _) (HD _)))
                  | exact HY.out _ (up HB3.out (up (bel2 _ _ _) (HD _)))
                  | exact HY.out _ (up HB3.out H4.out.below)
                  | exact HY.out _ (up (up HB3.out H4.out.below) (bel1 _ _))
                  | exact HY.out _ (up HB3.out H6.out.below)
                  | exact HY.out _ (up HB3.out H7.out.below)
                  | fail)
                (first
                  | (refine step_moreS (v := .slice (some ⟨w3.heap.size, 0, none⟩) 0 0) (l := []) (B := w3.heap.size) (w0 := w3) rfl _ _ 30 rfl Tryz.underlying30 rfl (by with_reducible exact H0.out) (L.take p) g 0 p _ rfl HT1.out (HG.out _ (up HB3.out (by with_reducible exact H0.out.below)) 0 p) (by simp; omega) ?_; intro v4 w4 h4 g4; have H4 := Lib.hid h4; clear h4 g4)
                  | (refine step_moreS (v := .slice (some ⟨w3.heap.size, 0, none⟩) 0 0) (l := []) (B := w3.heap.size) (w0 := w3) rfl _ _ 30 rfl Tryz.underlying30 rfl (by with_reducible exact H0b.out) (L.take p) g 0 p _ rfl HT1.out (HG.out _ (up HB3.out (by with_reducible exact H0b.out.below)) 0 p) (by simp; omega) ?_; intro v4 w4 h4 g4; have H4 := Lib.hid h4; have HA := Lib.hid (ha_b g4); clear h4 g4)
                  | (refine step_moreS (v := .slice (some ⟨w3.heap.size + 1, 0, none⟩) 0 0) (l := []) (B := w3.heap.size) (w0 := w3) rfl _ _ 30 rfl Tryz.underlying30 rfl (by with_reducible exact H0c.out) (L.take p) g 0 p _ rfl HT1.out (HG.out _ (up HB3.out (by with_reducible exact H0c.out.below)) 0 p) (by simp; omega) ?_; intro v4 w4 h4 g4; have H4 := Lib.hid h4; have HA := Lib.hid (ha_c g4); clear h4 g4)
                  | (refine step_pushS (v := v4) (l := L.take p) (B := w3.heap.size) (w0 := w3) rfl _ _ 30 rfl Tryz.underlying30 rfl (H4.out.next (bel1 _ _)) y 1 _ rfl (by with_reducible exact heap_alloc_new _ _) (by have := HT1.out; simp; omega) ?_; intro v6 w6 h6 g6; have H6 := Lib.hid h6; clear h6 g6)
                  | (refine step_pushS (v := v4) (l := L.take p) (B := w3.heap.size) (w0 := w3) rfl _ _ 30 rfl Tryz.underlying30 rfl H4.out y 1 _ rfl (by with_reducible exact HA.out) (by have := HT1.out; simp; omega) ?_; intro v6 w6 h6 g6; have H6 := Lib.hid h6; clear h6 g6)
                  | (refine step_moreS (v := v6) (l := L.take p ++ [y.data.toList]) (B := w3.heap.size) (w0 := w3) rfl _ _ 30 rfl Tryz.underlying30 rfl H6.out (L.drop p) _ _ (L.length - p) _ rfl HT2.out (fun j u hj => by rw [HDR.out] at hj; simp [strV] at hj) (by simp; omega) ?_; intro v7 w7 h7 g7; have H7 := Lib.hid h7; clear h7 g7)
                  | fail)
              all_goals (go_wp2_with fail; go_roundg (l.length - (k + 1)))
              all_goals first
                | omega
                | exact ⟨k + 1, _, by omega, by omega, by go_num, HR2.out.symm, (by first | (simp; done) | (simp; omega)), OwnS.from (HO.out.below.trans (HB3.out.mono HO.out.le)) (Nat.le_trans HO.out.le HB3.out.size) H7.out, fun e => absurd e (by simp)⟩
            · go_wp2_with fail
              go_big_region_o
              all_goals go_wp2
              go_big_region_o
              obtain ⟨w3, hw3⟩ : ∃ w3, wr.drew.drew = w3 := ⟨_, rfl⟩
              have HB3 := HBA.out.drew.drew
              rw [hw3] at HB3 ⊢
              have HB3 := Lib.hid HB3
              clear hw3
              have HD : ∀ (W : World), Below W.heap.size W W.drew := fun W => (Below.refl _ W).drew
              have H00 : OwnS w3.heap.size w3 (w3.alloc oE) (.slice (some ⟨w3.heap.size, 0, none⟩) 0 0) [] := ⟨World.ownsRow_made w3 #[] 0 (Nat.le_refl _) (Nat.zero_le _) (by simp), bel1 _ _, by simp⟩
              have H0 := Lib.hid (H00.next (HD _))
              have H0b := Lib.hid ((H00.next (bel1 _ (oY y))).next (HD _))
              have H0c : Hid (OwnS w3.heap.size w3 ((w3.alloc (oY y)).alloc oE).drew (.slice (some ⟨w3.heap.size + 1, 0, none⟩) 0 0) []) := Lib.hid (OwnS.next ⟨by
                have := World.ownsRow_made (base := w3.heap.size) (e := 9) (size := 1) (w3.alloc (oY y)) #[] 0 (by simp) (Nat.zero_le _) (by simp)
                simpa [strV] using this, bel2 _ _ _, by simp; omega⟩ (HD _))
              clear H00
              have hcap1 : ¬ c = p := by omega
              have hcap2 : (p : Int) ≤ (c : Int) := by omega
              have hcap3 : (p : Int) ≤ (L.length : Int) := by omega
              have HT1 : Hid ((L.take p).length = p) := Lib.hid (by rw [List.length_take]; omega)
              have HT2 : Hid ((L.drop p).length = L.length - p) := Lib.hid (by rw [List.length_drop])
              have HDR : Hid (L.drop p = []) := Lib.hid (List.drop_of_length_le (by omega))
              go_wp2_with fail
              go_region_held3 (fun w' => w'.cell? ⟨b, o + k, none⟩ = some (.string y))
                (first
                  | exact HY.out _ (up HB3.out (HD _))
                  | exact HY.out _ (up HB3.out (up (bel1 _ _) (HD _)))
                  | exact HY.out _ (up HB3.out (up (bel2 _ _ _) (HD _)))
                  | exact HY.out _ (up HB3.out H4.out.below)
                  | exact HY.out _ (up (up HB3.out H4.out.below) (bel1 _ _))
                  | exact HY.out _ (up HB3.out H6.out.below)
                  | exact HY.out _ (up HB3.out H7.out.below)
                  | fail)
                (first
                  | (refine step_moreS (v := .slice (some ⟨w3.heap.size, 0, none⟩) 0 0) (l := []) (B := w3.heap.size) (w0 := w3) rfl _ _ 30 rfl Tryz.underlying30 rfl (by with_reducible exact H0.out) (L.take p) g 0 p _ rfl HT1.out (HG.out _ (up HB3.out (by with_reducible exact H0.out.below)) 0 p) (by simp; omega) ?_; intro v4 w4 h4 g4; have H4 := Lib.hid h4; clear h4 g4)
                  | (refine step_moreS (v := .slice (some ⟨w3.heap.size, 0, none⟩) 0 0) (l := []) (B := w3.heap.size) (w0 := w3) rfl _ _ 30 rfl Tryz.underlying30 rfl (by with_reducible exact H0b.out) (L.take p) g 0 p _ rfl HT1.out (HG.out _ (up HB3.out (by with_reducible exact H0b.out.below)) 0 p) (by simp; omega) ?_; intro v4 w4 h4 g4; have H4 := Lib.hid h4; have HA := Lib.hid (ha_b g4); clear h4 g4)
                  | (refine step_moreS (v := .slice (some ⟨w3.heap.size + 1, 0, none⟩) 0 0) (l := []) (B := w3.heap.size) (w0 := w3) rfl _ _ 30 rfl Tryz.underlying30 rfl (by with_reducible exact H0c.out) (L.take p) g 0 p _ rfl HT1.out (HG.out _ (up HB3.out (by with_reducible exact H0c.out.below)) 0 p) (by simp; omega) ?_; intro v4 w4 h4 g4; have H4 := Lib.hid h4; have HA := Lib.hid (ha_c g4); clear h4 g4)
                  | (refine step_pushS (v := v4) (l := L.take p) (B := w3.heap.size) (w0 := w3) rfl _ _ 30 rfl Tryz.underlying30 rfl (H4.out.next (bel1 _ _)) y 1 _ rfl (by with_reducible exact heap_alloc_new _ _) (by have := HT1.out; simp; omega) ?_; intro v6 w6 h6 g6; have H6 := Lib.hid h6; clear h6 g6)
                  | (refine step_pushS (v := v4) (l := L.take p) (B := w3.heap.size) (w0 := w3) rfl _ _ 30 rfl Tryz.underlying30 rfl H4.out y 1 _ rfl (by with_reducible exact HA.out) (by have := HT1.out; simp; omega) ?_; intro v6 w6 h6 g6; have H6 := Lib.hid h6; clear h6 g6)
                  | (refine step_moreS (v := v6) (l := L.take p ++ [y.data.toList]) (B := w3.heap.size) (w0 := w3) rfl _ _ 30 rfl Tryz.underlying30 rfl H6.out (L.drop p) _ _ (L.length - p) _ rfl HT2.out (fun j u hj => by rw [HDR.out] at hj; simp [strV] at hj) (by simp; omega) ?_; intro v7 w7 h7 g7; have H7 := Lib.hid h7; clear h7 g7)
                  | fail)
              all_goals (go_wp2_with fail; go_roundg (l.length - (k + 1)))
              all_goals first
                | omega
                | exact ⟨k + 1, _, by omega, by omega, by go_num, HR2.out.symm, (by first | (simp; done) | (simp; omega)), OwnS.from (HO.out.below.trans (HB3.out.mono HO.out.le)) (Nat.le_trans HO.out.le HB3.out.size) H7.out, fun e => absurd e (by simp)⟩
    · have HE : Hid (sortS l = L) := Lib.hid (by rw [HL.out, List.take_of_length_le (by omega)])
      go_wp2_with fail
      go_ret
      exact ⟨_, rfl, by rw [HE.out]; exact HO.out⟩
end Go.Proofs.YtmlfiopbdlaaaaaGreat
