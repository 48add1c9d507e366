/- walk over a form with a visit that counts in one captured cell. -/
import Derived.Test.YtedabholcldgbaaGreatDoorCmp
import Derived.Test.YtedabholcldgbaaGreatDoorPure
namespace Go.Proofs.YtedabholcldgbaaGreatDoor
open Go.RowKit Go.Deep

/-- A block of one int. -/
def Cell1 (w : World) (P : Nat) (x : Int) : Prop := w.heap[P]? = some (.cells #[.int .i64 x] 3 (0, 0))
theorem Cell1.cell {w : World} {P : Nat} {x : Int} (h : Cell1 w P x) : w.cell? ⟨P, 0, none⟩ = some (.int .i64 x) := cell_of_one h
theorem Cell1.free {w : World} {P : Nat} {x : Int} (h : Cell1 w P x) : w.frozen? ⟨P, 0, none⟩ = false := free_of_one h
theorem Cell1.lt {w : World} {P : Nat} {x : Int} (h : Cell1 w P x) : P < w.heap.size := lt_of_block h
theorem Cell1.set {w : World} {P : Nat} {x : Int} (h : Cell1 w P x) (y : Int) : Cell1 (w.setCell ⟨P, 0, none⟩ (.int .i64 y)) P y := one_setCell h
theorem Cell1.alloc {w : World} {P : Nat} {x : Int} (h : Cell1 w P x) (o : Obj) : Cell1 (w.alloc o) P x := (Below.heap_alloc w o P h.lt).trans h
theorem Cell1.below {w w' : World} {P : Nat} {x : Int} (h : Cell1 w P x) (hb : Below w.heap.size w w') : Cell1 w' P x := (hb.block P h.lt).trans h
/-- Only block P may have turned. -/
def Only (P : Nat) (w w' : World) : Prop := w.grownBy w' (some P)
theorem Only.refl (P : Nat) (w : World) : Only P w w := ⟨rfl, rfl, rfl, Nat.le_refl _, fun _ _ _ => rfl⟩
theorem Only.trans {P : Nat} {w w' w'' : World} (h : Only P w w') (k : Only P w' w'') : Only P w w'' :=
  ⟨k.os.trans h.os, k.tape.trans h.tape, k.output.trans h.output, Nat.le_trans h.size k.size, fun i hi hne => (k.block i (Nat.lt_of_lt_of_le hi h.size) hne).trans (h.block i hi hne)⟩
theorem Only.alloc {P : Nat} {w w' : World} (h : Only P w w') (o : Obj) : Only P w (w'.alloc o) :=
  h.trans ⟨rfl, rfl, rfl, by simp, fun k hk _ => Below.heap_alloc _ _ _ hk⟩
theorem Only.set {P : Nat} {w w' : World} (h : Only P w w') (u : Value) : Only P w (w'.setCell ⟨P, 0, none⟩ u) :=
  h.trans ⟨rfl, rfl, rfl, by simp [World.setCell], fun k _ hne => Below.heap_setCell _ _ _ _ (by intro e; exact hne (by rw [e]))⟩
theorem Only.of {P : Nat} {w w' : World} (hb : Below w.heap.size w w') : Only P w w' := ⟨hb.os, hb.tape, hb.output, hb.size, fun k hk _ => hb.block k hk⟩
theorem Only.below {P B : Nat} {w w' : World} (h : Only P w w') (hP : B ≤ P) (hB : B ≤ w.heap.size) : Below B w w' :=
  ⟨h.os, h.tape, h.output, h.size, fun k hk => h.block k (by omega) (by intro e; have : k = P := by simpa using e
                                                                        omega)⟩
theorem In.only {P : Nat} {w w' : World} {t : T} (h : In w t) (ho : Only P w w') (hn : ¬ On t P) : In w' t :=
  h.same _ (Nat.lt_succ_self _) fun b hb => ho.block b (h.lt hb) (by intro e; have : b = P := by simpa using e
                                                                     subst this; exact hn hb)

/-- What a visit, the function K over one captured int, does. -/
def VisOk (K : FuncId) (vis : Int → Fm → Int → Int × Bool) : Prop :=
  ∀ (t : T) (d x : Int) (P : Nat) (w : World), In w t → ¬ On t P → Cell1 w P x → 0 ≤ x → x ≤ 4611686018427387904 → 0 ≤ d → d ≤ 4611686018427387904 →
    Calls Tryz.prog K #[t.val, .int .i64 d, .pointer (some ⟨P, 0, none⟩)] w fun e w' => e = .returned (.bool (vis x t.form d).2) ∧ Cell1 w' P (vis x t.form d).1 ∧ Only P w w'

theorem visSize_ok : VisOk 69 visSize := by
  intro t d x P w hin hno hc x0 x1 d0 d1
  have c := hc.cell
  have f := hc.free
  have l := hc.lt
  have HC := Lib.hid hc
  clear hc
  go_enter Tryz.func69, Tryz.ntmps69
  go_wp2
  go_ret
  exact ⟨rfl, (HC.out.set _).alloc _, ((Only.refl _ _).set _).alloc _⟩
theorem visDepth_ok : VisOk 70 visDepth := by
  intro t d x P w hin hno hc x0 x1 d0 d1
  have c := hc.cell
  have f := hc.free
  have l := hc.lt
  have HC := Lib.hid hc
  clear hc
  go_enter Tryz.func70, Tryz.ntmps70
  go_wp2
  go_ret
  exact ⟨rfl, (HC.out.set _).alloc _, ((Only.refl _ _).set _).alloc _⟩

/-- kids: the Kids that count, as a slice. -/
theorem kids_list (t : T) (ht : t.kd = 3) (w : World) :
    Calls Tryz.prog 71 #[t.val] w fun e w' => e = .returned (.slice t.ad t.ks.length t.cp) ∧ Below w.heap.size w w' := by
  have b : (t.kd != 3) = false := by simpa using ht
  clear ht
  go_enter Tryz.func71, Tryz.ntmps71
  go_wp2
  go_ret
  exact ⟨rfl, bel1 _ _⟩
theorem kids_none (t : T) (ht : t.kd ≠ 3) (w : World) :
    Calls Tryz.prog 71 #[t.val] w fun e w' => e = .returned (.slice none 0 0) ∧ Below w.heap.size w w' := by
  have b : (t.kd != 3) = true := by simpa using ht
  clear ht
  go_enter Tryz.func71, Tryz.ntmps71
  go_wp2
  go_ret
  exact ⟨rfl, bel1 _ _⟩
theorem kids_any (t : T) : ∃ (a : Option Addr) (c : Nat) (xs : List T), xs.map T.form = t.form.kids ∧ (Ok t → xs.length ≤ maxLen) ∧ (∀ x ∈ xs, x ∈ t.ks) ∧ (∀ w, In w t → InL w a 0 xs) ∧
    (∀ w, Calls Tryz.prog 71 #[t.val] w fun e w' => e = .returned (.slice a xs.length c) ∧ Below w.heap.size w w') := by
  by_cases h : t.kd = 3
  · exact ⟨t.ad, t.cp, t.ks, by rw [Fm.kids, T.form_kd, if_pos h, T.form_ks], fun o => Nat.le_trans o.le o.cp, fun _ h => h, fun w h => h.inL, fun w => kids_list t h w⟩
  · exact ⟨none, 0, [], by rw [Fm.kids, T.form_kd, if_neg h]; rfl, fun _ => Nat.zero_le _, (fun _ h => by cases h), (fun w _ => by simp [InL]), fun w => kids_none t h w⟩

/-- What is left of the Kids' walk behind the first j of them. -/
def Left (vis : Int → Fm → Int → Int × Bool) (l : List Fm) (d x : Int) (j : Nat) (y : Int) : Prop := walkL vis l d x = walkL vis (l.drop j) d y ∧ 0 ≤ y ∧ y + szL (l.drop j) ≤ 4611686018427387904 ∧ d + szL (l.drop j) ≤ 4611686018427387904
theorem szL_le {l : List Fm} {f : Fm} (h : f ∈ l) : szF f ≤ szL l := by
  induction l with
  | nil => cases h
  | cons g l ih =>
    simp only [szL]
    rcases List.mem_cons.1 h with rfl | h
    · omega
    · have := ih h; omega
theorem Left.start {vis : Int → Fm → Int → Int × Bool} {f : Fm} {d x y : Int} (ht : Tame vis) (hx : 0 ≤ x) (hd : 0 ≤ d) (hb : max x d + szF f ≤ 4611686018427387904) (hy : (vis x f d).1 = y) : Left vis f.kids (d + 1) y 0 y := by
  have h1 := ht.lo x f d hx hd
  have h2 := ht.hi x f d
  rw [hy] at h1 h2
  rw [szF_eq] at hb
  refine ⟨by simp, h1, ?_, ?_⟩ <;> rw [List.drop_zero] <;> omega
theorem Left.at {vis : Int → Fm → Int → Int × Bool} {l : List Fm} {d x y : Int} {j : Nat} (h : Left vis l d x j y) (hj : j < l.length) : max y d + szF l[j] ≤ 4611686018427387904 := by
  obtain ⟨_, _, h2, h3⟩ := h
  rw [List.drop_eq_getElem_cons hj] at h2 h3
  simp only [szL] at h2 h3
  omega
theorem Left.step {vis : Int → Fm → Int → Int × Bool} {l : List Fm} {d x y : Int} {j : Nat} (ht : Tame vis) (hd : 0 ≤ d) (h : Left vis l d x j y) (hj : j < l.length) (hv : (walkF vis l[j] d y).2 = true) : Left vis l d x (j + 1) (walkF vis l[j] d y).1 := by
  obtain ⟨h1, h0, h2, h3⟩ := h
  have hb := walkF_bound ht l[j] d y hd h0
  rw [List.drop_eq_getElem_cons hj] at h1 h2 h3
  simp only [szL] at h2 h3
  rw [walkL, if_pos hv] at h1
  exact ⟨h1, hb.1, by omega, by omega⟩
theorem Left.stop {vis : Int → Fm → Int → Int × Bool} {l : List Fm} {d x y : Int} {j : Nat} (h : Left vis l d x j y) (hj : j < l.length) (hv : (walkF vis l[j] d y).2 = false) : walkL vis l d x = ((walkF vis l[j] d y).1, false) := by
  obtain ⟨h1, _, _, _⟩ := h
  rw [List.drop_eq_getElem_cons hj, walkL, hv] at h1
  simpa using h1
theorem Left.ends {vis : Int → Fm → Int → Int × Bool} {l : List Fm} {d x y : Int} {j : Nat} (h : Left vis l d x j y) (hj : l.length ≤ j) : walkL vis l d x = (y, true) := by
  obtain ⟨h1, _, _, _⟩ := h
  rw [List.drop_of_length_le hj, walkL] at h1
  exact h1
/-- The boxed form lies behind what was there. -/
def Box4 (wr : World) (b : Nat) (t : T) : Prop := wr.heap[b]? = some (.cells #[.int .i64 t.kd, .int .i64 t.nn, .string t.tx, .slice t.ad t.ks.length t.cp] 29 (0, 0))
theorem Box4.cells {w : World} {b : Nat} {t : T} (h : Box4 w b t) : w.cell? ⟨b, 0, none⟩ = some (.int .i64 t.kd) ∧ w.cell? ⟨b, 1, none⟩ = some (.int .i64 t.nn) ∧ w.cell? ⟨b, 2, none⟩ = some (.string t.tx) ∧ w.cell? ⟨b, 3, none⟩ = some (.slice t.ad t.ks.length t.cp) := by
  refine ⟨?_, ?_, ?_, ?_⟩ <;> simp [World.cell?, show w.heap[b]? = _ from h]
theorem Box4.new (w : World) (t : T) : Box4 (w.alloc (.cells #[.int .i64 t.kd, .int .i64 t.nn, .string t.tx, .slice t.ad t.ks.length t.cp] 29)) w.heap.size t := heap_alloc_new w _
theorem Box4.only {w w' : World} {P b : Nat} {t : T} (h : Box4 w b t) (ho : Only P w w') (hne : b ≠ P) : Box4 w' b t :=
  (ho.block b (lt_of_block h) (by intro e; exact hne (by simpa using e))).trans h

set_option maxHeartbeats 1000000 in
set_option maxRecDepth 100000 in
/-- walk, handed the visit visSize. -/
theorem walk_visSize (P : Nat) (n : Nat) : ∀ t : T, SizeOf.sizeOf t < n → ∀ (d x : Int) (w : World), In w t → ¬ On t P → Cell1 w P x →
    0 ≤ x → 0 ≤ d → max x d + szF t.form ≤ 4611686018427387904 →
    Calls Tryz.prog 57 #[t.val, .int .i64 d, .func (.func 69) #[] #[.pointer (some ⟨P, 0, none⟩)]] w
      fun e w' => e = .returned (.bool (walkF visSize t.form d x).2) ∧ Cell1 w' P (walkF visSize t.form d x).1 ∧ Only P w w' := by
  induction n with
  | zero => intro t h; omega
  | succ n ih =>
    intro t hn d x w hin hno hc x0 d0 hb
    have HV := Lib.hid (visSize_ok t d x P)
    have HE := walkF_eq visSize t.form d x
    have IH := Lib.hid ih
    have HB := Lib.hid hb
    have hb1 : x ≤ 4611686018427387904 := by omega
    have hb2 : d ≤ 4611686018427387904 := by omega
    have hP := hc.lt
    have HC := Lib.hid hc
    clear ih hb hc
    obtain ⟨y, hy⟩ : ∃ y, (visSize x t.form d).1 = y := ⟨_, rfl⟩
    rw [hy] at HE HV
    have HY := Lib.hid hy
    clear hy
    cases hv : (visSize x t.form d).2 with
    | false =>
      rw [hv] at HV HE
      rw [if_neg (by simp)] at HE
      rw [HE]
      clear hv HE
      go_enter Tryz.func57, Tryz.ntmps57
      go_wp2_with (go_at_call 69; refine (HV.out _ (hin.alloc _) hno (HC.out.alloc _) x0 hb1 d0 hb2).mono ?_; rintro e w2 ⟨rfl, hc2, ho2⟩)
      go_ret
      exact ⟨rfl, hc2, ((Only.refl _ _).alloc _).trans ho2⟩
    | true =>
      rw [hv] at HV HE
      rw [if_pos rfl] at HE
      clear hv
      obtain ⟨a, c, xs, hxs, hlen, hmem, hInL, hkids⟩ := kids_any t
      have hlen := hlen hin.ok
      unfold maxLen at hlen
      have HK := Lib.hid hkids
      have HX := Lib.hid hxs
      have HI := Lib.hid hInL
      have HM := Lib.hid hmem
      have hs := Left.start (f := t.form) visSize_tame x0 d0 HB.out HY.out
      rw [← hxs] at hs HE
      rw [HE]
      have HS := Lib.hid hs
      clear hxs hkids hInL hmem HB HY hs HX HE
      go_enter Tryz.func57, Tryz.ntmps57
      go_wp2_with (first
        | (go_at_call 69; refine (HV.out _ (hin.alloc _) hno (HC.out.alloc _) x0 hb1 d0 hb2).mono ?_; rintro e w2 ⟨rfl, hc2, ho2⟩; have hbx := (Box4.new w t).only ho2 (by omega); obtain ⟨b0, b1, b2, b3⟩ := hbx.cells; have HC2 := Lib.hid hc2; clear hbx hc2)
        | (go_at_call 71; refine (HK.out _).mono ?_; rintro e w3 ⟨rfl, hB3⟩))
      go_loopg [17] (xs.length) (fun m i wr => ∃ (j : Nat) (z : Int), j ≤ xs.length ∧ m = xs.length - j ∧ i = .int .i64 j ∧ Left visSize (xs.map T.form) (d + 1) y j z ∧ Cell1 wr P z ∧ Only P w wr)
      case atStart => exact ⟨0, y, by omega, rfl, rfl, HS.out, HC2.out.below hB3, (((Only.refl _ _).alloc _).trans ho2).trans (Only.of hB3)⟩
      case round =>
        obtain ⟨j, z, hj, rfl, rfl, hL, hcz, hoz⟩ := hrel
        have HCZ := Lib.hid hcz
        by_cases hlt : j < xs.length
        · obtain ⟨⟨b, o, rfl, hx0, hx1, hx2, hx3⟩, hinj⟩ := (HI.out wr (hin.only hoz hno)).at j hlt
          have lb : b < wr.heap.size := World.block_lt_of_cell? _ _ hx0
          have hmj := HM.out _ (List.getElem_mem hlt)
          have hat := hL.at (by simpa using hlt)
          simp only [List.getElem_map] at hat
          have HR := Lib.hid (IH.out xs[j] (by have := T.kid_lt hmj; omega) (d + 1) z (wr.alloc (.cells #[.int .i64 xs[j].kd, .int .i64 xs[j].nn, .string xs[j].tx, .slice xs[j].ad xs[j].ks.length xs[j].cp] 29)) (hinj.alloc _) (fun ho => hno (.kid hmj ho)) (hcz.alloc _) hL.2.1 (by omega) hat)
          cases hv : (walkF visSize xs[j].form (d + 1) z).2 with
          | true =>
            rw [hv] at HR
            have HST := Lib.hid (hL.step visSize_tame (by omega) (by simpa using hlt) (by simpa using hv))
            have HL := Lib.hid hL
            clear hv hcz hat hL b0 b1 b2 b3
            go_wp2_with (go_at_call 57; refine (HR.out).mono ?_; rintro e w4 ⟨rfl, hc4, ho4⟩)
            go_roundg (xs.length - (j + 1))
            case measure => omega
            case rel => exact ⟨j + 1, _, by omega, rfl, by go_num, HST.out, by simpa using hc4, (hoz.alloc _).trans ho4⟩
          | false =>
            rw [hv] at HR
            have HST := Lib.hid (hL.stop (by simpa using hlt) (by simpa using hv))
            clear hv hcz hat hL b0 b1 b2 b3
            go_wp2_with (go_at_call 57; refine (HR.out).mono ?_; rintro e w4 ⟨rfl, hc4, ho4⟩)
            go_ret
            exact ⟨ret_bool (by rw [HST.out]), by rw [HST.out]; simpa using hc4, (hoz.alloc _).trans ho4⟩
        · have HE := Lib.hid (hL.ends (by simp; omega))
          clear hL hcz
          go_wp2_with fail
          go_ret
          exact ⟨ret_bool (by rw [HE.out]), by rw [HE.out]; exact HCZ.out, hoz⟩
end Go.Proofs.YtedabholcldgbaaGreatDoor
