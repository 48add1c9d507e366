/- The scanner's run and skip. -/
import Derived.Test.YtedabholcldgbaaGreatDoorScan
import Derived.Deep.QuietTactic
import Derived.BigQuiet
namespace Go.Proofs.YtedabholcldgbaaGreatDoor
open Go.RowKit Go.Deep

section
variable {base : Nat} {w w' : World} {R : Nat} {s : ByteArray} {pos : Nat} {ov : Value} {L : List Lv} {tight : Bool}
/-- The scanner's own block has turned, and nothing else of it. -/
theorem Scan.setR (h : Scan base w R s pos ov L tight) {pos' : Nat} {tight' : Bool} (hR : w'.heap[R]? = some (.cells #[.string s, .int .i64 pos', ov, .bool tight'] 94 (0, 0)))
    (ho : ∀ k, k < w.heap.size → k ≠ R → w'.heap[k]? = w.heap[k]?) (hsz : w.heap.size ≤ w'.heap.size) : Scan base w' R s pos' ov L tight' := by
  have hll := h.live_lt
  have hnd := h.nodup
  simp only [live, List.nodup_cons] at hnd
  have hne : ∀ k, k ∈ ov.ownBlock.toList ++ L.flatMap (fun p => p.1.ownBlock.toList) → k ≠ R := fun k hk e => hnd.1 (e ▸ hk)
  have hsame : ∀ k, k ∈ ov.ownBlock.toList ++ L.flatMap (fun p => p.1.ownBlock.toList) → w'.heap[k]? = w.heap[k]? := fun k hk =>
    ho k (hll k (by simp only [live]; exact List.mem_cons_of_mem _ hk)).2 (hne k hk)
  refine ⟨hR, own_same h.rows fun k hk => hsame k (List.mem_append_left _ (by rw [hk]; simp)), fun p hp => ⟨own_same (h.lvl p hp).1 fun k hk => hsame k (List.mem_append_right _ (List.mem_flatMap.2 ⟨p, hp, by rw [hk]; simp⟩)), fun t ht => ?_⟩, h.nodup, h.hR, Nat.le_trans h.hw hsz, h.hi⟩
  obtain ⟨hi, hof⟩ := (h.lvl p hp).2 t ht
  exact ⟨hi.same _ (Nat.lt_succ_self _) fun b hb => ho b (hi.lt hb) (fun e => hof b hb (by rw [e]; simp [live])), hof⟩
theorem Scan.cells (h : Scan base w R s pos ov L tight) : w.cell? ⟨R, 0, none⟩ = some (.string s) ∧ w.cell? ⟨R, 1, none⟩ = some (.int .i64 pos) ∧ w.cell? ⟨R, 2, none⟩ = some ov ∧ w.cell? ⟨R, 3, none⟩ = some (.bool tight) ∧
    w.frozen? ⟨R, 1, none⟩ = false ∧ w.frozen? ⟨R, 2, none⟩ = false ∧ w.frozen? ⟨R, 3, none⟩ = false := by
  refine ⟨?_, ?_, ?_, ?_, ?_, ?_, ?_⟩ <;> simp [World.cell?, World.frozen?, h.blk]
theorem Scan.setPos (h : Scan base w R s pos ov L tight) (q : Nat) : Scan base (w.setCell ⟨R, 1, none⟩ (.int .i64 q)) R s q ov L tight :=
  h.setR (heap_setCell_same w R 1 _ _ _ h.blk) (fun k _ hk => Below.heap_setCell _ _ _ _ hk) (by simp)
theorem Scan.setTight (h : Scan base w R s pos ov L tight) (b : Bool) : Scan base (w.setCell ⟨R, 3, none⟩ (.bool b)) R s pos ov L b :=
  h.setR (heap_setCell_same w R 3 _ _ _ h.blk) (fun k _ hk => Below.heap_setCell _ _ _ _ hk) (by simp)
theorem Scan.drewN (h : Scan base w R s pos ov L tight) (n : Nat) : Scan base (w.drewN n) R s pos ov L tight := h.below ⟨rfl, rfl, rfl, Nat.le_refl _, fun _ _ => rfl⟩
end
theorem below_setR {B : Nat} {a w : World} (h : Below B a w) {R o : Nat} (hR : B ≤ R) (u : Value) : Below B a (w.setCell ⟨R, o, none⟩ u) := h.setCell (p := ⟨R, o, none⟩) hR u

/-- The longest row of bytes of which p holds. -/
def spanL (p : Int → Bool) (l : List UInt8) : List UInt8 := l.takeWhile fun c => p (c.toNat : Int)
/-- p holds from pos up to q. -/
def Held (p : Int → Bool) (s : ByteArray) (pos q : Nat) : Prop := pos ≤ q ∧ q ≤ s.size ∧ ∀ j (h : j < s.size), pos ≤ j → j < q → p (s[j].toNat : Int) = true
theorem Held.step {p : Int → Bool} {s : ByteArray} {pos q : Nat} (h : Held p s pos q) (hq : q < s.size) (hp : p (s[q].toNat : Int) = true) : Held p s pos (q + 1) :=
  ⟨by have := h.1; omega, hq, fun j hj h1 h2 => by
    by_cases e : j = q
    · subst e; exact hp
    · exact h.2.2 j hj h1 (by omega)⟩
theorem Held.span {p : Int → Bool} {s : ByteArray} {pos q : Nat} (h : Held p s pos q) (hend : ∀ hq : q < s.size, p (s[q].toNat : Int) = false) : spanL p (s.data.toList.drop pos) = (s.data.toList.drop pos).take (q - pos) ∧ (spanL p (s.data.toList.drop pos)).length = q - pos := by
  obtain ⟨h1, h2, h3⟩ := h
  have hl : s.data.toList.length = s.size := by simp
  have key : ∀ (n pos : Nat), n = q - pos → pos ≤ q → (∀ j (hj : j < s.size), pos ≤ j → j < q → p (s[j].toNat : Int) = true) → spanL p (s.data.toList.drop pos) = (s.data.toList.drop pos).take (q - pos) := by
    intro n
    induction n with
    | zero =>
      intro pos hn hle _
      have e : pos = q := by omega
      subst e
      rw [Nat.sub_self, List.take_zero]
      by_cases hq : pos < s.size
      · rw [List.drop_eq_getElem_cons (by omega)]
        unfold spanL
        rw [List.takeWhile_cons]
        have hb : p ((s.data.toList[pos]'(by omega)).toNat : Int) = false := hend hq
        rw [hb]; rfl
      · rw [List.drop_of_length_le (by omega)]; rfl
    | succ n ih =>
      intro pos hn hle hall
      have hq : pos < s.size := by omega
      rw [List.drop_eq_getElem_cons (by omega)]
      unfold spanL
      rw [List.takeWhile_cons]
      have hb : p ((s.data.toList[pos]'(by omega)).toNat : Int) = true := hall pos hq (Nat.le_refl _) (by omega)
      rw [hb, if_pos rfl, show q - pos = (q - (pos + 1)) + 1 by omega, List.take_succ_cons]
      have := ih (pos + 1) (by omega) (by omega) fun j hj ha hb => hall j hj (by omega) hb
      unfold spanL at this
      rw [this]
  have e := key (q - pos) pos rfl h1 h3
  refine ⟨e, ?_⟩
  rw [e, List.length_take, List.length_drop, hl]; omega

def Ran (base : Nat) (w w' : World) (R : Nat) (s : ByteArray) (pos : Nat) (ov : Value) (L : List Lv) (tight : Bool) (p : Int → Bool) (e : Ending) : Prop :=
  ∃ d : ByteArray, e = .returned (.string d) ∧ d.data.toList = spanL p (s.data.toList.drop pos) ∧ Scan base w' R s (pos + d.size) ov L tight ∧ Below base w w' ∧ pos + d.size ≤ s.size
theorem Ran.fin {base : Nat} {w wr : World} {R : Nat} {s : ByteArray} {pos q : Nat} {ov : Value} {L : List Lv} {tight : Bool} {p : Int → Bool} {n : Nat} (hh : Held p s pos q)
    (hsp : spanL p (s.data.toList.drop pos) = (s.data.toList.drop pos).take (q - pos) ∧ (spanL p (s.data.toList.drop pos)).length = q - pos) (hS : Scan base wr R s q ov L tight) (hB : Below base w wr) :
    Ran base w (wr.drewN n) R s pos ov L tight p (.returned (.string (s.extract pos q))) := by
  have e : (s.extract pos q).data.toList = spanL p (s.data.toList.drop pos) := by
    rw [hsp.1]; simp [ByteArray.data_extract, Array.toList_extract, List.extract_eq_take_drop]
  have e2 : (s.extract pos q).size = q - pos := by
    have := hh.1; have := hh.2.1
    simp [ByteArray.size_extract]; omega
  refine ⟨_, rfl, e, ?_, below_drewN hB _, ?_⟩
  · rw [e2, show pos + (q - pos) = q by have := hh.1; omega]; exact hS.drewN n
  · have := hh.1; have := hh.2.1; omega
def nnlB (b : Int) : Bool := b != 10
theorem notNl_ok : BOk 143 nnlB := by
  intro b w
  go_enter Tryz.func143, Tryz.ntmps143
  go_wp2
  all_goals
    go_ret
    exact ⟨rfl, rfl⟩

set_option maxHeartbeats 2000000 in
set_option maxRecDepth 100000 in
theorem run_tok (base : Nat) (w : World) (R : Nat) (s : ByteArray) (pos : Nat) (ov : Value) (L : List Lv) (tight : Bool) (h : Scan base w R s pos ov L tight) (hpos : pos ≤ s.size) (hs : s.size ≤ 60000) :
    Calls Tryz.prog 142 #[.pointer (some ⟨R, 0, none⟩), .func (.func 133) #[] #[]] w fun e w' => Ran base w w' R s pos ov L tight tokB e := by
  obtain ⟨c0, c1, c2, c3, f1, f2, f3⟩ := h.cells
  have H := Lib.hid h
  have hbR := h.hR
  clear h
  go_enter Tryz.func142, Tryz.ntmps142
  go_wp2_with fail
  clear c0 c1 c2 c3 f1 f2 f3
  go_loopg [] (s.size - pos) (fun m wr => ∃ q : Nat, m = s.size - q ∧ Held tokB s pos q ∧ Scan base wr R s q ov L tight ∧ Below base w wr)
  case atStart => exact ⟨pos, rfl, ⟨Nat.le_refl _, hpos, fun j _ h1 h2 => absurd h1 (by omega)⟩, H.out, Below.refl _ _⟩
  case round =>
    obtain ⟨q, rfl, hh, hS, hB⟩ := hrel
    obtain ⟨c0, c1, c2, c3, f1, f2, f3⟩ := hS.cells
    have HS := Lib.hid hS
    have HB := Lib.hid hB
    have HH := Lib.hid hh
    have hq1 := hh.1
    have hq2 := hh.2.1
    clear hS hB hh c2 c3 f2 f3
    by_cases hlt : q < s.size
    · have hP := tok_ok (s[q].toNat : Int)
      have hq3 : (0 : Int) ≤ (q : Int) := by omega
      have hq4 : (q : Int) < (s.size : Int) := by omega
      cases hp : tokB (s[q].toNat : Int) with
      | true =>
        rw [hp] at hP
        have HP := Lib.hid hP
        have HST := Lib.hid (HH.out.step hlt hp)
        clear hp hP
        have hd : decide (q < s.size) = true := by simpa using hlt
        go_wp2_with fail
        go_quiet ((go_at_call 133; exact Calls.quiet_of_same ((HP.out _).mono fun _ _ ⟨he, hw⟩ => ⟨he, hw.symm⟩)))
        go_wp2_with fail
        go_roundg (s.size - (q + 1))
        case measure => omega
        case rel => exact ⟨q + 1, rfl, HST.out, (HS.out.setPos (q + 1)).drewN nq, below_drewN (below_setR HB.out hbR _) _⟩
      | false =>
        rw [hp] at hP
        have HP := Lib.hid hP
        have HSP := Lib.hid (HH.out.span fun _ => hp)
        clear hp hP
        have hd : decide (q < s.size) = true := by simpa using hlt
        go_wp2_with fail
        go_quiet ((go_at_call 133; exact Calls.quiet_of_same ((HP.out _).mono fun _ _ ⟨he, hw⟩ => ⟨he, hw.symm⟩)))
        go_wp2_with fail
        have hp0 : (0 : Int) ≤ (pos : Int) := by omega
        have hp1 : (pos : Int) ≤ (q : Int) := by omega
        have hp2 : (q : Int) ≤ (s.size : Int) := by omega
        go_quiet (fail)
        go_wp2_with fail
        go_ret
        exact Ran.fin HH.out HSP.out (HS.out.drewN _) (below_drewN HB.out _)
    · have HSP := Lib.hid (HH.out.span fun h => absurd h hlt)
      have hd : decide (q < s.size) = false := by simpa using hlt
      have hp0 : (0 : Int) ≤ (pos : Int) := by omega
      have hp1 : (pos : Int) ≤ (q : Int) := by omega
      have hp2 : (q : Int) ≤ (s.size : Int) := by omega
      go_wp2_with fail
      go_quiet (fail)
      go_wp2_with fail
      go_quiet (fail)
      go_wp2_with fail
      go_ret
      exact Ran.fin HH.out HSP.out (HS.out.drewN _) (below_drewN HB.out _)

set_option maxHeartbeats 2000000 in
set_option maxRecDepth 100000 in
theorem run_notNl (base : Nat) (w : World) (R : Nat) (s : ByteArray) (pos : Nat) (ov : Value) (L : List Lv) (tight : Bool) (h : Scan base w R s pos ov L tight) (hpos : pos ≤ s.size) (hs : s.size ≤ 60000) :
    Calls Tryz.prog 142 #[.pointer (some ⟨R, 0, none⟩), .func (.func 143) #[] #[]] w fun e w' => Ran base w w' R s pos ov L tight nnlB e := by
  obtain ⟨c0, c1, c2, c3, f1, f2, f3⟩ := h.cells
  have H := Lib.hid h
  have hbR := h.hR
  clear h
  go_enter Tryz.func142, Tryz.ntmps142
  go_wp2_with fail
  clear c0 c1 c2 c3 f1 f2 f3
  go_loopg [] (s.size - pos) (fun m wr => ∃ q : Nat, m = s.size - q ∧ Held nnlB s pos q ∧ Scan base wr R s q ov L tight ∧ Below base w wr)
  case atStart => exact ⟨pos, rfl, ⟨Nat.le_refl _, hpos, fun j _ h1 h2 => absurd h1 (by omega)⟩, H.out, Below.refl _ _⟩
  case round =>
    obtain ⟨q, rfl, hh, hS, hB⟩ := hrel
    obtain ⟨c0, c1, c2, c3, f1, f2, f3⟩ := hS.cells
    have HS := Lib.hid hS
    have HB := Lib.hid hB
    have HH := Lib.hid hh
    have hq1 := hh.1
    have hq2 := hh.2.1
    clear hS hB hh c2 c3 f2 f3
    by_cases hlt : q < s.size
    · have hP := notNl_ok (s[q].toNat : Int)
      have hq3 : (0 : Int) ≤ (q : Int) := by omega
      have hq4 : (q : Int) < (s.size : Int) := by omega
      cases hp : nnlB (s[q].toNat : Int) with
      | true =>
        rw [hp] at hP
        have HP := Lib.hid hP
        have HST := Lib.hid (HH.out.step hlt hp)
        clear hp hP
        have hd : decide (q < s.size) = true := by simpa using hlt
        go_wp2_with fail
        go_quiet ((go_at_call 143; exact Calls.quiet_of_same ((HP.out _).mono fun _ _ ⟨he, hw⟩ => ⟨he, hw.symm⟩)))
        go_wp2_with fail
        go_roundg (s.size - (q + 1))
        case measure => omega
        case rel => exact ⟨q + 1, rfl, HST.out, (HS.out.setPos (q + 1)).drewN nq, below_drewN (below_setR HB.out hbR _) _⟩
      | false =>
        rw [hp] at hP
        have HP := Lib.hid hP
        have HSP := Lib.hid (HH.out.span fun _ => hp)
        clear hp hP
        have hd : decide (q < s.size) = true := by simpa using hlt
        go_wp2_with fail
        go_quiet ((go_at_call 143; exact Calls.quiet_of_same ((HP.out _).mono fun _ _ ⟨he, hw⟩ => ⟨he, hw.symm⟩)))
        go_wp2_with fail
        have hp0 : (0 : Int) ≤ (pos : Int) := by omega
        have hp1 : (pos : Int) ≤ (q : Int) := by omega
        have hp2 : (q : Int) ≤ (s.size : Int) := by omega
        go_quiet (fail)
        go_wp2_with fail
        go_ret
        exact Ran.fin HH.out HSP.out (HS.out.drewN _) (below_drewN HB.out _)
    · have HSP := Lib.hid (HH.out.span fun h => absurd h hlt)
      have hd : decide (q < s.size) = false := by simpa using hlt
      have hp0 : (0 : Int) ≤ (pos : Int) := by omega
      have hp1 : (pos : Int) ≤ (q : Int) := by omega
      have hp2 : (q : Int) ≤ (s.size : Int) := by omega
      go_wp2_with fail
      go_quiet (fail)
      go_wp2_with fail
      go_quiet (fail)
      go_wp2_with fail
      go_ret
      exact Ran.fin HH.out HSP.out (HS.out.drewN _) (below_drewN HB.out _)

theorem size_list (d : ByteArray) : d.size = d.data.toList.length := by simp
/-- skip: over a blank, or over a comment. -/
def Moved (base : Nat) (w w' : World) (R : Nat) (s : ByteArray) (ov : Value) (L : List Lv) (q : Nat) : Prop := Scan base w' R s q ov L false ∧ Below base w w' ∧ q ≤ s.size
set_option maxHeartbeats 1000000 in
set_option maxRecDepth 100000 in
theorem skip_comment (base : Nat) (w : World) (R : Nat) (s : ByteArray) (pos : Nat) (ov : Value) (L : List Lv) (tight : Bool) (h : Scan base w R s pos ov L tight) (hpos : pos ≤ s.size) (hs : s.size ≤ 60000) :
    Calls Tryz.prog 110 #[.pointer (some ⟨R, 0, none⟩), .int .u8 59] w fun e w' => e = .returned (.tuple #[]) ∧ Moved base w w' R s ov L (pos + (spanL nnlB (s.data.toList.drop pos)).length) := by
  have HR := Lib.hid (run_notNl base w R s pos ov L tight h hpos hs)
  have hbR := h.hR
  clear h
  go_enter Tryz.func110, Tryz.ntmps110
  go_wp2_with (go_at_call 142; refine HR.out.mono ?_; rintro e w2 ⟨d, rfl, hd, hS, hB, hle⟩; obtain ⟨c0, c1, c2, c3, f1, f2, f3⟩ := hS.cells; have HS := Lib.hid hS; have HB := Lib.hid hB; have HD := Lib.hid hd; clear hS hB hd)
  go_end0
  refine ⟨rfl, ?_, below_setR HB.out hbR _, ?_⟩
  · rw [← HD.out, ← size_list]; exact HS.out.setTight false
  · rw [← HD.out, ← size_list]; exact hle
set_option maxHeartbeats 1000000 in
theorem skip_blank (base : Nat) (w : World) (R : Nat) (s : ByteArray) (pos : Nat) (ov : Value) (L : List Lv) (tight : Bool) (b : Int) (h : Scan base w R s pos ov L tight) (hpos : pos < s.size) (hs : s.size ≤ 60000) (hb : b ≠ 59) :
    Calls Tryz.prog 110 #[.pointer (some ⟨R, 0, none⟩), .int .u8 b] w fun e w' => e = .returned (.tuple #[]) ∧ Moved base w w' R s ov L (pos + 1) := by
  obtain ⟨c0, c1, c2, c3, f1, f2, f3⟩ := h.cells
  have H := Lib.hid h
  have hbR := h.hR
  have hb' : (b == 59) = false := by simpa using hb
  clear h hb
  go_enter Tryz.func110, Tryz.ntmps110
  go_wp2_with fail
  go_end0
  exact ⟨rfl, (H.out.setPos (pos + 1)).setTight false, below_setR (below_setR (Below.refl _ _) hbR _) hbR _, by omega⟩
end Go.Proofs.YtedabholcldgbaaGreatDoor
