/- Several texts, one behind the other. -/
import Derived.Test.YtedabholcldgbaaGreatDoorYItems
import Derived.Test.YtedabholcldgbaaGreatDoorYPure
import Derived.Test.YtedabholcldgbaaGreatDoorShelf
import Derived.Deep.QuietTactic
import Derived.BigQuiet
import Derived.RangeFuncNested
import Derived.RangeFuncBound
import Derived.RangeFuncCalls
import Derived.RangeFuncLeaves
import Derived.Shelf.Abstract
import Derived.Shelf.RegionOpen
import Derived.WalkKit
import Derived.OwnWalkIn
import Derived.TacticsInMore
import Derived.LoopNIn
import Derived.LoopIn
import Derived.RangeFuncWrites
import Derived.Test.YtedabholcldgbaaGreatDoorYOpen
import Derived.Deep.RegionHeld3
import Derived.Shelf.Strings.SlTrimAscii
import Derived.Test.YtedabholcldgbaaGreatDoorRead
import Derived.Test.YtedabholcldgbaaGreatDoorHead
import Derived.Deep.AppendLies
import Derived.Test.YtedabholcldgbaaGreatDoorScan
import Derived.Test.YtedabholcldgbaaGreatDoorWalk
import Derived.Test.YtedabholcldgbaaGreatDoorQTok
import Derived.Test.YtedabholcldgbaaGreatDoorCmp
import Derived.StillTailTactics
import Derived.Test.YtedabholcldgbaaGreatDoorBase
import Derived.Test.YtedabholcldgbaaGreatDoorLaid
import Derived.Test.YtedabholcldgbaaGreatDoorBlk
import Derived.Test.YtedabholcldgbaaGreatDoorReadPure
import Derived.Test.YtedabholcldgbaaGreatDoorRef3
import Derived.Test.YtedabholcldgbaaGreatDoorYPast
import Derived.Test.YtedabholcldgbaaGreatDoorAppForm
import Derived.Test.YtedabholcldgbaaGreatDoorBuf
import Derived.Test.YtedabholcldgbaaGreatDoorRef1

/- openBehind along the reader's steps within a line. Plain. -/
namespace Go.Proofs.YtedabholcldgbaaGreatDoor.Y
open Go.RowKit Go.Deep

theorem mem_span (p : Int → Bool) : ∀ (l : List UInt8) {c : UInt8}, c ∈ spanL p l → p (c.toNat : Int) = true
  | [], c, h => by simp [spanL] at h
  | b :: r, c, h => by
    unfold spanL at h
    rw [List.takeWhile_cons] at h
    cases hb : p (b.toNat : Int) with
    | true =>
      rw [hb] at h
      simp only [if_true] at h
      rcases List.mem_cons.1 h with rfl | h
      · exact hb
      · exact mem_span p r (by unfold spanL; exact h)
    | false =>
      rw [hb] at h
      simp at h
theorem ob_tok : ∀ (x y : List UInt8) (o : Int), (∀ c ∈ x, tokB (c.toNat : Int) = true) → obF (x ++ y) false o = obF y false o
  | [], y, o, _ => by simp
  | b :: x, y, o, h => by
    have hb := h b (by simp)
    unfold tokB plainB at hb
    simp only [Bool.and_eq_true, bne_iff_ne, ne_eq, decide_eq_true_eq] at hb
    rw [List.cons_append, obF, if_neg (by omega), if_neg (by simp), if_neg (by simp), if_neg (by omega), if_neg (by omega), if_neg (by omega)]
    exact ob_tok x y o fun c hc => h c (by simp [hc])
/-- Over a text that ends, with its closing quote. -/
theorem ob_text (m : Nat) : ∀ (l : List UInt8), l.length ≤ m → ∀ {bs : List UInt8} {n : Nat}, txtL l = .done bs n → (∀ y o, obF (l.take n ++ y) true o = obF y false o) ∧ (∀ c ∈ l.take n, c ≠ 10) := by
  induction m with
  | zero =>
    intro l hl bs n h
    have e : l = [] := List.length_eq_zero_iff.1 (by omega)
    subst e
    rw [txtL] at h; cases h
  | succ m ih =>
    intro l hl bs n h
    cases l with
    | nil => rw [txtL] at h; cases h
    | cons b r =>
      simp only [List.length_cons] at hl
      rw [txtL_cons] at h
      have pre : ∀ (t : TX) (a : List UInt8) (j : Nat), t.pre a j = .done bs n → ∃ bs' k', t = .done bs' k' ∧ n = j + k' := by
        intro t a j ht
        cases t with
        | err e => cases ht
        | done bs' k' => simp only [TX.pre, TX.done.injEq] at ht; exact ⟨bs', k', rfl, ht.2.symm⟩
      split at h
      · rename_i hb
        cases h
        refine ⟨fun y o => ?_, fun c hc => ?_⟩
        · rw [List.take_succ_cons, List.take_zero, List.cons_append, List.nil_append, obF, if_pos hb]; rfl
        · simp at hc; subst hc; intro e; rw [e] at hb; revert hb; decide
      · rename_i hb
        split at h
        · rename_i hb2
          cases r with
          | nil => cases h
          | cons c r' =>
            simp only at h
            split at h
            · rename_i hu
              obtain ⟨bs', k', ht, rfl⟩ := pre _ _ _ h
              simp only [List.length_cons] at hl
              obtain ⟨i1, i2⟩ := ih r' (by omega) ht
              rw [show 2 + k' = k' + 1 + 1 by omega, List.take_succ_cons, List.take_succ_cons]
              refine ⟨fun y o => ?_, fun d hd => ?_⟩
              · rw [List.cons_append, obF, if_neg hb, if_pos ⟨rfl, hb2⟩, List.cons_append, List.drop_succ_cons, List.drop_zero]
                exact i1 y o
              · rcases List.mem_cons.1 hd with rfl | hd
                · intro e; rw [e] at hb2; revert hb2; decide
                · rcases List.mem_cons.1 hd with rfl | hd
                  · intro e; rw [e] at hu; revert hu; decide
                  · exact i2 d hd
            · cases h
        · rename_i hb2
          split at h
          · rename_i hp
            obtain ⟨bs', k', ht, rfl⟩ := pre _ _ _ h
            obtain ⟨i1, i2⟩ := ih r (by omega) ht
            rw [show 1 + k' = k' + 1 by omega, List.take_succ_cons]
            refine ⟨fun y o => ?_, fun d hd => ?_⟩
            · rw [List.cons_append, obF, if_neg hb, if_neg (fun h => hb2 h.2), if_pos rfl]
              exact i1 y o
            · rcases List.mem_cons.1 hd with rfl | hd
              · intro e; rw [e] at hp; revert hp; decide
              · exact i2 d hd
          · cases h
/-- A step within a line: openBehind's count goes as the open lists do. -/
theorem ob_step {s : ByteArray} {pos : Nat} {O : List (List Fm)} {top : List Fm} {t : Bool} {q : Nat} {O' : List (List Fm)} {top' : List Fm} {t' : Bool} (hp : pos < s.size) (h : stepS s pos s[pos].toNat O top t = .ok q O' top' t') (h59 : s[pos].toNat ≠ 59) (h10 : s[pos].toNat ≠ 10) :
    (∀ y o, obF ((s.data.toList.drop pos).take (q - pos) ++ y) false o = obF y false (stD s[pos] o)) ∧ ∀ c ∈ (s.data.toList.drop pos).take (q - pos), c ≠ 10 := by
  have hdp := drop_byte' s pos hp
  have ne10 : s[pos] ≠ 10 := fun e => h10 (by rw [e]; rfl)
  have one : ∀ (b : UInt8) (r : List UInt8), (b :: r).take (pos + 1 - pos) = [b] := fun b r => by rw [show pos + 1 - pos = 1 by omega]; rfl
  unfold stepS at h
  rw [if_neg h59] at h
  rw [hdp]
  by_cases hb : blankB (s[pos].toNat : Int) = true
  · rw [if_pos hb] at h
    injection h with e1 e2 e3 e4
    subst e1
    rw [one]
    have hne : s[pos].toNat ≠ 34 ∧ s[pos].toNat ≠ 40 ∧ s[pos].toNat ≠ 41 := by
      unfold blankB at hb
      simp only [Bool.or_eq_true, beq_iff_eq] at hb
      omega
    refine ⟨fun y o => ?_, fun c hc => by simp at hc; subst hc; exact ne10⟩
    rw [List.cons_append, List.nil_append, obF, if_neg hne.1, if_neg (by simp), if_neg (by simp), if_neg h59, if_neg hne.2.1, if_neg hne.2.2]
    unfold stD
    rw [if_neg hne.2.1, if_neg hne.2.2]
  · rw [if_neg hb] at h
    by_cases h40 : s[pos].toNat = 40
    · rw [if_pos h40] at h
      injection h with e1 e2 e3 e4
      subst e1
      rw [one]
      refine ⟨fun y o => ?_, fun c hc => by simp at hc; subst hc; exact ne10⟩
      rw [List.cons_append, List.nil_append, obF, if_neg (by omega), if_neg (by simp), if_neg (by simp), if_neg h59, if_pos h40]
      unfold stD
      rw [if_pos h40]
    · rw [if_neg h40] at h
      by_cases h41 : s[pos].toNat = 41
      · rw [if_pos h41] at h
        unfold closeS at h
        cases hl : O.getLast? with
        | none => rw [hl] at h; cases h
        | some l =>
          rw [hl] at h
          injection h with e1 e2 e3 e4
          subst e1
          rw [one]
          refine ⟨fun y o => ?_, fun c hc => by simp at hc; subst hc; exact ne10⟩
          rw [List.cons_append, List.nil_append, obF, if_neg (by omega), if_neg (by simp), if_neg (by simp), if_neg h59, if_neg h40, if_pos h41]
          unfold stD
          rw [if_neg h40, if_pos h41]
      · rw [if_neg h41] at h
        have hD : ∀ o, stD s[pos] o = o := fun o => by unfold stD; rw [if_neg h40, if_neg h41]
        split at h
        · cases h
        · split at h
          · cases h
          · by_cases h34 : s[pos].toNat = 34
            · rw [if_pos h34] at h
              unfold textS at h
              split at h
              · cases h
              · rename_i bs n htx
                split at h
                · cases h
                · injection h with e1 e2 e3 e4
                  subst e1
                  obtain ⟨i1, i2⟩ := ob_text _ _ (Nat.le_refl _) htx
                  rw [show pos + n + 1 - pos = n + 1 by omega, List.take_succ_cons]
                  refine ⟨fun y o => ?_, fun c hc => ?_⟩
                  · rw [List.cons_append, obF, if_pos h34, hD]
                    exact i1 y o
                  · rcases List.mem_cons.1 hc with rfl | hc
                    · exact ne10
                    · exact i2 c hc
            · rw [if_neg h34] at h
              unfold tokS at h
              split at h
              · cases h
              · rename_i k n tt htk
                injection h with e1 e2 e3 e4
                subst e1
                rw [← hdp, show pos + (spanB tokB s pos).size - pos = (spanB tokB s pos).size by omega, spanB_size]
                have ht : (s.data.toList.drop pos).take (spanL tokB (s.data.toList.drop pos)).length = spanL tokB (s.data.toList.drop pos) := by
                  unfold spanL
                  exact (List.prefix_iff_eq_take.1 (List.takeWhile_prefix _)).symm
                have hall : ∀ c ∈ spanL tokB (s.data.toList.drop pos), tokB (c.toNat : Int) = true := fun c hc => mem_span _ _ hc
                rw [ht]
                refine ⟨fun y o => ?_, fun c hc e => ?_⟩
                · rw [hD]; exact ob_tok _ y o hall
                · have := hall c hc
                  rw [e] at this
                  revert this; decide
end Go.Proofs.YtedabholcldgbaaGreatDoor.Y

/- strings.Cut at one byte: with no word on the program's variables. -/
namespace Go.Proofs.YtedabholcldgbaaGreatDoor.Y
open Go.RowKit Go.Deep

theorem cut_no (s : ByteArray) (c : UInt8) (h : Lib.indexByte s.data.toList c = -1) (w : World) :
    Calls Tryz.prog 90 #[.string s, .string ⟨#[c]⟩] w fun e w' => e = .returned (.tuple #[.string s, .string ⟨#[]⟩, .bool false]) ∧ w = w' := by
  have H1 : Hid (∀ W, Calls Tryz.prog 131 #[.string s, .string ⟨#[c]⟩] W fun e w' => e = .returned (.tuple #[.string s, .string ⟨#[]⟩, .bool false]) ∧ W = w') := Lib.hid fun W => by
    have HI := Lib.hid (Tryz.stringslite_Index_one s c W)
    rw [h] at HI
    clear h
    go_enter Tryz.func131, Tryz.ntmps131
    go_wp2_with (go_at_call 157; (with_reducible refine HI.out.mono ?_); rintro e w3 ⟨rfl, rfl⟩)
    refine bodyPost_ret (v := .tuple #[.string s, .string ⟨#[]⟩, .bool false]) (by simp [results, Tryz.results131, go_sem]) rfl ?_
    exact ⟨rfl, rfl⟩
  clear h
  go_enter Tryz.func90, Tryz.ntmps90
  go_wp2_with (go_at_call 131; (with_reducible refine (H1.out _).mono ?_); rintro e w3 ⟨rfl, rfl⟩)
  refine bodyPost_ret (v := .tuple #[.string s, .string ⟨#[]⟩, .bool false]) (by simp [results, Tryz.results90, go_sem]) rfl ?_
  exact ⟨rfl, rfl⟩
set_option maxHeartbeats 2000000 in
theorem cut_yes (s : ByteArray) (c : UInt8) (i : Nat) (h : Lib.indexByte s.data.toList c = (i : Int)) (hi : i < s.size) (hs : s.size ≤ 1000000000) (w : World) :
    Calls Tryz.prog 90 #[.string s, .string ⟨#[c]⟩] w fun e w' => e = .returned (.tuple #[.string (s.extract 0 i), .string (s.extract (i + 1) s.size), .bool true]) ∧ ∃ n, w' = w.drewN n := by
  have H1 : Hid (∀ W, Calls Tryz.prog 131 #[.string s, .string ⟨#[c]⟩] W fun e w' => e = .returned (.tuple #[.string (s.extract 0 i), .string (s.extract (i + 1) s.size), .bool true]) ∧ ∃ n, w' = W.drewN n) := Lib.hid fun W => by
    have HI := Lib.hid (Tryz.stringslite_Index_one s c W)
    rw [h] at HI
    have g0 : (0 : Int) ≤ (i : Int) := by omega
    have g1 : (i : Int) ≤ (s.size : Int) := by omega
    have g2 : (i : Int) + 1 ≤ (s.size : Int) := by omega
    have g3 : (s.size : Int) ≤ 1000000000 := by omega
    clear h
    go_enter Tryz.func131, Tryz.ntmps131
    go_wp2_with (go_at_call 157; (with_reducible refine HI.out.mono ?_); rintro e w3 ⟨rfl, rfl⟩)
    go_quiet (fail)
    go_wp2_with fail
    refine bodyPost_ret (v := .tuple #[.string (s.extract 0 i), .string (s.extract (i + 1) s.size), .bool true]) (by simp [results, Tryz.results131, go_sem]) rfl ?_
    exact ⟨rfl, _, rfl⟩
  clear h
  go_enter Tryz.func90, Tryz.ntmps90
  go_wp2_with (go_at_call 131; (with_reducible refine (H1.out _).mono ?_); rintro e w3 ⟨rfl, n, rfl⟩)
  refine bodyPost_ret (v := .tuple #[.string (s.extract 0 i), .string (s.extract (i + 1) s.size), .bool true]) (by simp [results, Tryz.results90, go_sem]) rfl ?_
  exact ⟨rfl, n, rfl⟩
end Go.Proofs.YtedabholcldgbaaGreatDoor.Y

/- layout.lines of a text of one line: the iterator's contract. -/
namespace Go.Proofs.YtedabholcldgbaaGreatDoor.Y
open Go.RowKit Go.Shelf Go.Deep
attribute [local go_sem] Oper.semAt_some

def encL (s : ByteArray) (_ : Unit) : Array Value := #[.int .i64 0, .string s]
set_option linter.unusedSimpArgs false in
set_option maxRecDepth 100000 in
set_option maxHeartbeats 2000000 in
theorem lines1_in (n : Nat) (hn : 1 ≤ n) (l Bn : Nat) (s : ByteArray) (hs : Lib.indexByte s.data.toList 10 = -1) (hz : s.size ≤ 1000000000) (J Jx : List Unit → World → Prop) (Kp : World → World → Prop)
    (hY : ∀ pre x W, J pre W → pre.length < 1 → YieldAt Fence.wide (n - 1) Tryz.prog l (encL s x) W fun e W' =>
      (e = .returned (.bool true) ∧ J (pre ++ [x]) W' ∧ Kp W W') ∨ (e = .returned (.bool false) ∧ Jx (pre ++ [x]) W'))
    (W : World) (hBn : W.cell? ⟨Bn, 0, none⟩ = some (.string s)) (h0 : J [] W) :
    CallsIn Fence.wide n Tryz.prog 89 #[.func (.yield l) #[] #[], .pointer (some ⟨Bn, 0, none⟩)] W fun e W' => (∃ v, e = .returned v) ∧
      ((∃ ys, ys = [()] ∧ J ys W') ∨ (∃ pre, pre = [()] ∧ Jx pre W')) := by
  have hz1 : (s.size : Int) ≤ 1000000000 := by omega
  refine callsIn_of_wp Tryz.func89 rfl trivial ?_ rfl
  simp only [Tryz.ntmps89, List.size_toArray, List.length_cons, List.length_nil, Nat.reduceAdd, Nat.reduceSub, Array.replicate_succ, Array.replicate_zero, List.push_toArray, List.append_toArray, List.nil_append, List.cons_append]
  gi_wp2
  gi_loopw [3, 4] (fun r m wr => (r = .string s ∧ m = .bool true ∧ wr = W) ∨ (m = .bool false ∧ J [()] wr))
    (fun _ m _ => match m with | .bool true => 1 | _ => 0)
  case atStart => exact .inl ⟨rfl, rfl, rfl⟩
  case round =>
    rcases hrel with ⟨rfl, rfl, rfl⟩ | ⟨rfl, hJ⟩
    · obtain ⟨fn, tmps, assign, body, hy, hR⟩ := hY [] () wr h0 (by simp)
      dsimp only [encL] at hy
      have HC := Lib.hid (cut_no s 10 hs wr)
      gi_wp2_with (refine ⟨trivial, ?_⟩; gi_at_call 90; refine (callsIn_wide.2 HC.out).mono ?_; rintro e w' ⟨rfl, rfl⟩)
      refine hR.mono ?_
      rintro e W3 (⟨rfl, hJ3, hk3⟩ | ⟨rfl, hJx3⟩)
      · gi_wp2
        go_roundw
        case rel => exact .inr ⟨rfl, hJ3⟩
        case measure => simp
      · gi_wp2
        refine bodyPost_ret (results_none rfl _ _ _) rfl ?_
        exact ⟨⟨_, rfl⟩, .inr ⟨_, rfl, hJx3⟩⟩
    · gi_wp2
      go_end0
      exact ⟨⟨_, rfl⟩, .inl ⟨_, rfl, hJ⟩⟩
end Go.Proofs.YtedabholcldgbaaGreatDoor.Y

/- A range over a function whose iterator turns blocks of its own between the rounds (its block for deferred calls, its own cells), while the rounds turn what the caller owns. -/
namespace Go.Proofs.YtedabholcldgbaaGreatDoor.Y
open Go.RowKit

variable {F : Fence} {n : Nat} {P : Program}

theorem lt_of_getElem? {A : World} {k : Nat} {o : Obj} (h : A.heap[k]? = some o) : k < A.heap.size := (Array.getElem?_eq_some_iff.1 h).1

/-- Between two rounds: blocks are laid, and one that lies from B on and is not the caller's is turned. -/
def Moves (own : World → Option Nat) (B : Nat) (A A' : World) : Prop := ∃ row : Option Nat, A.grownBy A' row ∧ ∀ r, row = some r → B ≤ r ∧ own A ≠ some r
/-- A round: what lies from B on and is safe lies as it lay, but for what the caller owns; that is what it was, or is new. -/
structure Leaves (safe : Obj → Prop) (own : World → Option Nat) (B : Nat) (A A' : World) : Prop where
  size : A.heap.size ≤ A'.heap.size
  same : ∀ (r : Nat) (o : Obj), B ≤ r → own A ≠ some r → safe o → A.heap[r]? = some o → A'.heap[r]? = some o
  next : own A' = own A ∨ (∀ r, own A' = some r → A.heap.size ≤ r) ∨ ∀ r, own A' = some r → ∃ o : Obj, A'.heap[r]? = some o ∧ ¬ safe o
/-- The caller's invariant stands over what the iterator does. -/
def Stands {β : Type} (own : World → Option Nat) (B : Nat) (I : β → World → Prop) : Prop :=
  (∀ s A A', I s A → Moves own B A A' → I s A' ∧ own A' = own A) ∧ ∀ s A r, I s A → own A = some r → ∃ v t fr, A.heap[r]? = some (.cells v t fr)
theorem Stands.mono {β : Type} {own : World → Option Nat} {B C : Nat} {I : β → World → Prop} (h : Stands own B I) (hc : B ≤ C) : Stands own C I :=
  ⟨fun s A A' hi ⟨row, hg, hr⟩ => h.1 s A A' hi ⟨row, hg, fun r e => ⟨Nat.le_trans hc (hr r e).1, (hr r e).2⟩⟩, h.2⟩
theorem Stands.laid {β : Type} {own : World → Option Nat} {B : Nat} {I : β → World → Prop} (h : Stands own B I) {s : β} {A : World} (hi : I s A) (o : Obj) : I s (A.alloc o) ∧ own (A.alloc o) = own A :=
  h.1 s A _ hi ⟨none, World.grownBy_alloc A o none, fun r e => by cases e⟩
theorem Stands.not {β : Type} {own : World → Option Nat} {B : Nat} {I : β → World → Prop} (h : Stands own B I) {s : β} {A : World} (hi : I s A) {l : Nat} {o : Obj} (hl : A.heap[l]? = some o) (ho : o.isCells = false) : own A ≠ some l := by
  intro e
  obtain ⟨v, t, fr, hb⟩ := h.2 s A l hi e
  rw [hl] at hb
  cases hb
  cases ho
theorem Stands.turned {β : Type} {own : World → Option Nat} {B : Nat} {I : β → World → Prop} (h : Stands own B I) {s : β} {A : World} (hi : I s A) {l : Nat} {o : Obj} (hB : B ≤ l) (hl : A.heap[l]? = some o) (ho : o.isCells = false) (o' : Obj) : I s (A.putObj l o') ∧ own (A.putObj l o') = own A :=
  h.1 s A _ hi ⟨some l, grownBy_putObj' A l o', fun r e => by cases e; exact ⟨hB, h.not hi hl ho⟩⟩

/-- The iterator's contract. R: what it asks of memory, always; Pre: what it says of what has come so far. -/
def SeqY {α : Type} (F : Fence) (n : Nat) (P : Program) (gf : Nat) (lb : Array Value) (encs : α → Array Value) (safe : Obj → Prop) (own : World → Option Nat) (R : World → Prop) (S Sp Pre : List α → Prop) : Prop :=
  ∀ (l : Nat) (J Jx : List α → World → Prop) (W : World), Stands own W.heap.size J → Stands own W.heap.size Jx → (∀ s A, J s A → R A) →
    (∀ pre x A, J pre A → Pre (pre ++ [x]) → YieldAt F (n - 1) P l (encs x) A fun e A' =>
      (e = .returned (.bool true) ∧ J (pre ++ [x]) A' ∧ Leaves safe own W.heap.size A A') ∨ (e = .returned (.bool false) ∧ Jx (pre ++ [x]) A' ∧ Leaves safe own W.heap.size A A')) →
    J [] W →
    CallsIn F n P gf (#[.func (.yield l) #[] #[]] ++ lb) W fun e W' => (∃ v, e = .returned v) ∧ ((∃ ys, S ys ∧ J ys W') ∨ (∃ pre, Sp pre ∧ Jx pre W'))

/-- How a round may be left. -/
def EndsR {α : Type} (safe : Obj → Prop) (own : World → Option Nat) (B : Nat) (I : List α → World → Prop) (Ix : Code → List α → World → Prop) (xs : List α) (W : World) : Exit → Act → World → Prop
  | .normal, _, W' => Leaves safe own B W W' ∧ I xs W'
  | .ret, _, W' => Leaves safe own B W W' ∧ Ix .ret xs W'
  | .exit id, _, W' => Leaves safe own B W W' ∧ Ix (.exit id) xs W'
  | .goto t, _, W' => Leaves safe own B W W' ∧ Ix (.goto t) xs W'
  | .panic _, _, _ => False
  | .outgrown, _, _ => False

theorem range_own {α : Type} {g : Operand} {ps : Array Tmp} {assign body : Code} {Q : Exit → Act → World → Prop} {a : Act} {w : World}
    (hro : F.round = none) (h1 : 1 ≤ n) {gf : Nat} {lb : Array Value} (hg : a.eval g = .func (.func gf) #[] lb) (hFg : F.fn gf) (eg : ∀ args w, (callFunc gf args).run P w = .ok (.enter gf args) w)
    {encs : α → Array Value} {safe : Obj → Prop} (hsafe : ∀ o : Obj, o.isCells = false → safe o) {own : World → Option Nat} {R : World → Prop} {S Sp Pre : List α → Prop} (hseq : SeqY F (n - 1) P gf lb encs safe own R S Sp Pre) (hps : ∀ x, (encs x).size = ps.size)
    (I : List α → World → Prop) (Ix : Code → List α → World → Prop) (hI : Stands own w.heap.size I) (hIx : ∀ c, Stands own w.heap.size (Ix c)) (hR : ∀ s A, I s A → R A) (h0 : I [] w) (a₁ : α → Act)
    (hassign : ∀ (l : Nat) (x : α) (W : World) (K : Act → World → Prop), K (a₁ x) W →
      assign.wpIn (F.inRound l) (n - 1 - 1) P (Exit.then K (fun _ _ _ => False)) { tmps := (ps.zip (encs x)).foldl (fun t (p, v) => t.setIfInBounds p v) a.tmps, defers := [] } W)
    (hbody : ∀ (l : Nat) (pre : List α) (x : α) (W : World), I pre W → Pre (pre ++ [x]) → body.wpIn (F.inRound l) (n - 1 - 1) P (EndsR safe own w.heap.size I Ix (pre ++ [x]) W) (a₁ x) W)
    (hdone : ∀ (D : Nat) (xs : List α) (W : World), w.heap.size ≤ D → S xs → I xs W → W.heap[D]? = some (.deferred (some [])) → Q .normal { a with defers := { target := .collected D, args := #[] } :: a.defers } W)
    (hstop : ∀ (D : Nat) (c : Code) (pre : List α) (W : World), w.heap.size ≤ D → Sp pre → Ix c pre W → W.heap[D]? = some (.deferred (some [])) → c.wpIn F n P Q { a with defers := { target := .collected D, args := #[] } :: a.defers } W) :
    (Code.rangeFunc g ps assign body).wpIn F n P Q a w := by
  refine wpIn_rangeFunc fun fn hfn => ?_
  rw [hro]
  obtain ⟨m, hm⟩ : ∃ m, w.heap.size = m := ⟨_, rfl⟩
  obtain ⟨rd, hrd⟩ : ∃ rd : LoopState → Option Code → Loop, rd = fun st pe => { state := st, pending := pe, fn, tmps := a.tmps, params := ps, assign, body, defers := m } := ⟨_, rfl⟩
  obtain ⟨w1, hw1⟩ : ∃ w1, w.alloc (.deferred (some [])) = w1 := ⟨_, rfl⟩
  have hz1 : w1.heap.size = m + 1 := by rw [← hw1, ← hm]; simp
  obtain ⟨w2, hw2⟩ : ∃ w2, w1.alloc (.loop (rd .ready none)) = w2 := ⟨_, rfl⟩
  have hz2 : w2.heap.size = m + 2 := by rw [← hw2]; simp [hz1]
  have hD1 : w1.heap[m]? = some (.deferred (some [])) := by rw [← hw1, ← hm]; exact World.alloc_heap_new w _
  have hD2 : w2.heap[m]? = some (.deferred (some [])) := by rw [← hw2]; exact (Below.heap_alloc _ _ _ (by omega)).trans hD1
  have hL2 : w2.heap[m + 1]? = some (.loop (rd .ready none)) := by rw [← hw2, ← hz1]; exact World.alloc_heap_new w1 _
  have hI1 : I [] w1 := by rw [← hw1]; exact (hI.laid h0 _).1
  have hI2 : I [] w2 := by rw [← hw2]; exact (hI.laid hI1 _).1
  refine ⟨m + 1, [{ target := .collected m, args := #[] }], w2, { target := .fn (.func gf) lb, args := #[.func (.yield (m + 1)) #[] #[]] }, w2, gf, #[.func (.yield (m + 1)) #[] #[]] ++ lb, w2, ?_, ?_, ?_, ?_, fun _ => h1, ?_⟩
  · have := run_enterLoop_outer (P := P) (w := w) fn a.tmps ps assign body
    rw [hm, hw1] at this
    rw [this, ← hw2, hrd]
  · simp only [resolve, hg]
    simp [go_sem]
  · intro f' hf'; simp [Target.leads] at hf'; subst hf'; exact hFg
  · simp [invoke, go_sem, eg]
  rw [hm] at hI hIx hbody hdone hstop
  have far : ∀ {A A' : World} {row : Option Nat} {k : Nat} {o : Obj}, A.grownBy A' row → (∀ r, row = some r → m + 2 ≤ r ∧ own A ≠ some r) → k < m + 2 → A.heap[k]? = some o → A'.heap[k]? = some o := by
    intro A A' row k o hg hr hk ho
    exact (hg.block k (lt_of_getElem? ho) (fun e => by have := (hr k e.symm).1; omega)).trans ho
  refine (hseq (m + 1) (fun pre A => I pre A ∧ A.heap[m + 1]? = some (.loop (rd .ready none)) ∧ A.heap[m]? = some (.deferred (some [])))
    (fun pre A => ∃ c, Ix c pre A ∧ A.heap[m + 1]? = some (.loop (rd .done (some c))) ∧ A.heap[m]? = some (.deferred (some []))) w2 ⟨?_, ?_⟩ ⟨?_, ?_⟩ (fun s A h => hR s A h.1) ?_ ⟨hI2, hL2, hD2⟩).mono ?_
  · rintro s A A' ⟨hi, hl, hd⟩ ⟨row, hg, hr⟩
    rw [hz2] at hr
    have := hI.1 s A A' hi ⟨row, hg, fun r e => ⟨by have := (hr r e).1; omega, (hr r e).2⟩⟩
    exact ⟨⟨this.1, far hg hr (by omega) hl, far hg hr (by omega) hd⟩, this.2⟩
  · rintro s A r ⟨hi, _⟩ e
    exact hI.2 s A r hi e
  · rintro s A A' ⟨c, hi, hl, hd⟩ ⟨row, hg, hr⟩
    rw [hz2] at hr
    have := (hIx c).1 s A A' hi ⟨row, hg, fun r e => ⟨by have := (hr r e).1; omega, (hr r e).2⟩⟩
    exact ⟨⟨c, this.1, far hg hr (by omega) hl, far hg hr (by omega) hd⟩, this.2⟩
  · rintro s A r ⟨c, hi, _⟩ e
    exact (hIx c).2 s A r hi e
  · rintro pre x A ⟨hi, hl, hd⟩ hlen
    have hy := run_yield (P := P) (args := encs x) hl (by rw [hrd]; exact hps x)
    rw [hrd] at hy
    refine ⟨fn, _, assign, body, hy, roundIn_of_wpIn hfn (hassign _ x A _ ⟨_, run_beginRound hl (by rw [hrd]), ?_⟩)⟩
    obtain ⟨A2, hA2⟩ : ∃ A2, A.putObj (m + 1) (.loop { rd .ready none with state := .busy }) = A2 := ⟨_, rfl⟩
    have hl2 : A2.heap[m + 1]? = some (.loop { rd .ready none with state := .busy }) := by rw [← hA2]; exact World.putObj_heap_same (lt_of_getElem? hl)
    have hd2 : A2.heap[m]? = some (.deferred (some [])) := by rw [← hA2]; exact (World.putObj_heap_other (by omega)).trans hd
    have hi2 : I pre A2 ∧ own A2 = own A := by rw [← hA2]; exact hI.turned hi (by omega) hl rfl _
    have hz : A2.heap.size = A.heap.size := by rw [← hA2]; simp
    have hot : ∀ r, r ≠ m + 1 → A2.heap[r]? = A.heap[r]? := fun r hr => by rw [← hA2]; exact World.putObj_heap_other hr
    rw [hA2]
    have end2 : ∀ (jump : Option Code) (A3 : World), Leaves safe own m A2 A3 → (own A3 ≠ some (m + 1)) →
        (Instr.endRound (m + 1) jump).run P A3 = .ok (.bool jump.isNone) (A3.putObj (m + 1) (.loop (rd (if jump.isNone then .ready else .done) jump))) ∧ A3.heap[m + 1]? = some (.loop { rd .ready none with state := .busy }) ∧
        (A3.putObj (m + 1) (.loop (rd (if jump.isNone then .ready else .done) jump))).heap[m + 1]? = some (.loop (rd (if jump.isNone then .ready else .done) jump)) ∧
        (A3.putObj (m + 1) (.loop (rd (if jump.isNone then .ready else .done) jump))).heap[m]? = some (.deferred (some [])) ∧
        ∀ A4, A4 = A3.putObj (m + 1) (.loop (rd (if jump.isNone then .ready else .done) jump)) → own A4 = own A3 → Leaves safe own w2.heap.size A A4 := by
      intro jump A3 hk hn3
      have hl3 := hk.same _ _ (by omega) (hI.not hi2.1 hl2 rfl) (hsafe _ rfl) hl2
      have hd3 := hk.same _ _ (Nat.le_refl _) (hI.not hi2.1 hd2 rfl) (hsafe _ rfl) hd2
      have he := run_endRound (P := P) jump hl3
      rw [hrd] at he ⊢
      rw [hrd] at hl3
      refine ⟨he, hl3, World.putObj_heap_same (lt_of_getElem? hl3), (World.putObj_heap_other (by omega)).trans hd3, ?_⟩
      rintro A4 rfl ho4
      refine ⟨by rw [World.putObj_size, ← hz]; exact hk.size, ?_, ?_⟩
      · intro r o hr hor hsf ho
        rw [hz2] at hr
        refine (World.putObj_heap_other (by omega)).trans (hk.same r o (by omega) (by rw [hi2.2]; exact hor) hsf ?_)
        rw [hot r (by omega)]; exact ho
      · rw [ho4, ← hi2.2, ← hz]
        rcases hk.next with h | h | h
        · exact .inl h
        · exact .inr (.inl h)
        · refine .inr (.inr fun r e => ?_)
          obtain ⟨o, ho, hs⟩ := h r e
          refine ⟨o, (World.putObj_heap_other ?_).trans ho, hs⟩
          intro e2
          subst e2
          rw [hl3] at ho
          cases ho
          exact hs (hsafe _ rfl)
    refine wpIn_mono (hbody _ pre x A2 hi2.1 hlen) ?_
    rintro e a3 A3 hp
    cases e with
    | normal =>
      obtain ⟨hk, hi3⟩ := hp
      have hl3 := hk.same _ _ (by omega) (hI.not hi2.1 hl2 rfl) (hsafe _ rfl) hl2
      obtain ⟨hr, _, hl4, hd4, hle⟩ := end2 none A3 hk (hI.not hi3 hl3 rfl)
      have h4 := hI.turned hi3 (by omega) hl3 rfl (.loop (rd .ready none))
      exact ⟨_, _, hr, .inl ⟨rfl, ⟨h4.1, hl4, hd4⟩, hle _ rfl h4.2⟩⟩
    | ret =>
      obtain ⟨hk, hi3⟩ := hp
      have hl3 := hk.same _ _ (by omega) (hI.not hi2.1 hl2 rfl) (hsafe _ rfl) hl2
      obtain ⟨hr, _, hl4, hd4, hle⟩ := end2 (some .ret) A3 hk ((hIx _).not hi3 hl3 rfl)
      have h4 := (hIx _).turned hi3 (by omega) hl3 rfl (.loop (rd .done (some .ret)))
      exact ⟨_, _, hr, .inr ⟨rfl, ⟨_, h4.1, hl4, hd4⟩, hle _ rfl h4.2⟩⟩
    | exit id =>
      obtain ⟨hk, hi3⟩ := hp
      have hl3 := hk.same _ _ (by omega) (hI.not hi2.1 hl2 rfl) (hsafe _ rfl) hl2
      obtain ⟨hr, _, hl4, hd4, hle⟩ := end2 (some (.exit id)) A3 hk ((hIx _).not hi3 hl3 rfl)
      have h4 := (hIx _).turned hi3 (by omega) hl3 rfl (.loop (rd .done (some (.exit id))))
      exact ⟨_, _, hr, .inr ⟨rfl, ⟨_, h4.1, hl4, hd4⟩, hle _ rfl h4.2⟩⟩
    | goto t =>
      obtain ⟨hk, hi3⟩ := hp
      have hl3 := hk.same _ _ (by omega) (hI.not hi2.1 hl2 rfl) (hsafe _ rfl) hl2
      obtain ⟨hr, _, hl4, hd4, hle⟩ := end2 (some (.goto t)) A3 hk ((hIx _).not hi3 hl3 rfl)
      have h4 := (hIx _).turned hi3 (by omega) hl3 rfl (.loop (rd .done (some (.goto t))))
      exact ⟨_, _, hr, .inr ⟨rfl, ⟨_, h4.1, hl4, hd4⟩, hle _ rfl h4.2⟩⟩
    | panic ch => exact hp.elim
    | outgrown => exact hp.elim
  · rintro e A ⟨⟨v, rfl⟩, (⟨xs, hS, hi, hl, hd⟩ | ⟨pre, hS, c, hi, hl, hd⟩)⟩
    · have hr := run_endLoop (P := P) hl (by rw [hrd]; simp)
      rw [hrd] at hr
      exact ⟨none, _, hr, hdone _ xs _ (Nat.le_refl _) hS (hI.turned hi (by omega) hl rfl _).1 ((World.putObj_heap_other (by omega)).trans hd)⟩
    · have hr := run_endLoop (P := P) hl (by rw [hrd]; simp)
      rw [hrd] at hr
      exact ⟨some c, _, hr, hstop _ c pre _ (Nat.le_refl _) hS ((hIx c).turned hi (by omega) hl rfl _).1 ((World.putObj_heap_other (by omega)).trans hd)⟩
end Go.Proofs.YtedabholcldgbaaGreatDoor.Y

/- layout.lines of any text: the iterator's contract. -/
namespace Go.Proofs.YtedabholcldgbaaGreatDoor.Y
open Go.RowKit Go.Shelf Go.Deep
attribute [local go_sem] Oper.semAt_some

/-- Where the first line ends. -/
def nlI (l : List UInt8) : Nat := (Lib.indexByte l 10).toNat
/-- The lines of a text, each with the index at which it begins. -/
def linesL (k : Nat) (l : List UInt8) : List (Nat × List UInt8) :=
  if Lib.indexByte l 10 < 0 then [(k, l)] else if hne : l = [] then [] else (k, l.take (nlI l)) :: linesL (k + nlI l + 1) (l.drop (nlI l + 1))
termination_by l.length
decreasing_by
  have : 0 < l.length := List.length_pos_iff.2 hne
  simp only [List.length_drop]; omega
theorem index_lt {l : List UInt8} (h : ¬ Lib.indexByte l 10 < 0) : Lib.indexByte l 10 = (nlI l : Int) ∧ nlI l < l.length ∧ l ≠ [] := by
  have h1 : Lib.indexByte l 10 = (nlI l : Int) := by unfold nlI; omega
  have h2 := (Lib.indexByte_some h1).1
  have h3 : nlI l < l.length := (List.getElem?_eq_some_iff.1 h2).1
  exact ⟨h1, h3, by intro e; rw [e] at h3; simp at h3⟩
theorem linesL_last {k : Nat} {l : List UInt8} (h : Lib.indexByte l 10 < 0) : linesL k l = [(k, l)] := by rw [linesL, if_pos h]
theorem linesL_more {k : Nat} {l : List UInt8} (h : ¬ Lib.indexByte l 10 < 0) : linesL k l = (k, l.take (nlI l)) :: linesL (k + nlI l + 1) (l.drop (nlI l + 1)) := by
  rw [linesL, if_neg h, dif_neg (index_lt h).2.2]
def encG (x : Nat × List UInt8) : Array Value := #[.int .i64 x.1, .string ⟨x.2.toArray⟩]
theorem grown_drewN (A : World) (k : Nat) : A.grownBy (A.drewN k) none := ⟨rfl, rfl, rfl, Nat.le_refl _, fun _ _ _ => rfl⟩
theorem ext_take (s : ByteArray) (i : Nat) : s.extract 0 i = ⟨(s.data.toList.take i).toArray⟩ := by
  apply ByteArray.ext
  apply Array.ext'
  simp
theorem ext_drop (s : ByteArray) (i : Nat) : (s.extract i s.size).data.toList = s.data.toList.drop i := by
  simp only [ByteArray.data_extract, Array.toList_extract, List.extract_eq_take_drop]
  rw [List.take_of_length_le (by simp)]
set_option linter.unusedSimpArgs false in
set_option maxRecDepth 100000 in
set_option maxHeartbeats 2000000 in
theorem lines_seq (n : Nat) (hn : 1 ≤ n) (Bn : Nat) (s : ByteArray) (hz : s.size ≤ 1000000000) (safe : Obj → Prop) (own : World → Option Nat) :
    SeqY Fence.wide n Tryz.prog 89 #[.pointer (some ⟨Bn, 0, none⟩)] encG safe own (fun A => A.cell? ⟨Bn, 0, none⟩ = some (.string s))
      (fun ys => ys = linesL 0 s.data.toList) (fun pre => pre ≠ [] ∧ pre <+: linesL 0 s.data.toList) (fun pre => pre <+: linesL 0 s.data.toList) := by
  intro l J Jx W hJ hJx hR hY h0
  have hz1 : (s.size : Int) ≤ 1000000000 := by omega
  have hBn := hR _ _ h0
  have mv : ∀ pre A k, J pre A → J pre (A.drewN k) := fun pre A k h => (hJ.1 pre A _ h ⟨none, grown_drewN A k, fun r e => by cases e⟩).1
  refine callsIn_of_wp Tryz.func89 rfl trivial ?_ rfl
  simp only [Tryz.ntmps89, List.size_toArray, List.length_cons, List.length_nil, Nat.reduceAdd, Nat.reduceSub, Array.replicate_succ, Array.replicate_zero, List.push_toArray, List.append_toArray, List.nil_append, List.cons_append]
  gi_wp2
  gi_loopw [3, 4] (fun r m wr => (∃ (pre : List (Nat × List UInt8)) (d : ByteArray) (k : Nat), r = .string d ∧ m = .bool true ∧ J pre wr ∧ linesL 0 s.data.toList = pre ++ linesL k d.data.toList ∧ k + d.size = s.size) ∨ (m = .bool false ∧ J (linesL 0 s.data.toList) wr))
    (fun r m _ => match r, m with
      | .string d, .bool true => d.size + 1
      | _, _ => 0)
  case atStart => exact .inl ⟨[], s, 0, rfl, rfl, h0, rfl, by omega⟩
  case round =>
    rcases hrel with ⟨pre, d, k, rfl, rfl, hj, hl, hk⟩ | ⟨rfl, hj⟩
    · have hcell := hR _ _ hj
      have hks : (s.size : Int) - (d.size : Int) = (k : Int) := by omega
      have hd0 : (0 : Int) ≤ (d.size : Int) := by omega
      have hd1 : (d.size : Int) ≤ 1000000000 := by omega
      by_cases hnl : Lib.indexByte d.data.toList 10 < 0
      · have hm1 : Lib.indexByte d.data.toList 10 = -1 := by have := Lib.indexByte_ge d.data.toList 10; omega
        rw [linesL_last hnl] at hl
        have HC := Lib.hid (cut_no d 10 hm1 wr)
        have hlen : pre ++ [(k, d.data.toList)] <+: linesL 0 s.data.toList := by rw [hl]; exact List.prefix_refl _
        obtain ⟨fn, tmps, assign, body, hy, hRd⟩ := hY pre (k, d.data.toList) wr hj hlen
        have hde : (⟨d.data.toList.toArray⟩ : ByteArray) = d := by cases d; simp
        simp only [encG, hde] at hy
        clear hnl hm1 hj
        gi_wp2_with (refine ⟨trivial, ?_⟩; gi_at_call 90; refine (callsIn_wide.2 HC.out).mono ?_; rintro e w' ⟨rfl, rfl⟩)
        refine hRd.mono ?_
        rintro e W3 (⟨rfl, hJ3, hk3⟩ | ⟨rfl, hJx3, hk3⟩)
        · gi_wp2
          go_roundw
          case rel => exact .inr ⟨rfl, by rw [hl]; exact hJ3⟩
          case measure => simp
        · gi_wp2
          refine bodyPost_ret (results_none rfl _ _ _) rfl ?_
          exact ⟨⟨_, rfl⟩, .inr ⟨_, ⟨by simp, by rw [hl]; exact List.prefix_refl _⟩, hJx3⟩⟩
      · obtain ⟨hi, hi2, _⟩ := index_lt hnl
        rw [linesL_more hnl] at hl
        obtain ⟨i, hii⟩ : ∃ i, nlI d.data.toList = i := ⟨_, rfl⟩
        rw [hii] at hi hi2 hl
        have hi3 : i < d.size := by simpa using hi2
        have HC := Lib.hid (cut_yes d 10 i hi hi3 (by omega) wr)
        have hlen : pre ++ [(k, d.data.toList.take i)] <+: linesL 0 s.data.toList := by rw [hl]; exact ⟨linesL (k + i + 1) (d.data.toList.drop (i + 1)), by simp⟩
        have HY := Lib.hid fun q => hY pre (k, d.data.toList.take i) (wr.drewN q) (mv _ _ q hj) hlen
        simp only [encG, ← ext_take] at HY
        clear hnl hi hj
        gi_wp2_with (refine ⟨trivial, ?_⟩; gi_at_call 90; refine (callsIn_wide.2 HC.out).mono ?_; rintro e w' ⟨rfl, q, rfl⟩; obtain ⟨fn, tmps, assign, body, hy, hRd⟩ := HY.out q)
        refine hRd.mono ?_
        rintro e W3 (⟨rfl, hJ3, hk3⟩ | ⟨rfl, hJx3, hk3⟩)
        · gi_wp2
          go_roundw
          case rel => exact .inl ⟨_, d.extract (i + 1) d.size, k + i + 1, rfl, rfl, hJ3, by rw [ext_drop, hl]; simp, by simp; omega⟩
          case measure => simp; omega
        · gi_wp2
          refine bodyPost_ret (results_none rfl _ _ _) rfl ?_
          exact ⟨⟨_, rfl⟩, .inr ⟨_, ⟨by simp, by rw [hl]; exact ⟨linesL (k + i + 1) (d.data.toList.drop (i + 1)), by simp⟩⟩, hJx3⟩⟩
    · gi_wp2
      go_end0
      exact ⟨⟨_, rfl⟩, .inl ⟨_, rfl, hj⟩⟩
end Go.Proofs.YtedabholcldgbaaGreatDoor.Y

/- layout.pieces of a text of one line that is no comment: the iterator's contract . What it asks of the caller beyond SeqStopsK: hKD, hJD, hJxD (its own loop's block for deferred calls). -/
namespace Go.Proofs.YtedabholcldgbaaGreatDoor.Y
open Go.RowKit Go.Shelf Go.Deep
attribute [local go_sem] Oper.semAt_some

def encP (s : ByteArray) (_ : Unit) : Array Value := #[.string s, .string ⟨#[]⟩]
set_option maxHeartbeats 1000000 in
theorem lines_in (s : ByteArray) (n : Nat) (w : World) :
    CallsIn Fence.wide n Tryz.prog 56 #[.string s] w fun e w' => e = .returned (.func (.func 89) #[] #[.pointer (some ⟨w.heap.size, 0, none⟩)]) ∧ w' = w.alloc (.cells #[.string s] 9) := by
  refine callsIn_wide.2 ?_
  go_enter Tryz.func56, Tryz.ntmps56
  go_wp2_with fail
  go_ret
  exact ⟨rfl, rfl⟩
set_option maxHeartbeats 1000000 in
theorem pieces_in (s : ByteArray) (n : Nat) (w : World) :
    CallsIn Fence.wide n Tryz.prog 49 #[.string s] w fun e w' => e = .returned (.func (.func 78) #[] #[.pointer (some ⟨w.heap.size, 0, none⟩)]) ∧ w' = w.alloc (.cells #[.string s] 9) := by
  refine callsIn_wide.2 ?_
  go_enter Tryz.func49, Tryz.ntmps49
  go_wp2_with fail
  go_ret
  exact ⟨rfl, rfl⟩
theorem blk_later {W D : World} {o : Obj} (h : Below (W.alloc o).heap.size (W.alloc o) D) : D.heap[W.heap.size]? = some o := (h.block _ (by simp)).trans (heap_alloc_new W o)
theorem cell_of1 {w : World} {b : Nat} {v : Value} {t : TypeId} (h : w.heap[b]? = some (.cells #[v] t (0, 0))) : w.cell? ⟨b, 0, none⟩ = some v ∧ w.frozen? ⟨b, 0, none⟩ = false := by
  simp [World.cell?, World.frozen?, h]
theorem cells_later {V w : World} {a b c : Nat} {u v x : Value} (hB : Below V.heap.size V w) (h0 : V.cell? ⟨a, 0, none⟩ = some u) (h1 : V.cell? ⟨b, 0, none⟩ = some v) (h2 : V.cell? ⟨c, 0, none⟩ = some x) (h3 : V.frozen? ⟨c, 0, none⟩ = false) :
    w.cell? ⟨a, 0, none⟩ = some u ∧ w.cell? ⟨b, 0, none⟩ = some v ∧ w.cell? ⟨c, 0, none⟩ = some x ∧ w.frozen? ⟨c, 0, none⟩ = false :=
  ⟨(hB.cell (p := ⟨a, 0, none⟩) (World.block_lt_of_cell? _ _ h0)).trans h0, (hB.cell (p := ⟨b, 0, none⟩) (World.block_lt_of_cell? _ _ h1)).trans h1, (hB.cell (p := ⟨c, 0, none⟩) (World.block_lt_of_cell? _ _ h2)).trans h2,
    (World.frozen?_of_block (hB.block c (World.block_lt_of_cell? _ _ h2))).trans h3⟩
set_option linter.unusedSimpArgs false in
set_option maxRecDepth 100000 in
set_option maxHeartbeats 4000000 in
theorem pieces1_in (n : Nat) (hn : 6 ≤ n) (l Bn : Nat) (s u : ByteArray) (hs : Lib.indexByte s.data.toList 10 = -1) (hz : s.size ≤ 1000000000) (hob : obF s.data.toList false 0 = 0)
    (htr : ∀ W, Calls Tryz.prog 79 #[.string s, .string ⟨#[32, 9]⟩] W fun e w' => e = .returned (.string u) ∧ Below W.heap.size W w') (hpx : Lib.hasPrefix u.data.toList [59] = false)
    (J Jx : List Unit → World → Prop) (Kp : World → World → Prop) (W : World) (hJ : AbidesFrom W.heap.size J)
    (hY : ∀ pre x W, J pre W → pre.length < 1 → YieldAt Fence.wide (n - 1) Tryz.prog l (encP s x) W fun e W' =>
      (e = .returned (.bool true) ∧ J (pre ++ [x]) W' ∧ Kp W W') ∨ (e = .returned (.bool false) ∧ Jx (pre ++ [x]) W' ∧ Kp W W'))
    (hKD : ∀ D A B, Kp A B → W.heap.size ≤ D → A.heap[D]? = some (.deferred (some [])) → B.heap[D]? = some (.deferred (some [])))
    (hJD : ∀ D pre A, J pre A → W.heap.size ≤ D → A.heap[D]? = some (.deferred (some [])) → J pre (A.putObj D (.deferred none)))
    (hJxD : ∀ D pre A, Jx pre A → W.heap.size ≤ D → A.heap[D]? = some (.deferred (some [])) → Jx pre (A.putObj D (.deferred none)))
    (hBn : W.cell? ⟨Bn, 0, none⟩ = some (.string s)) (h0 : J [] W) :
    CallsIn Fence.wide n Tryz.prog 78 #[.func (.yield l) #[] #[], .pointer (some ⟨Bn, 0, none⟩)] W fun e W' => (∃ v, e = .returned v) ∧
      ((∃ ys, ys = [()] ∧ J ys W') ∨ (∃ pre, pre = [()] ∧ Jx pre W')) := by
  have hz1 : (s.size : Int) ≤ 1000000000 := by omega
  have h1 : 1 ≤ n := by omega
  have hlt : Bn < W.heap.size := World.block_lt_of_cell? _ _ hBn
  have hB3 : Below W.heap.size W (((W.alloc (.cells #[.func (.yield l) #[] #[]] 42)).alloc (.cells #[.int .i64 0] 3)).alloc (.cells #[.int .i64 0] 3)) := up (bel1 _ _) (up (bel1 _ _) (bel1 _ _))
  have hb3 : (((W.alloc (.cells #[.func (.yield l) #[] #[]] 42)).alloc (.cells #[.int .i64 0] 3)).alloc (.cells #[.int .i64 0] 3)).cell? ⟨Bn, 0, none⟩ = some (.string s) := (hB3.cell (p := ⟨Bn, 0, none⟩) hlt).trans hBn
  refine callsIn_of_wp_marks Tryz.func78 rfl trivial ?_ rfl
  simp only [Tryz.ntmps78, List.size_toArray, List.length_cons, List.length_nil, Nat.reduceAdd, Nat.reduceSub, Array.replicate_succ, Array.replicate_zero, List.push_toArray, List.append_toArray, List.nil_append, List.cons_append]
  gi_wp2_with (refine ⟨trivial, ?_⟩; gi_at_call 56; refine (lines_in s _ _).mono ?_; rintro e w' ⟨rfl, rfl⟩)
  have hB4 : Below W.heap.size W ((((W.alloc (.cells #[.func (.yield l) #[] #[]] 42)).alloc (.cells #[.int .i64 0] 3)).alloc (.cells #[.int .i64 0] 3)).alloc (.cells #[.string s] 9)) := up hB3 (bel1 _ _)
  have hz4 : ((((W.alloc (.cells #[.func (.yield l) #[] #[]] 42)).alloc (.cells #[.int .i64 0] 3)).alloc (.cells #[.int .i64 0] 3)).alloc (.cells #[.string s] 9)).heap.size = W.heap.size + 4 := by simp
  obtain ⟨W0, hW0⟩ : ∃ W0, (((W.alloc (.cells #[.func (.yield l) #[] #[]] 42)).alloc (.cells #[.int .i64 0] 3)).alloc (.cells #[.int .i64 0] 3)).alloc (.cells #[.string s] 9) = W0 := ⟨_, rfl⟩
  have k0 := cell_of1 (blk_later (W := W) (o := .cells #[.func (.yield l) #[] #[]] 42) (D := W0) (by rw [← hW0]; exact up (bel1 _ _) (up (bel1 _ _) (bel1 _ _))))
  have k1 := cell_of1 (blk_later (W := (W.alloc (.cells #[.func (.yield l) #[] #[]] 42))) (o := .cells #[.int .i64 0] 3) (D := W0) (by rw [← hW0]; exact up (bel1 _ _) (bel1 _ _)))
  have k2 := cell_of1 (blk_later (W := ((W.alloc (.cells #[.func (.yield l) #[] #[]] 42)).alloc (.cells #[.int .i64 0] 3))) (o := .cells #[.int .i64 0] 3) (D := W0) (by rw [← hW0]; exact bel1 _ _))
  have k3 := cell_of1 (blk_later (W := (((W.alloc (.cells #[.func (.yield l) #[] #[]] 42)).alloc (.cells #[.int .i64 0] 3)).alloc (.cells #[.int .i64 0] 3))) (o := .cells #[.string s] 9) (D := W0) (by rw [← hW0]; exact Below.refl _ _))
  simp only [World.size_alloc] at k1 k2 k3
  rw [hW0] at hB4 hz4 ⊢
  have hb4 : W0.cell? ⟨Bn, 0, none⟩ = some (.string s) := (hB4.cell (p := ⟨Bn, 0, none⟩) hlt).trans hBn
  clear hW0 hB3 hb3
  refine wpIn_rangeFunc_ownG (α := Unit) rfl h1 (gf := 89) (lb := #[.pointer (some ⟨W.heap.size + 1 + 1 + 1, 0, none⟩)]) rfl trivial (enters_of Tryz.func89 (by kernel_rfl) rfl)
    (encs := fun _ => #[.int .i64 0, .string s]) (Kp := fun _ _ => True) (S := fun ys => ys = [()]) (Sp := fun pre => pre = [()]) (N := 1) (w0 := W0)
    (fun l' J' Jx' W' hW' _ _ hY' h0' => lines1_in (n - 1) (by omega) l' (W.heap.size + 1 + 1 + 1) s hs hz J' Jx' (fun _ _ => True) hY' W' ((hW'.cell (p := ⟨W.heap.size + 1 + 1 + 1, 0, none⟩) (by show W.heap.size + 1 + 1 + 1 < W0.heap.size; omega)).trans k3.1) h0')
    (fun _ _ => trivial) (fun _ _ _ _ _ _ _ _ => trivial) (Below.refl _ _) (fun _ => rfl)
    (fun _ V => (V.cell? ⟨W.heap.size, 0, none⟩ = some (.func (.yield l) #[] #[]) ∧ V.cell? ⟨W.heap.size + 1, 0, none⟩ = some (.int .i64 0) ∧ V.cell? ⟨W.heap.size + 1 + 1, 0, none⟩ = some (.int .i64 0) ∧ V.frozen? ⟨W.heap.size + 1 + 1, 0, none⟩ = false) ∧ Below W.heap.size W V)
    (fun _ _ _ => False)
    (OwnFrom.and (Own.from (fun _ X Y row hs hg hr => ⟨cell_kept hs.1 hg hr, cell_kept hs.2.1 hg hr, cell_kept hs.2.2.1 hg hr, (frozen_kept hs.2.2.1 hg hr).trans hs.2.2.2⟩) _) (ownFrom_below (Nat.le_refl _) (by omega)))
    (fun _ _ _ _ _ hs _ _ => hs.elim)
    ⟨⟨k0.1, k1.1, k2.1, k2.2⟩, hB4⟩
    ?a1 ?assign ?body ?done ?stop
  case assign =>
    intro l' x V K hK
    gi_wp2
    exact hK
  case stop =>
    rintro D c pre V hD _ h _
    exact h.elim
  case body =>
    rintro l' pre x V ⟨⟨q0, q1, q2, q3⟩, hV⟩ _
    have h3 : 1 ≤ n - 1 - 1 := by omega
    have h4 : 1 ≤ n - 1 - 1 - 1 := by omega
    have HTR := Lib.hid (fun w => (htr w))
    have HPX := Lib.hid (fun w => Tryz.strings_HasPrefix u ⟨#[59]⟩ w)
    simp only [hpx] at HPX
    have HOB := Lib.hid (fun w => openBehind_any s 0 w hz (by omega) (by omega))
    rw [hob] at HOB
    gi_wp2_with (first
      | (refine ⟨trivial, ?_⟩; gi_at_call 79; (refine (CallsIn.inRound l' (callsIn_wide.2 (HTR.out _))).mono ?_); rintro e w5 ⟨rfl, hB⟩; obtain ⟨z0, z1, z2, z3⟩ := cells_later hB q0 q1 q2 q3; have HB := Lib.hid hB; clear hB)
      | (refine ⟨trivial, ?_⟩; gi_at_call 80; (refine (CallsIn.inRound l' (callsIn_wide.2 (HPX.out _))).mono ?_); rintro e w6 ⟨rfl, rfl⟩)
      | (refine ⟨trivial, ?_⟩; gi_at_call 81; (refine (CallsIn.inRound l' (callsIn_wide.2 (HOB.out _))).mono ?_); rintro e w6 ⟨rfl, rfl⟩))
    have hk : KeepsFrom W0.heap.size V w6 := KeepsFrom.of_grownBy (row := none) ⟨HB.out.os, HB.out.tape, HB.out.output, HB.out.size, fun k hk _ => HB.out.block k hk⟩ (fun j e => by cases e)
    exact ⟨hk.trans ((KeepsOthers.setCell _ _ _).from _), trivial, ⟨(World.cell?_setCell_other _ _ _ _ (by intro e; injection e with e; omega)).trans z0, (World.cell?_setCell_other _ _ _ _ (by intro e; injection e with e; omega)).trans z1, World.cell?_setCell_same' _ _ _ (by rw [z2]; rfl), by rw [World.frozen?_setCell]; exact z3⟩, (up hV HB.out).setCell (p := ⟨W.heap.size + 1 + 1, 0, none⟩) (by show W.heap.size ≤ W.heap.size + 1 + 1; omega) _⟩
  case done =>
    rintro D ys V hD rfl ⟨⟨q0, q1, q2, q3⟩, hV⟩ hK
    have hbV : V.cell? ⟨Bn, 0, none⟩ = some (.string s) := (hV.cell (p := ⟨Bn, 0, none⟩) hlt).trans hBn
    have hJV : J [] V.drew := hJ [] W _ none h0 ⟨hV.drew.os, hV.drew.tape, hV.drew.output, hV.drew.size, fun k hk _ => hV.drew.block k hk⟩ (fun r e => by cases e)
    obtain ⟨fn, tmps, assign, body, hy, hR⟩ := hY [] () V.drew hJV (by simp)
    dsimp only [encP] at hy
    have HR := Lib.hid (hR.mono (R' := fun e W' => ∃ bb : Bool, e = .returned (.bool bb) ∧ W'.heap[D]? = some (.deferred (some [])) ∧ ((bb = true ∧ J [()] W') ∨ (bb = false ∧ Jx [()] W'))) (by
      rintro e W3 (⟨rfl, h, k⟩ | ⟨rfl, h, k⟩)
      · exact ⟨true, rfl, hKD D _ _ k (Nat.le_trans hB4.size hD) hK, .inl ⟨rfl, h⟩⟩
      · exact ⟨false, rfl, hKD D _ _ k (Nat.le_trans hB4.size hD) hK, .inr ⟨rfl, h⟩⟩))
    clear hR
    gi_wp2
    refine Code.wpIn_mono NoPanic.imp ?_
    gi_region_with (refine HR.out.mono ?_; rintro e W3 ⟨bb, rfl, hK3, hh⟩)
    all_goals
      refine NoPanic.normal ?_
      refine ⟨by simp, .inl ⟨_, _, rfl, run_takeDeferred hK3, ?_⟩⟩
    all_goals
      refine ⟨_, results_none rfl _ _ _, ⟨_, rfl⟩, ?_⟩
      rcases hh with ⟨_, h⟩ | ⟨_, h⟩
      · exact .inl ⟨[()], rfl, hJD D _ _ h (Nat.le_trans hB4.size hD) hK3⟩
      · exact .inr ⟨[()], rfl, hJxD D _ _ h (Nat.le_trans hB4.size hD) hK3⟩
end Go.Proofs.YtedabholcldgbaaGreatDoor.Y

/- strings.Trim at blanks and tabs. -/
namespace Go.Proofs.YtedabholcldgbaaGreatDoor.Y
open Go.RowKit Go.Shelf Go.Deep

theorem trim_any (s : ByteArray) (hs : s.size ≤ 1000000000) (w : World) :
    Calls Tryz.prog 79 #[.string s, .string ⟨#[32, 9]⟩] w fun e w' => e = .returned (.string ⟨(Lib.trimS s.data.toList [32, 9]).toArray⟩) ∧ Below w.heap.size w w' :=
  Any.strings_Trim_laid Tryz.lays160 (by kernel_rfl) s ⟨#[32, 9]⟩ w (by omega) (by decide) (ascii_of_all (by decide))
end Go.Proofs.YtedabholcldgbaaGreatDoor.Y

/- layout.pieces of any text: the iterator's contract. -/
namespace Go.Proofs.YtedabholcldgbaaGreatDoor.Y
open Go.RowKit Go.Shelf Go.Deep
attribute [local go_sem] Oper.semAt_some

/-- The pieces of a text, of its lines: each comment that is kept, with the source ahead of it. -/
def piecesW (s : List UInt8) : List (Nat × List UInt8) → Nat → Int → List (List UInt8 × List UInt8)
  | [], fr, _ => [(s.drop fr, [])]
  | x :: r, fr, o =>
    if 0 < o ∨ Lib.hasPrefix (Lib.trimS x.2 [32, 9]) [59] = false then piecesW s r fr (obF x.2 false o)
    else ((s.drop fr).take (x.1 - fr), Lib.trimS x.2 [32, 9]) :: piecesW s r (x.1 + x.2.length) o
def piecesT (s : List UInt8) : List (List UInt8 × List UInt8) := piecesW s (linesL 0 s) 0 0
def encQ (x : List UInt8 × List UInt8) : Array Value := #[.string ⟨x.1.toArray⟩, .string ⟨x.2.toArray⟩]
/-- Lines stand one behind the other. -/
theorem lines_apart (m : Nat) : ∀ (l : List UInt8), l.length ≤ m → ∀ k, (linesL k l).Pairwise (fun a b => a.1 + a.2.length ≤ b.1) ∧ ∀ x ∈ linesL k l, k ≤ x.1 ∧ x.1 + x.2.length ≤ k + l.length := by
  induction m with
  | zero =>
    intro l hl k
    have e : l = [] := List.length_eq_zero_iff.1 (by omega)
    subst e
    rw [linesL_last (by decide)]
    simp
  | succ m ih =>
    intro l hl k
    by_cases h : Lib.indexByte l 10 < 0
    · rw [linesL_last h]; simp
    · obtain ⟨h1, h2, h3⟩ := index_lt h
      rw [linesL_more h]
      have := ih (l.drop (nlI l + 1)) (by simp; omega) (k + nlI l + 1)
      refine ⟨List.pairwise_cons.2 ⟨fun b hb => ?_, this.1⟩, fun x hx => ?_⟩
      · have := (this.2 b hb).1
        simp only [List.length_take]; omega
      · rcases List.mem_cons.1 hx with rfl | hx
        · simp only [List.length_take]; omega
        · have := this.2 x hx
          simp only [List.length_drop] at this; omega
theorem lines_split {s : List UInt8} {pre rest : List (Nat × List UInt8)} {x : Nat × List UInt8} (h : linesL 0 s = pre ++ x :: rest) : (∀ z ∈ rest, x.1 + x.2.length ≤ z.1) ∧ x.1 + x.2.length ≤ s.length := by
  have := lines_apart s.length s (Nat.le_refl _) 0
  rw [h] at this
  refine ⟨fun z hz => ?_, by have := (this.2 x (by simp)).2; omega⟩
  have h2 := (List.pairwise_append.1 this.1).2.1
  exact (List.pairwise_cons.1 h2).1 z hz
theorem ob_near (m : Nat) : ∀ (l : List UInt8), l.length ≤ m → ∀ (q : Bool) (n : Int), n - l.length ≤ obF l q n ∧ obF l q n ≤ n + l.length := by
  induction m with
  | zero =>
    intro l h q n
    have e : l = [] := List.length_eq_zero_iff.1 (by omega)
    subst e
    rw [obF]; simp
  | succ m ih =>
    intro l h q n
    cases l with
    | nil => rw [obF]; simp
    | cons b r =>
      simp only [List.length_cons] at h ⊢
      rw [obF]
      split
      · have := ih r (by omega) (!q) n; omega
      · split
        · have := ih (r.drop 1) (by simp; omega) q n
          simp only [List.length_drop] at this; omega
        · split
          · have := ih r (by omega) q n; omega
          · split
            · omega
            · split
              · have := ih r (by omega) q (n + 1); omega
              · split
                · have := ih r (by omega) q (n - 1); omega
                · have := ih r (by omega) q n; omega
/-- The iterator's own cells. -/
structure Mine (m l : Nat) (s : ByteArray) (fr o : Int) (A : World) : Prop where
  c0 : A.heap[m]? = some (.cells #[.func (.yield l) #[] #[]] 42 (0, 0))
  c1 : A.heap[m + 1]? = some (.cells #[.int .i64 fr] 3 (0, 0))
  c2 : A.heap[m + 2]? = some (.cells #[.int .i64 o] 3 (0, 0))
  c3 : A.heap[m + 3]? = some (.cells #[.string s] 9 (0, 0))
theorem Mine.kept {m l : Nat} {s : ByteArray} {fr o : Int} {A A' : World} (h : Mine m l s fr o A) (hk : ∀ k, m ≤ k → k < m + 4 → A'.heap[k]? = A.heap[k]?) : Mine m l s fr o A' :=
  ⟨(hk _ (by omega) (by omega)).trans h.c0, (hk _ (by omega) (by omega)).trans h.c1, (hk _ (by omega) (by omega)).trans h.c2, (hk _ (by omega) (by omega)).trans h.c3⟩
theorem Mine.lt {m l : Nat} {s : ByteArray} {fr o : Int} {A : World} (h : Mine m l s fr o A) : m + 4 ≤ A.heap.size := by have := lt_of_getElem? h.c3; omega
theorem Mine.below {m l : Nat} {s : ByteArray} {fr o : Int} {A A' : World} (h : Mine m l s fr o A) (hb : Below A.heap.size A A') : Mine m l s fr o A' := h.kept fun k _ h2 => hb.block k (by have := h.lt; omega)
theorem Mine.open {m l : Nat} {s : ByteArray} {fr o : Int} {A : World} (h : Mine m l s fr o A) (o' : Int) : Mine m l s fr o' (A.setCell ⟨m + 2, 0, none⟩ (.int .i64 o')) := by
  refine ⟨?_, ?_, ?_, ?_⟩
  · rw [Below.heap_setCell _ _ _ _ (by show m ≠ m + 2; omega)]; exact h.c0
  · rw [Below.heap_setCell _ _ _ _ (by show m + 1 ≠ m + 2; omega)]; exact h.c1
  · simpa using heap_setCell_same A (m + 2) 0 _ _ (.int .i64 o') h.c2
  · rw [Below.heap_setCell _ _ _ _ (by show m + 3 ≠ m + 2; omega)]; exact h.c3
theorem Mine.from {m l : Nat} {s : ByteArray} {fr o : Int} {A : World} (h : Mine m l s fr o A) (fr' : Int) : Mine m l s fr' o (A.setCell ⟨m + 1, 0, none⟩ (.int .i64 fr')) := by
  refine ⟨?_, ?_, ?_, ?_⟩
  · rw [Below.heap_setCell _ _ _ _ (by show m ≠ m + 1; omega)]; exact h.c0
  · simpa using heap_setCell_same A (m + 1) 0 _ _ (.int .i64 fr') h.c1
  · rw [Below.heap_setCell _ _ _ _ (by show m + 2 ≠ m + 1; omega)]; exact h.c2
  · rw [Below.heap_setCell _ _ _ _ (by show m + 3 ≠ m + 1; omega)]; exact h.c3
def NotMine (own : World → Option Nat) (m : Nat) (A : World) : Prop := ∀ r, own A = some r → r < m ∨ m + 4 ≤ r
/-- Blocks are laid. -/
theorem Stands.below {β : Type} {own : World → Option Nat} {B : Nat} {I : β → World → Prop} (h : Stands own B I) {s : β} {A A' : World} (hi : I s A) (hb : Below A.heap.size A A') : I s A' ∧ own A' = own A :=
  h.1 s A A' hi ⟨none, ⟨hb.os, hb.tape, hb.output, hb.size, fun k hk _ => hb.block k hk⟩, fun r e => by cases e⟩
theorem Stands.cell {β : Type} {own : World → Option Nat} {B : Nat} {I : β → World → Prop} (h : Stands own B I) {s : β} {A : World} (hi : I s A) {b : Nat} (hB : B ≤ b) (hn : own A ≠ some b) (v : Value) : I s (A.setCell ⟨b, 0, none⟩ v) ∧ own (A.setCell ⟨b, 0, none⟩ v) = own A :=
  h.1 s A _ hi ⟨some b, grownBy_setCell' A b v, fun r e => by cases e; exact ⟨hB, hn⟩⟩
/-- Blocks are laid, and a cell that lies ahead of B is turned. -/
theorem leaves_cell {safe : Obj → Prop} {own : World → Option Nat} {B b : Nat} {A A1 : World} {v : Value} (hb : Below A.heap.size A A1) (hB : b < B) (ho : own (A1.setCell ⟨b, 0, none⟩ v) = own A) : Leaves safe own B A (A1.setCell ⟨b, 0, none⟩ v) :=
  ⟨by simpa using hb.size, fun r o hr _ _ ho => by rw [Below.heap_setCell _ _ _ _ (by show r ≠ b; omega)]; exact (hb.block r (lt_of_getElem? ho)).trans ho, .inl ho⟩
/-- The same around a round of the caller's. -/
theorem leaves_round {safe : Obj → Prop} {own : World → Option Nat} {B' B b : Nat} {A A1 A2 : World} {v : Value} {o : Obj} (hb : Below A.heap.size A A1) (ho : own A1 = own A) (h : Leaves safe own B' A1 A2) (hBB : B' ≤ B) (hB : b < B) (h3 : own (A2.setCell ⟨b, 0, none⟩ v) = own A2) (hs : A2.heap[b]? = some o) (hso : safe o) : Leaves safe own B A (A2.setCell ⟨b, 0, none⟩ v) := by
  refine ⟨Nat.le_trans hb.size (by simpa using h.size), fun r o hr hn hsf hro => ?_, ?_⟩
  · rw [Below.heap_setCell _ _ _ _ (by show r ≠ b; omega)]
    exact h.same r o (by omega) (by rw [ho]; exact hn) hsf ((hb.block r (lt_of_getElem? hro)).trans hro)
  · rw [h3, ← ho]
    rcases h.next with e | e | e
    · exact .inl e
    · exact .inr (.inl fun r hr => Nat.le_trans hb.size (e r hr))
    · refine .inr (.inr fun r hr => ?_)
      obtain ⟨q, hq, hu⟩ := e r hr
      refine ⟨q, ?_, hu⟩
      rw [Below.heap_setCell _ _ _ _ (by show r ≠ b; intro e; subst e; rw [hs] at hq; cases hq; exact hu hso)]
      exact hq
theorem leaves_plain {safe : Obj → Prop} {own : World → Option Nat} {B' B : Nat} {A A1 A2 : World} (hb : Below A.heap.size A A1) (ho : own A1 = own A) (h : Leaves safe own B' A1 A2) (hBB : B' ≤ B) : Leaves safe own B A A2 := by
  refine ⟨Nat.le_trans hb.size h.size, fun r o hr hn hsf hro => h.same r o (by omega) (by rw [ho]; exact hn) hsf ((hb.block r (lt_of_getElem? hro)).trans hro), ?_⟩
  rw [← ho]
  rcases h.next with e | e | e
  · exact .inl e
  · exact .inr (.inl fun r hr => Nat.le_trans hb.size (e r hr))
  · exact .inr (.inr e)
/-- What a round leaves of the iterator's own. -/
theorem Mine.round {safe : Obj → Prop} {own : World → Option Nat} {B m l : Nat} {s : ByteArray} {fr o : Int} {A A' : World} (h : Mine m l s fr o A) (hn : NotMine own m A) (hl : Leaves safe own B A A') (hB : B ≤ m)
    (s0 : ∀ v, safe (.cells #[v] 42 (0, 0))) (s1 : ∀ v, safe (.cells #[v] 3 (0, 0))) (s2 : ∀ v, safe (.cells #[v] 9 (0, 0))) : Mine m l s fr o A' ∧ NotMine own m A' := by
  have ne : ∀ k, m ≤ k → k < m + 4 → own A ≠ some k := fun k h1 h2 e => by have := hn k e; omega
  have hM : Mine m l s fr o A' := ⟨hl.same _ _ (by omega) (ne _ (by omega) (by omega)) (s0 _) h.c0, hl.same _ _ (by omega) (ne _ (by omega) (by omega)) (s1 _) h.c1, hl.same _ _ (by omega) (ne _ (by omega) (by omega)) (s1 _) h.c2, hl.same _ _ (by omega) (ne _ (by omega) (by omega)) (s2 _) h.c3⟩
  refine ⟨hM, fun r hr => ?_⟩
  rcases hl.next with e | e | e
  · exact hn r (e ▸ hr)
  · have := e r hr
    have := h.lt
    omega
  · obtain ⟨q, hq, hu⟩ := e r hr
    rcases Nat.lt_or_ge r m with h1 | h1
    · exact .inl h1
    · rcases Nat.lt_or_ge r (m + 4) with h2 | h2
      · exfalso
        rcases (by omega : r = m ∨ r = m + 1 ∨ r = m + 2 ∨ r = m + 3) with rfl | rfl | rfl | rfl
        · rw [hM.c0] at hq; cases hq; exact hu (s0 _)
        · rw [hM.c1] at hq; cases hq; exact hu (s1 _)
        · rw [hM.c2] at hq; cases hq; exact hu (s1 _)
        · rw [hM.c3] at hq; cases hq; exact hu (s2 _)
      · exact .inr h2
theorem round_wide {P : Program} {n m l : Nat} {f : FuncId} {t : Array Value} {a b : Code} {w : World} {R : Ending → World → Prop} (h : RoundIn Fence.wide n P l f t a b w R) : RoundIn Fence.wide m P l f t a b w R := ⟨h.1, fun c cs _ => h.2 c cs (fun d hd => by cases hd)⟩
theorem round_any {P : Program} {n m l l' : Nat} {f : FuncId} {t : Array Value} {a b : Code} {w : World} {R : Ending → World → Prop} (h : RoundIn Fence.wide n P l f t a b w R) : RoundIn (Fence.wide.inRound l') m P l f t a b w R := ⟨h.1, fun c cs _ => h.2 c cs (fun d hd => by cases hd)⟩

theorem op_inRound {n l i : Nat} {P : Program} {ops : Array Oper} {Q : Exit → Act → World → Prop} {K K' : Act → World → Prop} {a : Act} {w : World} (hd : ∀ (j : Nat) (o : Oper) (c : Call), ops[j]? = some o → o.op ≠ .defer c) (hK : ∀ a w, K a w → K' a w) (h : wpOpIn Fence.wide n P ops Q i K a w) : wpOpIn (Fence.wide.inRound l) n P ops Q i K' a w := by
  have h := wpOpIn_mono hK h
  unfold wpOpIn at *
  cases ho : ops[i]? with
  | none => simpa only [ho] using h
  | some o =>
    simp only [ho] at h ⊢
    split
    · rename_i hw
      rw [if_pos hw] at h
      unfold Oper.wpIn at *
      refine ⟨h.1, ?_⟩
      have h2 := h.2
      rw [Oper.semAt_eq _ _ _ (fun c => hd i o c ho)] at h2 ⊢
      generalize (execOp a.eval o).run P w = r at *
      cases r with
      | ok x w' => cases x <;> exact h2
      | halt x w' => cases x <;> exact h2
    · rename_i hw
      rw [if_neg hw] at h
      exact h
/-- No operation defers. -/
theorem no_defer {ops : Array Oper} (h : (ops.all fun o => match o.op with | .defer _ => false | _ => true) = true) (j : Nat) (o : Oper) (c : Call) (hj : ops[j]? = some o) : o.op ≠ .defer c := by
  intro e
  obtain ⟨hlt, he⟩ := Array.getElem?_eq_some_iff.1 hj
  have h2 := (Array.all_eq_true.1 h) j hlt
  rw [he, e] at h2
  cases h2
/-- A region that draws, in a round, as outside of one. -/
theorem any_inRound {n l : Nat} {P : Program} {md : Region.Mode} {ops : Array Oper} {Q : Exit → Act → World → Prop} (hd : ∀ (j : Nat) (o : Oper) (c : Call), ops[j]? = some o → o.op ≠ .defer c) : ∀ (fuel : Nat) (listed : Array Bool) (a : Act) (w : World), wpAnyIn Fence.wide n P md ops Q fuel listed a w → wpAnyIn (Fence.wide.inRound l) n P md ops Q fuel listed a w
  | 0, _, _, _, h => h
  | fuel + 1, _, _, _, h => ⟨h.1, fun i hi => op_inRound hd (fun a w h => any_inRound hd fuel _ a w h) (h.2 i hi)⟩
theorem ext_cut (s : ByteArray) (i j : Nat) : s.extract i j = ⟨((s.data.toList.drop i).take (j - i)).toArray⟩ := by
  apply ByteArray.ext
  apply Array.ext'
  simp only [ByteArray.data_extract, Array.toList_extract, List.extract_eq_take_drop]
set_option linter.unusedSimpArgs false in
set_option maxRecDepth 100000 in
set_option maxHeartbeats 8000000 in
theorem pieces_seq (n : Nat) (hn : 8 ≤ n) (Bn : Nat) (s : ByteArray) (hz : s.size ≤ 1000000000) (safe : Obj → Prop) (hsafe : ∀ o : Obj, o.isCells = false → safe o)
    (s0 : ∀ v, safe (.cells #[v] 42 (0, 0))) (s1 : ∀ v, safe (.cells #[v] 3 (0, 0))) (s2 : ∀ v, safe (.cells #[v] 9 (0, 0))) (own : World → Option Nat) :
    SeqY Fence.wide n Tryz.prog 78 #[.pointer (some ⟨Bn, 0, none⟩)] encQ safe own (fun A => A.cell? ⟨Bn, 0, none⟩ = some (.string s))
      (fun ys => ys = piecesT s.data.toList) (fun pre => pre ≠ [] ∧ pre <+: piecesT s.data.toList) (fun pre => pre <+: piecesT s.data.toList) := by
  intro l J Jx W hJ hJx hR hY h0
  have hz1 : (s.size : Int) ≤ 1000000000 := by omega
  have h1 : 1 ≤ n := by omega
  have hBn := hR _ _ h0
  have hlt : Bn < W.heap.size := World.block_lt_of_cell? _ _ hBn
  have hB3 : Below W.heap.size W (((W.alloc (.cells #[.func (.yield l) #[] #[]] 42)).alloc (.cells #[.int .i64 0] 3)).alloc (.cells #[.int .i64 0] 3)) := up (bel1 _ _) (up (bel1 _ _) (bel1 _ _))
  have hb3 : (((W.alloc (.cells #[.func (.yield l) #[] #[]] 42)).alloc (.cells #[.int .i64 0] 3)).alloc (.cells #[.int .i64 0] 3)).cell? ⟨Bn, 0, none⟩ = some (.string s) := (hB3.cell (p := ⟨Bn, 0, none⟩) hlt).trans hBn
  refine callsIn_of_wp_marks Tryz.func78 rfl trivial ?_ rfl
  simp only [Tryz.ntmps78, List.size_toArray, List.length_cons, List.length_nil, Nat.reduceAdd, Nat.reduceSub, Array.replicate_succ, Array.replicate_zero, List.push_toArray, List.append_toArray, List.nil_append, List.cons_append]
  gi_wp2_with (refine ⟨trivial, ?_⟩; gi_at_call 56; refine (lines_in s _ _).mono ?_; rintro e w' ⟨rfl, rfl⟩)
  have hB4 : Below W.heap.size W ((((W.alloc (.cells #[.func (.yield l) #[] #[]] 42)).alloc (.cells #[.int .i64 0] 3)).alloc (.cells #[.int .i64 0] 3)).alloc (.cells #[.string s] 9)) := up hB3 (bel1 _ _)
  have hz4 : ((((W.alloc (.cells #[.func (.yield l) #[] #[]] 42)).alloc (.cells #[.int .i64 0] 3)).alloc (.cells #[.int .i64 0] 3)).alloc (.cells #[.string s] 9)).heap.size = W.heap.size + 4 := by simp
  obtain ⟨W0, hW0⟩ : ∃ W0, (((W.alloc (.cells #[.func (.yield l) #[] #[]] 42)).alloc (.cells #[.int .i64 0] 3)).alloc (.cells #[.int .i64 0] 3)).alloc (.cells #[.string s] 9) = W0 := ⟨_, rfl⟩
  have k0 := blk_later (W := W) (o := .cells #[.func (.yield l) #[] #[]] 42) (D := W0) (by rw [← hW0]; exact up (bel1 _ _) (up (bel1 _ _) (bel1 _ _)))
  have k1 := blk_later (W := (W.alloc (.cells #[.func (.yield l) #[] #[]] 42))) (o := .cells #[.int .i64 0] 3) (D := W0) (by rw [← hW0]; exact up (bel1 _ _) (bel1 _ _))
  have k2 := blk_later (W := ((W.alloc (.cells #[.func (.yield l) #[] #[]] 42)).alloc (.cells #[.int .i64 0] 3))) (o := .cells #[.int .i64 0] 3) (D := W0) (by rw [← hW0]; exact bel1 _ _)
  have k3 := blk_later (W := (((W.alloc (.cells #[.func (.yield l) #[] #[]] 42)).alloc (.cells #[.int .i64 0] 3)).alloc (.cells #[.int .i64 0] 3))) (o := .cells #[.string s] 9) (D := W0) (by rw [← hW0]; exact Below.refl _ _)
  simp only [World.size_alloc] at k1 k2 k3
  rw [hW0] at hB4 hz4 ⊢
  clear hW0 hB3 hb3
  obtain ⟨m, hm⟩ : ∃ m, W.heap.size = m := ⟨_, rfl⟩
  rw [hm] at k0 k1 k2 k3 hz4 hlt hJ hJx hY ⊢
  have hM0 : Mine m l s 0 0 W0 := ⟨k0, k1, k2, k3⟩
  have hj0 := hJ.below h0 (by rw [hm]; rw [hm] at hB4; exact hB4)
  have hn0 : NotMine own m W0 := fun r hr => by
    rw [hj0.2] at hr
    obtain ⟨v, t, fz, hc⟩ := hJ.2 _ _ r h0 hr
    have := lt_of_getElem? hc
    omega
  refine range_own (α := Nat × List UInt8) rfl h1 (gf := 89) (lb := #[.pointer (some ⟨m + 1 + 1 + 1, 0, none⟩)]) rfl trivial (enters_of Tryz.func89 (by kernel_rfl) rfl)
    (encs := fun x => #[.int .i64 x.1, .string ⟨x.2.toArray⟩]) (safe := safe) hsafe (own := own) (lines_seq (n - 1) (by omega) (m + 1 + 1 + 1) s hz safe own) (fun _ => rfl)
    (fun pre V => ∃ (fr : Nat) (o : Int) (opre : List (List UInt8 × List UInt8)) (rest : List (Nat × List UInt8)), Mine m l s fr o V ∧ NotMine own m V ∧ J opre V ∧ linesL 0 s.data.toList = pre ++ rest ∧ piecesT s.data.toList = opre ++ piecesW s.data.toList rest fr o ∧ fr ≤ s.size ∧ ∀ z ∈ rest, fr ≤ z.1 ∧ -(z.1 : Int) ≤ o ∧ o ≤ z.1)
    (fun c pre V => c = .ret ∧ ∃ opre, opre ≠ [] ∧ opre <+: piecesT s.data.toList ∧ Jx opre V)
    ⟨?hI1, ?hI2⟩ (fun c => ⟨?hX1, ?hX2⟩) ?hRI
    ⟨0, 0, [], linesL 0 s.data.toList, hM0, hn0, hj0.1, rfl, rfl, by omega, fun z _ => by omega⟩
    ?a1 ?assign ?body ?done ?stop
  case hI1 =>
    rintro q A A' ⟨fr, o, opre, rest, hM, hN, hj, hl, hp, hfr, hzz⟩ ⟨row, hg, hr⟩
    rw [hz4] at hr
    have hj' := hJ.1 opre A A' hj ⟨row, hg, fun r e => ⟨by have := (hr r e).1; omega, (hr r e).2⟩⟩
    have hlt := hM.lt
    exact ⟨⟨fr, o, opre, rest, hM.kept (fun k h1 h2 => hg.block k (by omega) (fun e => by have := (hr k e.symm).1; omega)), fun r hr' => hN r (by rw [← hj'.2]; exact hr'), hj'.1, hl, hp, hfr, hzz⟩, hj'.2⟩
  case hI2 =>
    rintro q A r ⟨fr, o, opre, rest, hM, hN, hj, _⟩ e
    exact hJ.2 opre A r hj e
  case hX1 =>
    rintro q A A' ⟨hc, opre, hne, hp, hj⟩ ⟨row, hg, hr⟩
    rw [hz4] at hr
    have hj' := hJx.1 opre A A' hj ⟨row, hg, fun r e => ⟨by have := (hr r e).1; omega, (hr r e).2⟩⟩
    exact ⟨⟨hc, opre, hne, hp, hj'.1⟩, hj'.2⟩
  case hX2 =>
    rintro q A r ⟨hc, opre, hne, hp, hj⟩ e
    exact hJx.2 opre A r hj e
  case hRI =>
    rintro q A ⟨fr, o, opre, rest, hM, _⟩
    exact (cell_of1 hM.c3).1
  case assign =>
    intro l' x V K hK
    gi_wp2
    exact hK
  case stop =>
    rintro D c pre V hD _ ⟨rfl, opre, hne, hp, hj⟩ hK
    have hj' := (hJx.turned hj (by omega) hK rfl (.deferred none)).1
    gi_wp2
    refine ⟨by simp, .inl ⟨_, _, rfl, run_takeDeferred hK, ?_⟩⟩
    exact ⟨_, results_none rfl _ _ _, ⟨_, rfl⟩, .inr ⟨opre, ⟨hne, hp⟩, hj'⟩⟩
  case body =>
    rintro l' pre x V ⟨fr, o, opre, rest, hM, hN, hj, hl, hp, hfr, hzz⟩ hpre
    obtain ⟨rest', rfl⟩ : ∃ rest', rest = x :: rest' := by
      obtain ⟨q, hq⟩ := hpre
      rw [hl, List.append_assoc] at hq
      exact ⟨q, (List.append_cancel_left hq).symm⟩
    obtain ⟨hx1, hx2⟩ := lines_split hl
    obtain ⟨hf1, ho1, ho2⟩ := hzz x (by simp)
    rw [show s.data.toList.length = s.size by simp] at hx2
    obtain ⟨at_, line⟩ := x
    simp only at hf1 ho1 ho2 hx1 hx2 ⊢
    obtain ⟨d, hd⟩ : ∃ d : ByteArray, (⟨line.toArray⟩ : ByteArray) = d := ⟨_, rfl⟩
    have hdl : d.data.toList = line := by rw [← hd]
    have hds : d.size = line.length := by rw [← hdl]; simp
    obtain ⟨u, hu⟩ : ∃ u : ByteArray, (⟨(Lib.trimS line [32, 9]).toArray⟩ : ByteArray) = u := ⟨_, rfl⟩
    have hul : u.data.toList = Lib.trimS line [32, 9] := by rw [← hu]
    have h3 : 1 ≤ n - 1 - 1 := by omega
    have h4 : 1 ≤ n - 1 - 1 - 1 := by omega
    have HTR := Lib.hid fun w => trim_any d (by omega) w
    rw [hdl, hu] at HTR
    have HPX := Lib.hid fun w => Tryz.strings_HasPrefix u ⟨#[59]⟩ w
    have HOB := Lib.hid fun w => openBehind_any d o w (by omega) (by omega) (by omega)
    rw [hdl] at HOB
    have hob := ob_near line.length line (Nat.le_refl _) false o
    have HM := Lib.hid hM
    have q0 := (cell_of1 hM.c0).1
    have q1 := (cell_of1 hM.c1).1
    have q2 := (cell_of1 hM.c2).1
    have q3 := (cell_of1 hM.c2).2
    have HN := Lib.hid hN
    have HJ := Lib.hid hj
    have hl2 : linesL 0 s.data.toList = (pre ++ [(at_, line)]) ++ rest' := by rw [hl]; simp
    clear hM hN hj hpre hl
    rw [hd]
    have goOn : ∀ (a : Act) (V1 : World) (o' : Int), Below V.heap.size V V1 → o' = obF line false o → piecesT s.data.toList = opre ++ piecesW s.data.toList rest' fr o' → EndsR safe own W0.heap.size
        (fun pre V => ∃ (fr : Nat) (o : Int) (opre : List (List UInt8 × List UInt8)) (rest : List (Nat × List UInt8)), Mine m l s fr o V ∧ NotMine own m V ∧ J opre V ∧ linesL 0 s.data.toList = pre ++ rest ∧ piecesT s.data.toList = opre ++ piecesW s.data.toList rest fr o ∧ fr ≤ s.size ∧ ∀ z ∈ rest, fr ≤ z.1 ∧ -(z.1 : Int) ≤ o ∧ o ≤ z.1)
        (fun c pre V => c = .ret ∧ ∃ opre, opre ≠ [] ∧ opre <+: piecesT s.data.toList ∧ Jx opre V) (pre ++ [(at_, line)]) V .normal a (V1.setCell ⟨m + 2, 0, none⟩ (.int .i64 o')) := by
      intro a V1 o' hb ho hp'
      have hj1 := hJ.below HJ.out hb
      have hc := hJ.cell hj1.1 (b := m + 2) (by omega) (by rw [hj1.2]; intro e; have := HN.out _ e; omega) (.int .i64 o')
      exact ⟨leaves_cell hb (by rw [hz4]; omega) (hc.2.trans hj1.2), fr, o', opre, rest', (HM.out.below hb).open _, fun r hr => HN.out r (by rw [← hj1.2, ← hc.2]; exact hr), hc.1, hl2, hp', hfr, fun z hz' => by have := hx1 z hz'; omega⟩
    have GO := Lib.hid goOn
    clear goOn
    by_cases ho : 0 < o
    · rw [piecesW, if_pos (.inl ho)] at hp
      have HP := Lib.hid hp
      clear hp hzz hx1
      gi_wp2_with (first
        | (refine ⟨trivial, ?_⟩; gi_at_call 79; (refine (CallsIn.inRound l' (callsIn_wide.2 (HTR.out _))).mono ?_); rintro e w5 ⟨rfl, hB⟩; obtain ⟨z0, z1, z2, z3⟩ := cells_later hB q0 q1 q2 q3; have HB := Lib.hid hB; clear hB)
        | (refine ⟨trivial, ?_⟩; gi_at_call 81; (refine (CallsIn.inRound l' (callsIn_wide.2 (HOB.out _))).mono ?_); rintro e w6 ⟨rfl, rfl⟩)
        | refine ⟨trivial, ?_⟩)
      exact GO.out _ _ _ HB.out rfl HP.out
    · cases hpx : Lib.hasPrefix (Lib.trimS line [32, 9]) [59] with
      | false =>
        rw [piecesW, if_pos (.inr hpx)] at hp
        have HP := Lib.hid hp
        rw [← hul] at hpx
        simp only [hpx] at HPX
        clear hp hzz hx1 hpx
        gi_wp2_with (first
          | (refine ⟨trivial, ?_⟩; gi_at_call 79; (refine (CallsIn.inRound l' (callsIn_wide.2 (HTR.out _))).mono ?_); rintro e w5 ⟨rfl, hB⟩; obtain ⟨z0, z1, z2, z3⟩ := cells_later hB q0 q1 q2 q3; have HB := Lib.hid hB; clear hB)
          | (refine ⟨trivial, ?_⟩; gi_at_call 80; (refine (CallsIn.inRound l' (callsIn_wide.2 (HPX.out _))).mono ?_); rintro e w6 ⟨rfl, rfl⟩)
          | (refine ⟨trivial, ?_⟩; gi_at_call 81; (refine (CallsIn.inRound l' (callsIn_wide.2 (HOB.out _))).mono ?_); rintro e w6 ⟨rfl, rfl⟩))
        exact GO.out _ _ _ HB.out rfl HP.out
      | true =>
        rw [piecesW, if_neg (by rw [hpx]; simp [ho])] at hp
        have HP := Lib.hid hp
        rw [← hul] at hpx
        simp only [hpx] at HPX
        have gf0 : (0 : Int) ≤ (fr : Int) := by omega
        have gfa : (fr : Int) ≤ (at_ : Int) := by omega
        have gas : (at_ : Int) ≤ (s.size : Int) := by omega
        have HX := Lib.hid hx1
        clear hp hzz hx1 hpx
        gi_wp2_with (first
          | (refine ⟨trivial, ?_⟩; gi_at_call 79; (refine (CallsIn.inRound l' (callsIn_wide.2 (HTR.out _))).mono ?_); rintro e w5 ⟨rfl, hB⟩; obtain ⟨z0, z1, z2, z3⟩ := cells_later hB q0 q1 q2 q3; have HB := Lib.hid hB; clear hB)
          | (refine ⟨trivial, ?_⟩; gi_at_call 80; (refine (CallsIn.inRound l' (callsIn_wide.2 (HPX.out _))).mono ?_); rintro e w6 ⟨rfl, rfl⟩))
        have hj6 := hJ.below HJ.out HB.out
        have hj7 := hJ.below hj6.1 (Below.refl _ w6).drew
        have hb6 := hR _ _ hj6.1
        have HM7 := Lib.hid ((HM.out.below HB.out).below (Below.refl _ w6).drew)
        have HN7 : Hid (NotMine own m w6.drew) := Lib.hid fun r hr => HN.out r (by rw [← hj6.2, ← hj7.2]; exact hr)
        obtain ⟨fn, tmps, assign, body, hy, hQ⟩ := hY opre ((s.data.toList.drop fr).take (at_ - fr), Lib.trimS line [32, 9]) w6.drew hj7.1 (by rw [HP.out]; exact ⟨piecesW s.data.toList rest' (at_ + line.length) o, by simp⟩)
        simp only [encQ] at hy
        rw [← ext_cut, hu] at hy
        have HQ := Lib.hid ((round_wide (m := n - 1 - 1 - 1) hQ).mono (R' := fun e W' => ∃ bb : Bool, e = .returned (.bool bb) ∧ Leaves safe own m w6.drew W' ∧ ((bb = true ∧ J (opre ++ [((s.data.toList.drop fr).take (at_ - fr), Lib.trimS line [32, 9])]) W') ∨ (bb = false ∧ Jx (opre ++ [((s.data.toList.drop fr).take (at_ - fr), Lib.trimS line [32, 9])]) W'))) (by
          rintro e W3 (⟨rfl, h, k⟩ | ⟨rfl, h, k⟩)
          · exact ⟨true, rfl, k, .inl ⟨rfl, h⟩⟩
          · exact ⟨false, rfl, k, .inr ⟨rfl, h⟩⟩))
        have HE := Lib.hid (hj7.2.trans hj6.2)
        have goT : ∀ (a : Act) (W3 : World) (v : Value), v = .int .i64 ((at_ + line.length : Nat) : Int) → Leaves safe own m w6.drew W3 → J (opre ++ [((s.data.toList.drop fr).take (at_ - fr), Lib.trimS line [32, 9])]) W3 → EndsR safe own W0.heap.size
            (fun pre V => ∃ (fr : Nat) (o : Int) (opre : List (List UInt8 × List UInt8)) (rest : List (Nat × List UInt8)), Mine m l s fr o V ∧ NotMine own m V ∧ J opre V ∧ linesL 0 s.data.toList = pre ++ rest ∧ piecesT s.data.toList = opre ++ piecesW s.data.toList rest fr o ∧ fr ≤ s.size ∧ ∀ z ∈ rest, fr ≤ z.1 ∧ -(z.1 : Int) ≤ o ∧ o ≤ z.1)
            (fun c pre V => c = .ret ∧ ∃ opre, opre ≠ [] ∧ opre <+: piecesT s.data.toList ∧ Jx opre V) (pre ++ [(at_, line)]) V .normal a (W3.setCell ⟨m + 1, 0, none⟩ v) := by
          rintro a W3 v rfl hle hj3
          obtain ⟨hM3, hN3⟩ := HM7.out.round HN7.out hle (Nat.le_refl _) s0 s1 s2
          have hc := hJ.cell hj3 (b := m + 1) (by omega) (by intro e; have := hN3 _ e; omega) (.int .i64 ((at_ + line.length : Nat) : Int))
          exact ⟨leaves_round (up HB.out (Below.refl _ w6).drew) HE.out hle (by omega) (by omega) hc.2 hM3.c1 (s1 _), at_ + line.length, o, _, rest', hM3.from _, fun r hr => hN3 r (by rw [← hc.2]; exact hr), hc.1, hl2, by rw [HP.out]; simp, by omega, fun z hz' => by have := HX.out z hz'; omega⟩
        have goF : ∀ (a : Act) (W3 : World), Leaves safe own m w6.drew W3 → Jx (opre ++ [((s.data.toList.drop fr).take (at_ - fr), Lib.trimS line [32, 9])]) W3 → EndsR safe own W0.heap.size
            (fun pre V => ∃ (fr : Nat) (o : Int) (opre : List (List UInt8 × List UInt8)) (rest : List (Nat × List UInt8)), Mine m l s fr o V ∧ NotMine own m V ∧ J opre V ∧ linesL 0 s.data.toList = pre ++ rest ∧ piecesT s.data.toList = opre ++ piecesW s.data.toList rest fr o ∧ fr ≤ s.size ∧ ∀ z ∈ rest, fr ≤ z.1 ∧ -(z.1 : Int) ≤ o ∧ o ≤ z.1)
            (fun c pre V => c = .ret ∧ ∃ opre, opre ≠ [] ∧ opre <+: piecesT s.data.toList ∧ Jx opre V) (pre ++ [(at_, line)]) V .ret a W3 := by
          intro a W3 hle hj3
          exact ⟨leaves_plain (up HB.out (Below.refl _ w6).drew) HE.out hle (by omega), rfl, _, by simp, by rw [HP.out]; exact ⟨piecesW s.data.toList rest' (at_ + line.length) o, by simp⟩, hj3⟩
        have GT := Lib.hid goT
        have GF := Lib.hid goF
        have HF := Lib.hid fun W3 (h : Leaves safe own m w6.drew W3) => cell_of1 (HM7.out.round HN7.out h (Nat.le_refl _) s0 s1 s2).1.c1
        clear hQ hj6 hj7 goT goF
        refine Code.wpIn_mono NoPanic.imp ?_
        refine wpIn_region_any (by kernel_rfl) ?_
        refine any_inRound (no_defer (by kernel_rfl)) _ _ _ _ ?_
        refine wpAnyIn_take (i := 3) (v := .int .i64 at_) rfl rfl (by kernel_rfl) (by kernel_rfl) (by kernel_rfl) (fun _ _ _ h => h) ⟨Or.inl ⟨by rfl, fun W => by go_simp; try with_reducible rfl⟩, fun W => rfl⟩ ?_
        try simp only [Act.put, List.setIfInBounds_toArray, List.set_cons_zero, List.set_cons_succ]
        refine wpAnyIn_take (i := 5) (v := .string u) rfl rfl (by kernel_rfl) (by kernel_rfl) (by kernel_rfl) (fun _ _ _ h => h) ⟨Or.inl ⟨by rfl, fun W => by go_simp; try with_reducible rfl⟩, fun W => rfl⟩ ?_
        try simp only [Act.put, List.setIfInBounds_toArray, List.set_cons_zero, List.set_cons_succ]
        obtain ⟨y0, y1, y2, y3⟩ := cells_later (Below.refl _ w6).drew z0 z1 z2 z3
        have y4 : w6.drew.cell? ⟨Bn, 0, none⟩ = some (.string s) := hb6
        refine wpAnyIn_ready (rs := [0, 1, 2]) (by kernel_rfl) (by simp) (AllReadyIn.cons rfl (fun K hK => ?_) (AllReadyIn.cons rfl (fun K hK => ?_) (AllReadyIn.cons rfl (fun K hK => ?_) AllReadyIn.nil)))
        · go_simp
          refine hK _ _ ?_
          clear hK K
          try simp only [Act.put, List.setIfInBounds_toArray, List.set_cons_zero, List.set_cons_succ]
          refine wpAnyIn_ready (rs := [1, 2]) (by kernel_rfl) (by simp) (AllReadyIn.cons rfl (fun K hK => ?_) (AllReadyIn.cons rfl (fun K hK => ?_) AllReadyIn.nil))
          · go_simp
            refine hK _ _ ?_
            clear hK K
            try simp only [Act.put, List.setIfInBounds_toArray, List.set_cons_zero, List.set_cons_succ]
            refine wpAnyIn_ready (rs := [2]) (by kernel_rfl) (by simp) (AllReadyIn.cons rfl (fun K hK => ?_) AllReadyIn.nil)
            · go_simp
              refine hK _ _ ?_
              clear hK K
              try simp only [Act.put, List.setIfInBounds_toArray, List.set_cons_zero, List.set_cons_succ]
              refine wpAnyIn_ready (rs := [4]) (by kernel_rfl) (by simp) (AllReadyIn.cons rfl (fun K hK => ?_) AllReadyIn.nil)
              · go_simp
                refine hK _ _ ?_
                clear hK K
                try simp only [Act.put, List.setIfInBounds_toArray, List.set_cons_zero, List.set_cons_succ]
                refine wpAnyIn_ready (rs := [6]) (by kernel_rfl) (by simp) (AllReadyIn.cons rfl (fun K hK => ?_) AllReadyIn.nil)
                go_simp
                refine HQ.out.mono ?_
                rintro e W3 ⟨bb, rfl, hle, hh⟩
                refine hK _ _ ?_
                clear hK K
                try simp only [Act.put, List.setIfInBounds_toArray, List.set_cons_zero, List.set_cons_succ]
                refine wpAnyIn_ready (rs := [7]) (by kernel_rfl) (by simp) (AllReadyIn.cons rfl (fun K hK => ?_) AllReadyIn.nil)
                go_simp
                refine hK _ _ ?_
                clear hK K
                try simp only [Act.put, List.setIfInBounds_toArray, List.set_cons_zero, List.set_cons_succ]
                refine wpAnyIn_done (by kernel_rfl) ?_ _
                refine NoPanic.normal ?_
                obtain ⟨hfc, hf⟩ := HF.out _ hle
                rcases hh with ⟨rfl, hj⟩ | ⟨rfl, hj⟩
                · have HL := Lib.hid hle
                  have HJ3 := Lib.hid hj
                  clear hle hj
                  gi_wp2
                  exact GT.out _ _ _ (by rw [← hds]; simp) HL.out HJ3.out
                · have HL := Lib.hid hle
                  have HJ3 := Lib.hid hj
                  clear hle hj
                  gi_wp2
                  exact GF.out _ _ HL.out HJ3.out
          · go_simp
            refine hK _ _ ?_
            clear hK K
            try simp only [Act.put, List.setIfInBounds_toArray, List.set_cons_zero, List.set_cons_succ]
            refine wpAnyIn_ready (rs := [1]) (by kernel_rfl) (by simp) (AllReadyIn.cons rfl (fun K hK => ?_) AllReadyIn.nil)
            · go_simp
              refine hK _ _ ?_
              clear hK K
              try simp only [Act.put, List.setIfInBounds_toArray, List.set_cons_zero, List.set_cons_succ]
              refine wpAnyIn_ready (rs := [4]) (by kernel_rfl) (by simp) (AllReadyIn.cons rfl (fun K hK => ?_) AllReadyIn.nil)
              · go_simp
                refine hK _ _ ?_
                clear hK K
                try simp only [Act.put, List.setIfInBounds_toArray, List.set_cons_zero, List.set_cons_succ]
                refine wpAnyIn_ready (rs := [6]) (by kernel_rfl) (by simp) (AllReadyIn.cons rfl (fun K hK => ?_) AllReadyIn.nil)
                go_simp
                refine HQ.out.mono ?_
                rintro e W3 ⟨bb, rfl, hle, hh⟩
                refine hK _ _ ?_
                clear hK K
                try simp only [Act.put, List.setIfInBounds_toArray, List.set_cons_zero, List.set_cons_succ]
                refine wpAnyIn_ready (rs := [7]) (by kernel_rfl) (by simp) (AllReadyIn.cons rfl (fun K hK => ?_) AllReadyIn.nil)
                go_simp
                refine hK _ _ ?_
                clear hK K
                try simp only [Act.put, List.setIfInBounds_toArray, List.set_cons_zero, List.set_cons_succ]
                refine wpAnyIn_done (by kernel_rfl) ?_ _
                refine NoPanic.normal ?_
                obtain ⟨hfc, hf⟩ := HF.out _ hle
                rcases hh with ⟨rfl, hj⟩ | ⟨rfl, hj⟩
                · have HL := Lib.hid hle
                  have HJ3 := Lib.hid hj
                  clear hle hj
                  gi_wp2
                  exact GT.out _ _ _ (by rw [← hds]; simp) HL.out HJ3.out
                · have HL := Lib.hid hle
                  have HJ3 := Lib.hid hj
                  clear hle hj
                  gi_wp2
                  exact GF.out _ _ HL.out HJ3.out
        · go_simp
          refine hK _ _ ?_
          clear hK K
          try simp only [Act.put, List.setIfInBounds_toArray, List.set_cons_zero, List.set_cons_succ]
          refine wpAnyIn_ready (rs := [0, 2]) (by kernel_rfl) (by simp) (AllReadyIn.cons rfl (fun K hK => ?_) (AllReadyIn.cons rfl (fun K hK => ?_) AllReadyIn.nil))
          · go_simp
            refine hK _ _ ?_
            clear hK K
            try simp only [Act.put, List.setIfInBounds_toArray, List.set_cons_zero, List.set_cons_succ]
            refine wpAnyIn_ready (rs := [2]) (by kernel_rfl) (by simp) (AllReadyIn.cons rfl (fun K hK => ?_) AllReadyIn.nil)
            · go_simp
              refine hK _ _ ?_
              clear hK K
              try simp only [Act.put, List.setIfInBounds_toArray, List.set_cons_zero, List.set_cons_succ]
              refine wpAnyIn_ready (rs := [4]) (by kernel_rfl) (by simp) (AllReadyIn.cons rfl (fun K hK => ?_) AllReadyIn.nil)
              · go_simp
                refine hK _ _ ?_
                clear hK K
                try simp only [Act.put, List.setIfInBounds_toArray, List.set_cons_zero, List.set_cons_succ]
                refine wpAnyIn_ready (rs := [6]) (by kernel_rfl) (by simp) (AllReadyIn.cons rfl (fun K hK => ?_) AllReadyIn.nil)
                go_simp
                refine HQ.out.mono ?_
                rintro e W3 ⟨bb, rfl, hle, hh⟩
                refine hK _ _ ?_
                clear hK K
                try simp only [Act.put, List.setIfInBounds_toArray, List.set_cons_zero, List.set_cons_succ]
                refine wpAnyIn_ready (rs := [7]) (by kernel_rfl) (by simp) (AllReadyIn.cons rfl (fun K hK => ?_) AllReadyIn.nil)
                go_simp
                refine hK _ _ ?_
                clear hK K
                try simp only [Act.put, List.setIfInBounds_toArray, List.set_cons_zero, List.set_cons_succ]
                refine wpAnyIn_done (by kernel_rfl) ?_ _
                refine NoPanic.normal ?_
                obtain ⟨hfc, hf⟩ := HF.out _ hle
                rcases hh with ⟨rfl, hj⟩ | ⟨rfl, hj⟩
                · have HL := Lib.hid hle
                  have HJ3 := Lib.hid hj
                  clear hle hj
                  gi_wp2
                  exact GT.out _ _ _ (by rw [← hds]; simp) HL.out HJ3.out
                · have HL := Lib.hid hle
                  have HJ3 := Lib.hid hj
                  clear hle hj
                  gi_wp2
                  exact GF.out _ _ HL.out HJ3.out
          · go_simp
            refine hK _ _ ?_
            clear hK K
            try simp only [Act.put, List.setIfInBounds_toArray, List.set_cons_zero, List.set_cons_succ]
            refine wpAnyIn_ready (rs := [0, 4]) (by kernel_rfl) (by simp) (AllReadyIn.cons rfl (fun K hK => ?_) (AllReadyIn.cons rfl (fun K hK => ?_) AllReadyIn.nil))
            · go_simp
              refine hK _ _ ?_
              clear hK K
              try simp only [Act.put, List.setIfInBounds_toArray, List.set_cons_zero, List.set_cons_succ]
              refine wpAnyIn_ready (rs := [4]) (by kernel_rfl) (by simp) (AllReadyIn.cons rfl (fun K hK => ?_) AllReadyIn.nil)
              · go_simp
                refine hK _ _ ?_
                clear hK K
                try simp only [Act.put, List.setIfInBounds_toArray, List.set_cons_zero, List.set_cons_succ]
                refine wpAnyIn_ready (rs := [6]) (by kernel_rfl) (by simp) (AllReadyIn.cons rfl (fun K hK => ?_) AllReadyIn.nil)
                go_simp
                refine HQ.out.mono ?_
                rintro e W3 ⟨bb, rfl, hle, hh⟩
                refine hK _ _ ?_
                clear hK K
                try simp only [Act.put, List.setIfInBounds_toArray, List.set_cons_zero, List.set_cons_succ]
                refine wpAnyIn_ready (rs := [7]) (by kernel_rfl) (by simp) (AllReadyIn.cons rfl (fun K hK => ?_) AllReadyIn.nil)
                go_simp
                refine hK _ _ ?_
                clear hK K
                try simp only [Act.put, List.setIfInBounds_toArray, List.set_cons_zero, List.set_cons_succ]
                refine wpAnyIn_done (by kernel_rfl) ?_ _
                refine NoPanic.normal ?_
                obtain ⟨hfc, hf⟩ := HF.out _ hle
                rcases hh with ⟨rfl, hj⟩ | ⟨rfl, hj⟩
                · have HL := Lib.hid hle
                  have HJ3 := Lib.hid hj
                  clear hle hj
                  gi_wp2
                  exact GT.out _ _ _ (by rw [← hds]; simp) HL.out HJ3.out
                · have HL := Lib.hid hle
                  have HJ3 := Lib.hid hj
                  clear hle hj
                  gi_wp2
                  exact GF.out _ _ HL.out HJ3.out
            · go_simp
              refine hK _ _ ?_
              clear hK K
              try simp only [Act.put, List.setIfInBounds_toArray, List.set_cons_zero, List.set_cons_succ]
              refine wpAnyIn_ready (rs := [0]) (by kernel_rfl) (by simp) (AllReadyIn.cons rfl (fun K hK => ?_) AllReadyIn.nil)
              · go_simp
                refine hK _ _ ?_
                clear hK K
                try simp only [Act.put, List.setIfInBounds_toArray, List.set_cons_zero, List.set_cons_succ]
                refine wpAnyIn_ready (rs := [6]) (by kernel_rfl) (by simp) (AllReadyIn.cons rfl (fun K hK => ?_) AllReadyIn.nil)
                go_simp
                refine HQ.out.mono ?_
                rintro e W3 ⟨bb, rfl, hle, hh⟩
                refine hK _ _ ?_
                clear hK K
                try simp only [Act.put, List.setIfInBounds_toArray, List.set_cons_zero, List.set_cons_succ]
                refine wpAnyIn_ready (rs := [7]) (by kernel_rfl) (by simp) (AllReadyIn.cons rfl (fun K hK => ?_) AllReadyIn.nil)
                go_simp
                refine hK _ _ ?_
                clear hK K
                try simp only [Act.put, List.setIfInBounds_toArray, List.set_cons_zero, List.set_cons_succ]
                refine wpAnyIn_done (by kernel_rfl) ?_ _
                refine NoPanic.normal ?_
                obtain ⟨hfc, hf⟩ := HF.out _ hle
                rcases hh with ⟨rfl, hj⟩ | ⟨rfl, hj⟩
                · have HL := Lib.hid hle
                  have HJ3 := Lib.hid hj
                  clear hle hj
                  gi_wp2
                  exact GT.out _ _ _ (by rw [← hds]; simp) HL.out HJ3.out
                · have HL := Lib.hid hle
                  have HJ3 := Lib.hid hj
                  clear hle hj
                  gi_wp2
                  exact GF.out _ _ HL.out HJ3.out
        · go_simp
          refine hK _ _ ?_
          clear hK K
          try simp only [Act.put, List.setIfInBounds_toArray, List.set_cons_zero, List.set_cons_succ]
          refine wpAnyIn_ready (rs := [0, 1]) (by kernel_rfl) (by simp) (AllReadyIn.cons rfl (fun K hK => ?_) (AllReadyIn.cons rfl (fun K hK => ?_) AllReadyIn.nil))
          · go_simp
            refine hK _ _ ?_
            clear hK K
            try simp only [Act.put, List.setIfInBounds_toArray, List.set_cons_zero, List.set_cons_succ]
            refine wpAnyIn_ready (rs := [1]) (by kernel_rfl) (by simp) (AllReadyIn.cons rfl (fun K hK => ?_) AllReadyIn.nil)
            · go_simp
              refine hK _ _ ?_
              clear hK K
              try simp only [Act.put, List.setIfInBounds_toArray, List.set_cons_zero, List.set_cons_succ]
              refine wpAnyIn_ready (rs := [4]) (by kernel_rfl) (by simp) (AllReadyIn.cons rfl (fun K hK => ?_) AllReadyIn.nil)
              · go_simp
                refine hK _ _ ?_
                clear hK K
                try simp only [Act.put, List.setIfInBounds_toArray, List.set_cons_zero, List.set_cons_succ]
                refine wpAnyIn_ready (rs := [6]) (by kernel_rfl) (by simp) (AllReadyIn.cons rfl (fun K hK => ?_) AllReadyIn.nil)
                go_simp
                refine HQ.out.mono ?_
                rintro e W3 ⟨bb, rfl, hle, hh⟩
                refine hK _ _ ?_
                clear hK K
                try simp only [Act.put, List.setIfInBounds_toArray, List.set_cons_zero, List.set_cons_succ]
                refine wpAnyIn_ready (rs := [7]) (by kernel_rfl) (by simp) (AllReadyIn.cons rfl (fun K hK => ?_) AllReadyIn.nil)
                go_simp
                refine hK _ _ ?_
                clear hK K
                try simp only [Act.put, List.setIfInBounds_toArray, List.set_cons_zero, List.set_cons_succ]
                refine wpAnyIn_done (by kernel_rfl) ?_ _
                refine NoPanic.normal ?_
                obtain ⟨hfc, hf⟩ := HF.out _ hle
                rcases hh with ⟨rfl, hj⟩ | ⟨rfl, hj⟩
                · have HL := Lib.hid hle
                  have HJ3 := Lib.hid hj
                  clear hle hj
                  gi_wp2
                  exact GT.out _ _ _ (by rw [← hds]; simp) HL.out HJ3.out
                · have HL := Lib.hid hle
                  have HJ3 := Lib.hid hj
                  clear hle hj
                  gi_wp2
                  exact GF.out _ _ HL.out HJ3.out
          · go_simp
            refine hK _ _ ?_
            clear hK K
            try simp only [Act.put, List.setIfInBounds_toArray, List.set_cons_zero, List.set_cons_succ]
            refine wpAnyIn_ready (rs := [0, 4]) (by kernel_rfl) (by simp) (AllReadyIn.cons rfl (fun K hK => ?_) (AllReadyIn.cons rfl (fun K hK => ?_) AllReadyIn.nil))
            · go_simp
              refine hK _ _ ?_
              clear hK K
              try simp only [Act.put, List.setIfInBounds_toArray, List.set_cons_zero, List.set_cons_succ]
              refine wpAnyIn_ready (rs := [4]) (by kernel_rfl) (by simp) (AllReadyIn.cons rfl (fun K hK => ?_) AllReadyIn.nil)
              · go_simp
                refine hK _ _ ?_
                clear hK K
                try simp only [Act.put, List.setIfInBounds_toArray, List.set_cons_zero, List.set_cons_succ]
                refine wpAnyIn_ready (rs := [6]) (by kernel_rfl) (by simp) (AllReadyIn.cons rfl (fun K hK => ?_) AllReadyIn.nil)
                go_simp
                refine HQ.out.mono ?_
                rintro e W3 ⟨bb, rfl, hle, hh⟩
                refine hK _ _ ?_
                clear hK K
                try simp only [Act.put, List.setIfInBounds_toArray, List.set_cons_zero, List.set_cons_succ]
                refine wpAnyIn_ready (rs := [7]) (by kernel_rfl) (by simp) (AllReadyIn.cons rfl (fun K hK => ?_) AllReadyIn.nil)
                go_simp
                refine hK _ _ ?_
                clear hK K
                try simp only [Act.put, List.setIfInBounds_toArray, List.set_cons_zero, List.set_cons_succ]
                refine wpAnyIn_done (by kernel_rfl) ?_ _
                refine NoPanic.normal ?_
                obtain ⟨hfc, hf⟩ := HF.out _ hle
                rcases hh with ⟨rfl, hj⟩ | ⟨rfl, hj⟩
                · have HL := Lib.hid hle
                  have HJ3 := Lib.hid hj
                  clear hle hj
                  gi_wp2
                  exact GT.out _ _ _ (by rw [← hds]; simp) HL.out HJ3.out
                · have HL := Lib.hid hle
                  have HJ3 := Lib.hid hj
                  clear hle hj
                  gi_wp2
                  exact GF.out _ _ HL.out HJ3.out
            · go_simp
              refine hK _ _ ?_
              clear hK K
              try simp only [Act.put, List.setIfInBounds_toArray, List.set_cons_zero, List.set_cons_succ]
              refine wpAnyIn_ready (rs := [0]) (by kernel_rfl) (by simp) (AllReadyIn.cons rfl (fun K hK => ?_) AllReadyIn.nil)
              · go_simp
                refine hK _ _ ?_
                clear hK K
                try simp only [Act.put, List.setIfInBounds_toArray, List.set_cons_zero, List.set_cons_succ]
                refine wpAnyIn_ready (rs := [6]) (by kernel_rfl) (by simp) (AllReadyIn.cons rfl (fun K hK => ?_) AllReadyIn.nil)
                go_simp
                refine HQ.out.mono ?_
                rintro e W3 ⟨bb, rfl, hle, hh⟩
                refine hK _ _ ?_
                clear hK K
                try simp only [Act.put, List.setIfInBounds_toArray, List.set_cons_zero, List.set_cons_succ]
                refine wpAnyIn_ready (rs := [7]) (by kernel_rfl) (by simp) (AllReadyIn.cons rfl (fun K hK => ?_) AllReadyIn.nil)
                go_simp
                refine hK _ _ ?_
                clear hK K
                try simp only [Act.put, List.setIfInBounds_toArray, List.set_cons_zero, List.set_cons_succ]
                refine wpAnyIn_done (by kernel_rfl) ?_ _
                refine NoPanic.normal ?_
                obtain ⟨hfc, hf⟩ := HF.out _ hle
                rcases hh with ⟨rfl, hj⟩ | ⟨rfl, hj⟩
                · have HL := Lib.hid hle
                  have HJ3 := Lib.hid hj
                  clear hle hj
                  gi_wp2
                  exact GT.out _ _ _ (by rw [← hds]; simp) HL.out HJ3.out
                · have HL := Lib.hid hle
                  have HJ3 := Lib.hid hj
                  clear hle hj
                  gi_wp2
                  exact GF.out _ _ HL.out HJ3.out
  case done =>
    rintro D ys V hD rfl ⟨fr, o, opre, rest, hM, hN, hj, hl, hp, hfr, hzz⟩ hK
    obtain rfl : rest = [] := by
      have := congrArg List.length hl
      simp at this
      exact this
    rw [piecesW] at hp
    have q0 := (cell_of1 hM.c0).1
    have q1 := (cell_of1 hM.c1).1
    have hb := hR _ _ hj
    have hj7 := hJ.below hj (Below.refl _ V).drew
    have hnD : own V.drew ≠ some D := hJ.not hj7.1 (show V.drew.heap[D]? = _ from hK) rfl
    have hDm : m ≤ D := by omega
    have gf0 : (0 : Int) ≤ (fr : Int) := by omega
    have gfs : (fr : Int) ≤ (s.size : Int) := by omega
    obtain ⟨fn, tmps, assign, body, hy, hQ⟩ := hY opre (s.data.toList.drop fr, []) V.drew hj7.1 (by rw [hp]; exact List.prefix_refl _)
    have e1 : (⟨(s.data.toList.drop fr).toArray⟩ : ByteArray) = s.extract fr s.size := by
      rw [ext_cut, List.take_of_length_le (by simp)]
    have e2 : (⟨([] : List UInt8).toArray⟩ : ByteArray) = ⟨#[]⟩ := rfl
    simp only [encQ, e1, e2] at hy
    have HR := Lib.hid (hQ.mono (R' := fun e W' => ∃ bb : Bool, e = .returned (.bool bb) ∧ W'.heap[D]? = some (.deferred (some [])) ∧ ((bb = true ∧ J (piecesT s.data.toList) W') ∨ (bb = false ∧ Jx (piecesT s.data.toList) W'))) (by
      rintro e W3 (⟨rfl, h, k⟩ | ⟨rfl, h, k⟩)
      · exact ⟨true, rfl, k.same D _ hDm hnD (hsafe _ rfl) hK, .inl ⟨rfl, by rw [hp]; exact h⟩⟩
      · exact ⟨false, rfl, k.same D _ hDm hnD (hsafe _ rfl) hK, .inr ⟨rfl, by rw [hp]; exact h⟩⟩))
    have hpne : piecesT s.data.toList ≠ [] := by rw [hp]; simp
    clear hQ hM hN hj hj7 hl hzz hp
    gi_wp2
    refine Code.wpIn_mono NoPanic.imp ?_
    gi_region_with (refine HR.out.mono ?_; rintro e W3 ⟨bb, rfl, hK3, hh⟩)
    all_goals
      refine NoPanic.normal ?_
      refine ⟨by simp, .inl ⟨_, _, rfl, run_takeDeferred hK3, ?_⟩⟩
    all_goals
      refine ⟨_, results_none rfl _ _ _, ⟨_, rfl⟩, ?_⟩
      rcases hh with ⟨_, h⟩ | ⟨_, h⟩
      · exact .inl ⟨_, rfl, (hJ.turned h hDm hK3 rfl _).1⟩
      · exact .inr ⟨_, ⟨hpne, List.prefix_refl _⟩, (hJx.turned h hDm hK3 rfl _).1⟩
end Go.Proofs.YtedabholcldgbaaGreatDoor.Y

/- layout.Comments. -/
namespace Go.Proofs.YtedabholcldgbaaGreatDoor.Y
open Go.RowKit Go.Shelf Go.Deep
attribute [local go_sem] Oper.semAt_some

/-- append, fenced; where the row lies behind it. -/
theorem wpListIn_lies {F : Fence} {n : Nat} {P : Program} (w : World) {ops : Array Oper} {rest : List Oper} {o : Oper} {a : Act} {Q : Exit → Act → World → Prop}
    (hg : o.guard = none) (s x : Operand) (t : TypeId) (hop : o.op = .call { callee := .builtin .append, args := #[s, x], argTypes := #[t, t] })
    (base : Nat) (e : TypeId) (i : TypeInfo) (z : Value) (size bytes : Nat) (h1 : P.underlying t = some (.slice e)) (h2 : P.info? e = some i) (h3 : i.zero = some z) (h4 : i.size = size) (h5 : i.bytes = bytes) (h6 : z.cells.size = size) (h7 : 0 < size)
    (v : Value) (k : Nat) (xs : List Value) (hs : a.eval s = v) (hown : w.ownsRow base e size v k xs) (ad : Addr) (m c : Nat) (news : List Value) (hx : a.eval x = .slice (some ad) m c) (hn : news.length = m * size)
    (hc : ∀ j u, news[j]? = some u → w.cell? (ad.add j) = some u) (h1c : ∀ u ∈ news, u.oneCell' = true) (hm : 0 < m) (b1 : k + m ≤ maxLen) (b2 : (k + m) * bytes ≤ 140737488355328) (b3 : base ≤ w.heap.size)
    (hK : ∀ g cap w', w'.ownsRow base e size (.slice (some ⟨g, 0, none⟩) (k + m) cap) (k + m) (xs ++ news) → w.grownBy w' v.ownBlock → (v.ownBlock = some g ∨ g = w.heap.size) → wpListIn F n P ops Q rest (a.put o.dst (.slice (some ⟨g, 0, none⟩) (k + m) cap)) w') :
    wpListIn F n P ops Q (o :: rest) a w := by
  refine wpListIn_plain hg fun K hK' => ?_
  obtain ⟨g, cap, w', hrun, r1, r2, r3, _⟩ := run_append_lies (P := P) w t o.type base e i z size bytes h1 h2 h3 h4 h5 h6 h7 v k xs hown ad m c news hn hc h1c hm b1 b2 b3 _ rfl
  unfold Oper.wpIn
  refine ⟨?_, ?_⟩
  · simp [Oper.about, hop, resolve, Target.leads, Sem.run_pure]
  · rw [Oper.semAt_plain F _ _ (by rw [hop]; intro c hc'; cases hc')]
    simp [execOp, hop, resolve, invoke, builtin, hs, hx, hrun, Result.andThen]
    exact hK' _ _ (hK g cap w' r1 r2 r3)

/-- The comments among the pieces. -/
def comS (ys : List (List UInt8 × List UInt8)) : List (List UInt8) := (ys.map (·.2)).filter fun c => !c.isEmpty
def strV (l : List (List UInt8)) : List Value := l.map fun c => .string ⟨c.toArray⟩
theorem comS_no {ys : List (List UInt8 × List UInt8)} {x : List UInt8} : comS (ys ++ [(x, [])]) = comS ys := by simp [comS]
theorem comS_yes {ys : List (List UInt8 × List UInt8)} {x c : List UInt8} (h : c ≠ []) : comS (ys ++ [(x, c)]) = comS ys ++ [c] := by
  unfold comS
  rw [List.map_append, List.filter_append]
  cases c with
  | nil => exact absurd rfl h
  | cons a r => simp
theorem comS_len (ys : List (List UInt8 × List UInt8)) : (comS ys).length ≤ ys.length := by
  unfold comS
  exact Nat.le_trans (List.length_filter_le _ _) (by simp)
theorem pieces_len (s : List UInt8) : ∀ (ls : List (Nat × List UInt8)) (fr : Nat) (o : Int), (piecesW s ls fr o).length ≤ ls.length + 1
  | [], fr, o => by simp [piecesW]
  | x :: r, fr, o => by
    rw [piecesW]
    split
    · have := pieces_len s r fr (obF x.2 false o)
      simp only [List.length_cons]; omega
    · have := pieces_len s r (x.1 + x.2.length) o
      simp only [List.length_cons]; omega
theorem lines_len (m : Nat) : ∀ (l : List UInt8), l.length ≤ m → ∀ k, (linesL k l).length ≤ l.length + 1 := by
  induction m with
  | zero =>
    intro l hl k
    have e : l = [] := List.length_eq_zero_iff.1 (by omega)
    subst e
    rw [linesL_last (by decide)]
    simp
  | succ m ih =>
    intro l hl k
    by_cases h : Lib.indexByte l 10 < 0
    · rw [linesL_last h]; simp
    · obtain ⟨h1, h2, h3⟩ := index_lt h
      rw [linesL_more h]
      have := ih (l.drop (nlI l + 1)) (by simp; omega) (k + nlI l + 1)
      simp only [List.length_drop] at this
      simp only [List.length_cons]; omega
theorem pieces_few (s : List UInt8) : (piecesT s).length ≤ s.length + 2 := by
  have h1 := pieces_len s (linesL 0 s) 0 0
  have h2 := lines_len s.length s (Nat.le_refl _) 0
  unfold piecesT
  omega

/-- The kept comments in memory: the variable in block K. -/
structure KS (w0 : World) (K : Nat) (d : ByteArray) (v : Value) (l : List (List UInt8)) (A : World) : Prop where
  ck : A.heap[K]? = some (.cells #[v] 38 (0, 0))
  cs : A.heap[K + 1]? = some (.cells #[.string d] 9 (0, 0))
  row : A.ownsRow w0.heap.size 9 1 v l.length (strV l)
  below : Below w0.heap.size w0 A
  hK : w0.heap.size ≤ K
  ne : ∀ r, v.ownBlock = some r → r ≠ K ∧ r ≠ K + 1
def ownK (K : Nat) (A : World) : Option Nat := (A.cell? ⟨K, 0, none⟩).bind Value.ownBlock
theorem KS.own {w0 A : World} {K : Nat} {d : ByteArray} {v : Value} {l : List (List UInt8)} (h : KS w0 K d v l A) : ownK K A = v.ownBlock := by
  unfold ownK; rw [(cell_of1 h.ck).1]; rfl
theorem row_cells {w : World} {base : Nat} {e : TypeId} {size : Nat} {v : Value} {n : Nat} {xs : List Value} (h : w.ownsRow base e size v n xs) (r : Nat) (hr : v.ownBlock = some r) : ∃ c t fz, w.heap[r]? = some (.cells c t fz) := by
  rcases h.2 with ⟨rfl, _⟩ | ⟨g, cap, cur, rfl, hb, hg, _⟩
  · cases hr
  · cases hr; exact ⟨_, _, _, hg⟩
theorem ks_stands {β : Type} {w0 : World} {K B : Nat} {d : ByteArray} (hB : K + 2 ≤ B) (Q : β → List (List UInt8)) : Stands (ownK K) B (fun s A => ∃ v, KS w0 K d v (Q s) A) := by
  constructor
  · rintro s A A' ⟨v, h⟩ ⟨row, hg, hr⟩
    have hn : ∀ r, row = some r → B ≤ r ∧ v.ownBlock ≠ some r := fun r e => ⟨(hr r e).1, by rw [← h.own]; exact (hr r e).2⟩
    have h' : KS w0 K d v (Q s) A' := ⟨(hg.block _ (lt_of_getElem? h.ck) fun e => by have := (hn _ e.symm).1; omega).trans h.ck, (hg.block _ (lt_of_getElem? h.cs) fun e => by have := (hn _ e.symm).1; omega).trans h.cs,
      own_same h.row fun k hk => hg.block k (h.row.lt k hk).2 fun e => (hn k e.symm).2 hk, h.below.grown hg h.below.size fun b hb => by have := (hn b hb).1; have := h.hK; omega, h.hK, h.ne⟩
    exact ⟨⟨v, h'⟩, h'.own.trans h.own.symm⟩
  · rintro s A r ⟨v, h⟩ e
    rw [h.own] at e
    exact row_cells h.row r e
theorem KS.next {w0 A A' : World} {K : Nat} {d : ByteArray} {v : Value} {l : List (List UInt8)} (h : KS w0 K d v l A) (hb : Below A.heap.size A A') : KS w0 K d v l A' :=
  ⟨(hb.block _ (lt_of_getElem? h.ck)).trans h.ck, (hb.block _ (lt_of_getElem? h.cs)).trans h.cs, own_same h.row fun k hk => hb.block k (h.row.lt k hk).2, upB h.below hb (Nat.le_refl _), h.hK, h.ne⟩
/-- A comment is put behind. -/
theorem KS.push {w0 V A W : World} {K B g cap k : Nat} {d u : ByteArray} {v : Value} {l : List (List UInt8)} {c : List UInt8} (h : KS w0 K d v l V) (hu : u = ⟨c.toArray⟩) (hb : Below V.heap.size V A) (hz : V.heap.size ≤ A.heap.size) (hk : l.length + 1 = k)
    (hrow : W.ownsRow w0.heap.size 9 1 (.slice (some ⟨g, 0, none⟩) k cap) k (strV l ++ [.string u])) (hg : A.grownBy W v.ownBlock) (hor : v.ownBlock = some g ∨ g = A.heap.size) (hB : K + 2 ≤ B) :
    KS w0 K d (.slice (some ⟨g, 0, none⟩) k cap) (l ++ [c]) (W.setCell ⟨K, 0, none⟩ (.slice (some ⟨g, 0, none⟩) k cap)) ∧ Leaves (fun _ => True) (ownK K) B V (W.setCell ⟨K, 0, none⟩ (.slice (some ⟨g, 0, none⟩) k cap)) ∧ (W.cell? ⟨K, 0, none⟩ = some v ∧ W.frozen? ⟨K, 0, none⟩ = false) := by
  subst hk hu
  have hA := h.next hb
  have hlt := lt_of_getElem? h.cs
  have hck : W.heap[K]? = some (.cells #[v] 38 (0, 0)) := (hg.block K (lt_of_getElem? hA.ck) fun e => (hA.ne K e.symm).1 rfl).trans hA.ck
  have hcs : W.heap[K + 1]? = some (.cells #[.string d] 9 (0, 0)) := (hg.block _ (lt_of_getElem? hA.cs) fun e => (hA.ne _ e.symm).2 rfl).trans hA.cs
  have hgK : g ≠ K ∧ g ≠ K + 1 := by
    rcases hor with e | e
    · exact h.ne g e
    · rw [e]; omega
  have hKS : KS w0 K d (.slice (some ⟨g, 0, none⟩) (l.length + 1) cap) (l ++ [c]) (W.setCell ⟨K, 0, none⟩ (.slice (some ⟨g, 0, none⟩) (l.length + 1) cap)) := by
    refine ⟨by simpa using heap_setCell_same W K 0 _ _ (.slice (some ⟨g, 0, none⟩) (l.length + 1) cap) hck, ?_, ?_, ?_, h.hK, fun r hr => by cases hr; exact hgK⟩
    · rw [Below.heap_setCell _ _ _ _ (by show K + 1 ≠ K; omega)]; exact hcs
    · have := ownsRow_setCell_other hrow (a := ⟨K, 0, none⟩) (by show (Value.slice (some ⟨g, 0, none⟩) (l.length + 1) cap).ownBlock ≠ some K; intro e; cases e; exact hgK.1 rfl) (.slice (some ⟨g, 0, none⟩) (l.length + 1) cap)
      simpa [strV] using this
    · exact (hA.below.grown hg hA.below.size fun b hb => (hA.row.lt b hb).1).setCell (p := ⟨K, 0, none⟩) h.hK _
  refine ⟨hKS, ⟨Nat.le_trans hz (by simpa using hg.size), fun r o hr hn _ ho => ?_, ?_⟩, cell_of1 hck⟩
  · rw [Below.heap_setCell _ _ _ _ (by show r ≠ K; omega)]
    have hr2 := hb.block r (lt_of_getElem? ho)
    exact (hg.block r (by have := lt_of_getElem? ho; omega) fun e => hn (by rw [h.own]; exact e.symm)).trans (hr2.trans ho)
  · rw [hKS.own, h.own]
    rcases hor with e | e
    · exact .inl (by rw [e]; rfl)
    · exact .inr (.inl fun r hr => by cases hr; rw [e]; exact hz)
theorem infoStr : (Tryz.prog.info? 9).map (fun i => (i.zero, i.size, i.bytes)) = some (some (.string ⟨#[]⟩), 1, 16) := by kernel_rfl
theorem readR_size {d : ByteArray} {fs : List Fm} (h : readR d = .ok fs) : d.size ≤ 60000 := by
  unfold readR at h
  split at h
  · cases h
  · omega
theorem strV_one (l : List (List UInt8)) : ∀ u ∈ strV l, u.oneCell' = true := by
  intro u hu
  obtain ⟨c, _, rfl⟩ := List.mem_map.1 hu
  rfl
set_option linter.unusedSimpArgs false in
set_option maxRecDepth 100000 in
set_option maxHeartbeats 4000000 in
theorem comments_in (n : Nat) (hn : 10 ≤ n) (d : ByteArray) (fs : List Fm) (hr : readR d = .ok fs) (w : World) (hg : Glob w) (h6 : 8 ≤ w.heap.size) :
    CallsIn Fence.wide n Tryz.prog 23 #[.string d] w fun e w' => ∃ v, e = .returned (.tuple #[v, .int .i64 0]) ∧ w'.ownsRow w.heap.size 9 1 v (comS (piecesT d.data.toList)).length (strV (comS (piecesT d.data.toList))) ∧ Below w.heap.size w w' := by
  have h1 : 1 ≤ n := by omega
  have hd := readR_size hr
  have HR := Lib.hid ((read_any d w (by unfold maxLen; omega) hg h6).mono fun e w' hh => (by rw [hr] at hh; exact hh : ∃ v, e = .returned (.tuple #[v, .int .i64 0]) ∧ Forms w.heap.size w' v fs ∧ Below w.heap.size w w'))
  have hpf := pieces_few d.data.toList
  rw [show d.data.toList.length = d.size by simp] at hpf
  obtain ⟨PT, hPT⟩ : ∃ PT, piecesT d.data.toList = PT := ⟨_, rfl⟩
  have HPS := pieces_seq (n - 1) (by omega)
  rw [hPT] at hpf ⊢
  refine callsIn_of_wp_marks Tryz.func23 rfl trivial ?_ rfl
  simp only [Tryz.ntmps23, List.size_toArray, List.length_cons, List.length_nil, Nat.reduceAdd, Nat.reduceSub, Array.replicate_succ, Array.replicate_zero, List.push_toArray, List.append_toArray, List.nil_append, List.cons_append]
  gi_wp2_with (first
    | (refine ⟨trivial, ?_⟩; gi_at_call 48; (refine (callsIn_wide.2 HR.out).mono ?_); rintro e w2 ⟨v, rfl, _, hB⟩; have HB := Lib.hid hB; clear hB)
    | (refine ⟨trivial, ?_⟩; gi_at_call 49; refine (pieces_in d _ _).mono ?_; rintro e w' ⟨rfl, rfl⟩))
  have hS0 : w.heap.size ≤ w2.heap.size := HB.out.size
  obtain ⟨K, hK⟩ : ∃ K, w2.heap.size = K := ⟨_, rfl⟩
  rw [hK] at hS0 ⊢
  obtain ⟨A1, hA1⟩ : ∃ A1, w2.alloc (.cells #[.slice none 0 0] 38) = A1 := ⟨_, rfl⟩
  have z1 : A1.heap.size = K + 1 := by rw [← hA1, ← hK]; simp
  have q1 : A1.heap[K]? = some (.cells #[.slice none 0 0] 38 (0, 0)) := by rw [← hA1, ← hK]; exact heap_alloc_new w2 _
  have b1 : Below w.heap.size w A1 := by rw [← hA1]; exact up HB.out (bel1 _ _)
  rw [hA1]
  obtain ⟨A2, hA2⟩ : ∃ A2, A1.alloc (.cells #[.string d] 9) = A2 := ⟨_, rfl⟩
  have z2 : A2.heap.size = K + 2 := by rw [← hA2]; simp [z1]
  have q2 : A2.heap[K + 1]? = some (.cells #[.string d] 9 (0, 0)) := by rw [← hA2, ← z1]; exact heap_alloc_new A1 _
  have q3 : A2.heap[K]? = some (.cells #[.slice none 0 0] 38 (0, 0)) := by rw [← hA2]; exact (Below.heap_alloc _ _ _ (by omega)).trans q1
  have b2 : Below w.heap.size w A2 := by rw [← hA2]; exact up b1 (bel1 _ _)
  rw [hA2]
  refine range_own (α := List UInt8 × List UInt8) rfl h1 (gf := 78) (lb := #[.pointer (some ⟨K + 1, 0, none⟩)]) rfl trivial (enters_of Tryz.func78 (by kernel_rfl) rfl)
    (encs := encQ) (safe := fun _ => True) (fun _ _ => trivial) (own := ownK K) (HPS (K + 1) d (by omega) (fun _ => True) (fun _ _ => trivial) (fun _ => trivial) (fun _ => trivial) (fun _ => trivial) (ownK K)) (fun _ => rfl)
    (fun s A => ∃ v, KS w K d v (comS s) A) (fun _ _ _ => False) (ks_stands (by omega) comS) (fun c => ⟨fun _ _ _ h => h.elim, fun _ _ _ h => h.elim⟩) (fun s A ⟨v, h⟩ => (cell_of1 h.cs).1)
    ⟨.slice none 0 0, q3, q2, by simpa [comS, strV] using World.ownsRow_nil _ _ _ _, b2, hS0, fun r hr => by cases hr⟩ ?a1 ?assign ?body ?done ?stop
  case assign =>
    intro l' x V K hK
    gi_wp2
    exact hK
  case stop =>
    rintro D c pre V hD _ h _
    exact h.elim
  case body =>
    rintro l' pre ⟨src, cmt⟩ V ⟨v, h⟩ hpre
    rw [hPT] at hpre
    have hlen := hpre.length_le
    simp only [List.length_append, List.length_cons, List.length_nil] at hlen
    have hcl := comS_len pre
    have h3 : 1 ≤ n - 1 - 1 := by omega
    have hz : V.heap.size = V.heap.size := rfl
    have hbz := h.below.size
    by_cases hc : cmt = []
    · subst hc
      have H := Lib.hid h
      have e0 : (⟨([] : List UInt8).toArray⟩ : ByteArray) = ⟨#[]⟩ := rfl
      simp only [encQ, e0]
      clear h
      gi_wp2
      exact ⟨⟨Nat.le_refl _, fun _ _ _ _ _ h => h, .inl rfl⟩, v, by rw [comS_no]; exact H.out⟩
    · obtain ⟨u, hu⟩ : ∃ u : ByteArray, (⟨cmt.toArray⟩ : ByteArray) = u := ⟨_, rfl⟩
      have hemp : u.toList.isEmpty = false := by
        rw [← hu, ByteArray.toList_eq]
        cases cmt with
        | nil => exact absurd rfl hc
        | cons a r => rfl
      obtain ⟨e1, e2⟩ := cell_of1 h.ck
      obtain ⟨i0, hi0, hz0, hz1, hz2⟩ := info_parts infoStr
      have H := Lib.hid h
      simp only [encQ, hu]
      clear h
      gi_wp2_with (gi_at_builtin; (refine wpListIn_lies _ rfl _ _ 38 rfl w.heap.size 9 i0 (.string ⟨#[]⟩) 1 16 Tryz.underlying38 hi0 hz0 hz1 hz2 rfl (by decide) v _ _ rfl ((H.out.next (bel1 _ _)).row) ⟨V.heap.size, 0, none⟩ 1 1 [.string u] rfl rfl (World.news_of_block (cs := #[.string u]) (t := 9) (fr := (0, 0)) (heap_alloc_new V _)) (by simp [Value.oneCell']) (by decide) (by unfold maxLen; omega) (by omega) (by simp; omega) ?_); intro g cap w5 hrow hgr hor; obtain ⟨hk5, hl5, f1, f2⟩ := H.out.push hu.symm (bel1 _ _) (by simp) rfl hrow hgr hor (B := K + 2) (by omega); have HK5 := Lib.hid hk5; have HL5 := Lib.hid hl5; clear hrow hgr hor hk5 hl5)
      exact ⟨HL5.out, _, by rw [comS_yes hc]; exact HK5.out⟩
  case done =>
    rintro D ys V hD hys ⟨v, h⟩ hKD
    obtain rfl : ys = PT := hys.trans hPT
    obtain ⟨e1, e2⟩ := cell_of1 h.ck
    have H := Lib.hid h
    have hDv : v.ownBlock ≠ some D := fun e => by
      obtain ⟨c, t, fz, hc⟩ := row_cells h.row D e
      rw [hKD] at hc
      cases hc
    clear h
    gi_wp2
    refine ⟨by simp, .inl ⟨_, _, rfl, run_takeDeferred hKD, ?_⟩⟩
    refine ⟨.tuple #[v, .int .i64 0], by simp [results, Tryz.results23, go_sem], v, rfl, own_same H.out.row fun k hk => World.putObj_heap_other (fun e => hDv (by rw [hk, e])), ?_⟩
    exact H.out.below.grown (grownBy_putObj' V D _) H.out.below.size (fun k e => by cases e; omega)
theorem comments_err (d : ByteArray) (c : Int) (hd : d.size ≤ maxLen) (hr : readR d = .err c) (w : World) (hg : Glob w) (h6 : 8 ≤ w.heap.size) (n : Nat) (hn : 1 ≤ n) :
    CallsIn Fence.wide n Tryz.prog 23 #[.string d] w fun e w' => e = .returned (.tuple #[.slice none 0 0, .int .i64 c]) ∧ Below w.heap.size w w' := by
  have HR := Lib.hid ((read_any d w hd hg h6).mono fun e w' hh => (by rw [hr] at hh; exact hh : e = .returned (.tuple #[.slice none 0 0, .int .i64 c]) ∧ Below w.heap.size w w'))
  have hc : (c != 0) = true := by have := readR_err hr; simpa using this
  refine callsIn_of_wp_marks Tryz.func23 rfl trivial ?_ rfl
  simp only [Tryz.ntmps23, List.size_toArray, List.length_cons, List.length_nil, Nat.reduceAdd, Nat.reduceSub, Array.replicate_succ, Array.replicate_zero, List.push_toArray, List.append_toArray, List.nil_append, List.cons_append]
  gi_wp2_with (refine ⟨trivial, ?_⟩; gi_at_call 48; (refine (callsIn_wide.2 HR.out).mono ?_); rintro e w2 ⟨rfl, hB⟩; have HB := Lib.hid hB; clear hB)
  refine ⟨.tuple #[.slice none 0 0, .int .i64 c], by simp [results, Tryz.results23, go_sem], rfl, HB.out⟩
end Go.Proofs.YtedabholcldgbaaGreatDoor.Y

/- The comments that the program keeps, along the reader's steps. Plain. -/
namespace Go.Proofs.YtedabholcldgbaaGreatDoor.Y
open Go.RowKit Go.Deep

/-- The comments among the lines: o lists are open ahead of them. -/
def comW : List (Nat × List UInt8) → Int → List (List UInt8)
  | [], _ => []
  | x :: r, o => if 0 < o ∨ Lib.hasPrefix (Lib.trimS x.2 [32, 9]) [59] = false then comW r (obF x.2 false o) else Lib.trimS x.2 [32, 9] :: comW r o
theorem com_pieces (s : List UInt8) : ∀ (ls : List (Nat × List UInt8)) (fr : Nat) (o : Int), comS (piecesW s ls fr o) = comW ls o
  | [], fr, o => by simp [piecesW, comS, comW]
  | x :: r, fr, o => by
    rw [piecesW, comW]
    by_cases h : 0 < o ∨ Lib.hasPrefix (Lib.trimS x.2 [32, 9]) [59] = false
    · rw [if_pos h, if_pos h]
      exact com_pieces s r fr _
    · rw [if_neg h, if_neg h]
      have ih := com_pieces s r (x.1 + x.2.length) o
      have hne : Lib.trimS x.2 [32, 9] ≠ [] := by
        intro e
        rw [e] at h
        exact h (.inr (by decide))
      unfold comS at ih ⊢
      rw [List.map_cons, List.filter_cons, if_pos (by cases hh : Lib.trimS x.2 [32, 9] with | nil => exact absurd hh hne | cons a b => rfl), ih]
theorem com_shift (m : Nat) : ∀ (l : List UInt8), l.length ≤ m → ∀ (k j : Nat) (o : Int), comW (linesL k l) o = comW (linesL j l) o := by
  induction m with
  | zero =>
    intro l hl k j o
    have e : l = [] := List.length_eq_zero_iff.1 (by omega)
    subst e
    rw [linesL_last (by decide), linesL_last (by decide)]
    simp [comW]
  | succ m ih =>
    intro l hl k j o
    by_cases h : Lib.indexByte l 10 < 0
    · rw [linesL_last h, linesL_last h]; simp [comW]
    · obtain ⟨h1, h2, h3⟩ := index_lt h
      rw [linesL_more h, linesL_more h, comW, comW]
      have := ih (l.drop (nlI l + 1)) (by simp; omega) (k + nlI l + 1) (j + nlI l + 1)
      rw [this, this]
/-- The comments of a text whose first line begins with o lists open. -/
def cT (l : List UInt8) (o : Int) : List (List UInt8) := comW (linesL 0 l) o
/-- Those of the lines behind the first one. -/
def rC (l : List UInt8) (o : Int) : List (List UInt8) := if endF l < l.length then cT (l.drop (endF l + 1)) o else []
/-- What is still to come, in the midst of a line. -/
def fut (l : List UInt8) (o : Int) : List (List UInt8) := rC l (obF (l.take (endF l)) false o)
theorem endF_index : ∀ l : List UInt8, (Lib.indexByte l 10 < 0 ∧ endF l = l.length) ∨ (¬ Lib.indexByte l 10 < 0 ∧ nlI l = endF l ∧ endF l < l.length)
  | [] => .inl ⟨by decide, rfl⟩
  | b :: r => by
    have ih := endF_index r
    have hge := Lib.indexByte_ge r 10
    unfold nlI at ih ⊢
    rw [endF, Lib.indexByte]
    by_cases hb : b.toNat = 10
    · have e : (b == 10) = true := by simp; exact UInt8.toNat_inj.1 (by rw [hb]; rfl)
      rw [if_pos hb, if_pos e]
      exact .inr ⟨by omega, by simp, by simp⟩
    · have e : (b == 10) = false := by simp; intro e; rw [e] at hb; exact hb rfl
      rw [if_neg hb, e]
      simp only [Bool.false_eq_true, if_false, List.length_cons]
      rcases ih with ⟨h1, h2⟩ | ⟨h1, h2, h3⟩
      · have h3 : Lib.indexByte r 10 = -1 := by omega
        rw [h3]
        exact .inl ⟨by decide, by omega⟩
      · rw [if_neg (by simp; omega)]
        exact .inr ⟨by omega, by omega, by omega⟩
theorem cT_view (l : List UInt8) (o : Int) : cT l o = if 0 < o ∨ Lib.hasPrefix (Lib.trimS (l.take (endF l)) [32, 9]) [59] = false then fut l o else Lib.trimS (l.take (endF l)) [32, 9] :: rC l o := by
  unfold cT fut rC
  rcases endF_index l with ⟨h1, h2⟩ | ⟨h1, h2, h3⟩
  · have e1 : ¬ endF l < l.length := by omega
    rw [linesL_last h1, comW, if_neg e1, if_neg e1, h2, List.take_length]
    simp [comW]
  · rw [linesL_more h1, comW, if_pos h3, if_pos h3, h2]
    unfold cT
    rw [com_shift _ _ (Nat.le_refl _) (0 + endF l + 1) 0, com_shift _ _ (Nat.le_refl _) (0 + endF l + 1) 0]
/-- Bytes without a line feed ahead. -/
theorem end_app : ∀ (x y : List UInt8), (∀ c ∈ x, c ≠ 10) → endF (x ++ y) = x.length + endF y
  | [], y, _ => by simp
  | b :: x, y, h => by
    have hb : b.toNat ≠ 10 := fun e => h b (by simp) (UInt8.toNat_inj.1 (by rw [e]; rfl))
    rw [List.cons_append, endF, if_neg hb, end_app x y fun c hc => h c (by simp [hc]), List.length_cons]
    omega
theorem rC_app {x y : List UInt8} (h : ∀ c ∈ x, c ≠ 10) (o : Int) : rC (x ++ y) o = rC y o := by
  unfold rC
  rw [end_app x y h, List.length_append]
  by_cases hl : endF y < y.length
  · rw [if_pos (by omega), if_pos hl, show x.length + endF y + 1 = x.length + (endF y + 1) by omega, ← List.drop_drop, List.drop_left]
  · rw [if_neg (by omega), if_neg hl]
theorem fut_app {x y : List UInt8} (h : ∀ c ∈ x, c ≠ 10) {o o' : Int} (ho : ∀ z, obF (x ++ z) false o = obF z false o') : fut (x ++ y) o = fut y o' := by
  unfold fut
  rw [rC_app h, end_app x y h, List.take_append, List.take_of_length_le (by omega), show x.length + endF y - x.length = endF y by omega, ho]
theorem fut_nl (b : UInt8) (r : List UInt8) (hb : b.toNat = 10) (o : Int) : fut (b :: r) o = cT r o := by
  unfold fut rC
  rw [endF, if_pos hb, List.take_zero, obF, if_pos (by simp)]
  simp
theorem fut_open {l : List UInt8} {o : Int} (h : 0 < o) : cT l o = fut l o := by rw [cT_view, if_pos (.inl h)]
theorem end_drop : ∀ l : List UInt8, endF (l.drop (endF l)) = 0
  | [] => by simp [endF]
  | b :: r => by
    by_cases hb : b.toNat = 10
    · have e : endF (b :: r) = 0 := by rw [endF, if_pos hb]
      rw [e, List.drop_zero, e]
    · have e : endF (b :: r) = endF r + 1 := by rw [endF, if_neg hb]
      rw [e, List.drop_succ_cons]
      exact end_drop r
theorem fut_comment {b : UInt8} {r : List UInt8} (hb : b.toNat = 59) (o : Int) : fut (b :: r) o = rC (b :: r) o ∧ fut ((b :: r).drop (endF (b :: r))) o = rC (b :: r) o := by
  have he : endF (b :: r) = endF r + 1 := by rw [endF, if_neg (by omega)]
  constructor
  · unfold fut
    have : obF ((b :: r).take (endF (b :: r))) false o = o := by
      rw [he, List.take_succ_cons, obF, if_neg (by omega), if_neg (by simp), if_neg (by simp), if_pos hb]
    rw [this]
  · have h0 := end_drop (b :: r)
    unfold fut
    rw [h0, List.take_zero, obF]
    unfold rC
    rw [h0, List.length_drop, List.drop_drop]
    by_cases hlt : endF (b :: r) < (b :: r).length
    · rw [if_pos (by omega), if_pos hlt]
    · rw [if_neg (by omega), if_neg hlt]
end Go.Proofs.YtedabholcldgbaaGreatDoor.Y

/- Past a form, the comments to come are the same. Plain. -/
namespace Go.Proofs.YtedabholcldgbaaGreatDoor.Y
open Go.RowKit Go.Deep

theorem fut_step {s : ByteArray} {pos : Nat} {O : List (List Fm)} {top : List Fm} {t : Bool} {q : Nat} {O' : List (List Fm)} {top' : List Fm} {t' : Bool} (hp : pos < s.size) (h : stepS s pos s[pos].toNat O top t = .ok q O' top' t')
    (hq : q = pos + stC s[pos] (s.data.toList.drop (pos + 1))) (h10 : s[pos].toNat = 10 → 0 < O.length) : fut (s.data.toList.drop pos) O.length = fut (s.data.toList.drop q) (stD s[pos] O.length) := by
  by_cases h59 : s[pos].toNat = 59
  · have hd : stD s[pos] O.length = O.length := by unfold stD; rw [if_neg (by omega), if_neg (by omega)]
    have hc := fut_comment (r := s.data.toList.drop (pos + 1)) h59 (O.length : Int)
    have hC : stC s[pos] (s.data.toList.drop (pos + 1)) = endF (s.data.toList.drop pos) := by
      rw [drop_byte' s pos hp, endF, if_neg (by omega)]
      unfold stC
      rw [if_neg (by omega), if_pos h59]
    rw [← drop_byte' s pos hp, List.drop_drop] at hc
    rw [hd, hq, hC, hc.1]
    first
      | exact hc.2.symm
      | (rw [Nat.add_comm]; exact hc.2.symm)
  · by_cases hn : s[pos].toNat = 10
    · have hd : stD s[pos] O.length = O.length := by unfold stD; rw [if_neg (by omega), if_neg (by omega)]
      have hC : stC s[pos] (s.data.toList.drop (pos + 1)) = 1 := by
        unfold stC
        rw [if_neg (by omega), if_neg h59, if_pos (.inr (.inr (by rw [hn]; decide)))]
      rw [hd, hq, hC, drop_byte' s pos hp, fut_nl _ _ hn, fut_open (by have := h10 hn; omega)]
    · obtain ⟨i1, i2⟩ := ob_step hp h h59 hn
      have hqp : pos ≤ q := by omega
      have e : s.data.toList.drop pos = (s.data.toList.drop pos).take (q - pos) ++ s.data.toList.drop q := by
        conv => lhs; rw [← List.take_append_drop (q - pos) (s.data.toList.drop pos)]
        rw [List.drop_drop]
        first
          | rw [show pos + (q - pos) = q by omega]
          | rw [show q - pos + pos = q by omega]
      rw [e]
      exact fut_app i2 fun z => i1 z _
theorem past_fut (s : ByteArray) : ∀ (n k pos : Nat) (O : List (List Fm)) (top : List Fm) (t : Bool) (F : List Fm), loopS s k pos O top t = .ok [] F → s.size - pos < k → s.size < n + pos →
    (O = [] → ∃ hp : pos < s.size, blankB (s[pos].toNat : Int) = false ∧ s[pos].toNat ≠ 59) →
    fut (s.data.toList.drop pos) O.length = fut (s.data.toList.drop (pos + pastF n (s.data.toList.drop pos) O.length)) 0 := by
  intro n
  induction n with
  | zero =>
    intro k pos O top t F h hk hn hO
    exfalso
    cases O with
    | nil => obtain ⟨hp, _⟩ := hO rfl; omega
    | cons a O =>
      obtain ⟨k0, rfl⟩ : ∃ k0, k = k0 + 1 := ⟨k - 1, by omega⟩
      rw [loopS, dif_neg (by omega)] at h
      cases h
  | succ n ih =>
    intro k pos O top t F h hk hn hO
    obtain ⟨k0, rfl⟩ : ∃ k0, k = k0 + 1 := ⟨k - 1, by omega⟩
    have hp : pos < s.size := by
      cases O with
      | nil => exact (hO rfl).1
      | cons a O =>
        rcases Nat.lt_or_ge pos s.size with h' | h'
        · exact h'
        · rw [loopS, dif_neg (by omega)] at h
          cases h
    rw [loopS, dif_pos hp] at h
    cases hs : stepS s pos s[pos].toNat O top t with
    | err c => rw [hs] at h; cases h
    | ok q O' top' t' =>
      rw [hs] at h
      simp only at h
      have hC := (stC_le s[pos] (s.data.toList.drop (pos + 1))).1
      obtain ⟨g1, g2, g3, g4⟩ := step_goes hp hs (fun hq => by
        cases k0 with
        | zero => rw [loopS] at h; cases h
        | succ k1 => exact loop_byte h hq)
      have hf := fut_step hp hs g1 (fun h10 => by
        cases O with
        | nil => obtain ⟨_, hb, _⟩ := hO rfl; rw [h10] at hb; exact absurd hb (by decide)
        | cons a O => simp)
      obtain ⟨L, hL⟩ : ∃ L, s.data.toList.drop pos = L := ⟨_, rfl⟩
      have hP : pastF (n + 1) (s.data.toList.drop pos) O.length = if stD s[pos] O.length = 0 then stC s[pos] (s.data.toList.drop (pos + 1)) else stC s[pos] (s.data.toList.drop (pos + 1)) + pastF n (s.data.toList.drop (pos + stC s[pos] (s.data.toList.drop (pos + 1)))) (stD s[pos] O.length) := by
        rw [drop_byte' s pos hp, pastF, ← drop_byte' s pos hp, List.drop_drop]
      rw [hf, hP]
      by_cases hz : stD s[pos] O.length = 0
      · rw [if_pos hz, ← g1]
        rw [hz]
      · rw [if_neg hz]
        have hne : O' ≠ [] := fun e => hz (by rw [← g2, e]; rfl)
        have i := ih k0 q O' top' t' F h (by omega) (by omega) (fun e => absurd e hne)
        rw [← g2, i, g1, Nat.add_assoc]
end Go.Proofs.YtedabholcldgbaaGreatDoor.Y

/- The comments of the items are those of the lines. Plain. -/
namespace Go.Proofs.YtedabholcldgbaaGreatDoor.Y
open Go.RowKit Go.Deep

theorem trim_right_cons (b : UInt8) (x cs : List UInt8) : Lib.trimRightS (b :: x) cs = if Lib.trimRightS x cs = [] then (if cs.contains b = true then [] else [b]) else b :: Lib.trimRightS x cs := by
  unfold Lib.trimRightS
  rw [List.reverse_cons, List.dropWhile_append]
  by_cases h : (x.reverse.dropWhile fun c => cs.contains c) = []
  · rw [h]
    simp only [List.isEmpty_nil, if_true, List.reverse_nil]
    by_cases hb : cs.contains b = true
    · rw [if_pos hb, List.dropWhile_cons, if_pos hb]; rfl
    · rw [if_neg hb, List.dropWhile_cons, if_neg hb]; rfl
  · have e : (x.reverse.dropWhile fun c => cs.contains c).isEmpty = false := by
      cases hh : (x.reverse.dropWhile fun c => cs.contains c) with
      | nil => exact absurd hh h
      | cons a c => rfl
    rw [e]
    simp only [Bool.false_eq_true, if_false, List.reverse_eq_nil_iff]
    rw [if_neg h, List.reverse_append]
    rfl
theorem trim_blank {b : UInt8} {cs : List UInt8} (hb : cs.contains b = true) (x : List UInt8) : Lib.trimS (b :: x) cs = Lib.trimS x cs := by
  unfold Lib.trimS
  rw [trim_right_cons, if_pos hb]
  by_cases h : Lib.trimRightS x cs = []
  · rw [if_pos h, h]
  · rw [if_neg h]
    unfold Lib.trimLeftS
    rw [List.dropWhile_cons, if_pos hb]
theorem trim_head {b : UInt8} {cs : List UInt8} (hb : cs.contains b = false) (x : List UInt8) : Lib.trimS (b :: x) cs = Lib.trimRightS (b :: x) cs ∧ ∃ y, Lib.trimRightS (b :: x) cs = b :: y := by
  have e : ∃ y, Lib.trimRightS (b :: x) cs = b :: y := by
    rw [trim_right_cons]
    by_cases h : Lib.trimRightS x cs = []
    · rw [if_pos h, if_neg (by rw [hb]; decide)]; exact ⟨_, rfl⟩
    · rw [if_neg h]; exact ⟨_, rfl⟩
  refine ⟨?_, e⟩
  obtain ⟨y, hy⟩ := e
  unfold Lib.trimS
  rw [hy]
  unfold Lib.trimLeftS
  rw [List.dropWhile_cons, if_neg (by rw [hb]; decide)]
theorem dropWhile_same {p q : UInt8 → Bool} : ∀ l : List UInt8, (∀ c ∈ l, p c = q c) → l.dropWhile p = l.dropWhile q
  | [], _ => rfl
  | b :: l, h => by
    rw [List.dropWhile_cons, List.dropWhile_cons, h b (by simp), dropWhile_same l fun c hc => h c (by simp [hc])]
theorem blank_set {c : UInt8} (h : c.toNat ≠ 10) : blankB (c.toNat : Int) = ([32, 9] : List UInt8).contains c := by
  have e1 : ((c.toNat : Int) == 32) = (c == 32) := by
    by_cases hc : c = 32
    · subst hc; decide
    · have : c.toNat ≠ 32 := fun e => hc (UInt8.toNat_inj.1 (by rw [e]; rfl))
      have h1 : (c == 32) = false := by simpa using hc
      have h2 : ((c.toNat : Int) == 32) = false := by simp; omega
      rw [h1, h2]
  have e2 : ((c.toNat : Int) == 9) = (c == 9) := by
    by_cases hc : c = 9
    · subst hc; decide
    · have : c.toNat ≠ 9 := fun e => hc (UInt8.toNat_inj.1 (by rw [e]; rfl))
      have h1 : (c == 9) = false := by simpa using hc
      have h2 : ((c.toNat : Int) == 9) = false := by simp; omega
      rw [h1, h2]
  have e3 : ((c.toNat : Int) == 10) = false := by simp; omega
  unfold blankB
  rw [e1, e2, e3, Bool.or_false]
  rw [List.contains_cons, List.contains_cons, List.contains_nil, Bool.or_false]
theorem trm_right {l : List UInt8} (h : ∀ c ∈ l, c.toNat ≠ 10) : trmF l = Lib.trimRightS l [32, 9] := by
  unfold trmF Lib.trimRightS
  rw [dropWhile_same l.reverse fun c hc => blank_set (h c (by simpa using hc))]
theorem line_none : ∀ (l : List UInt8), ∀ c ∈ l.take (endF l), c.toNat ≠ 10
  | [] => by simp
  | b :: r => by
    intro c hc
    rw [endF] at hc
    by_cases hb : b.toNat = 10
    · rw [if_pos hb] at hc; simp at hc
    · rw [if_neg hb, List.take_succ_cons] at hc
      rcases List.mem_cons.1 hc with e | e
      · rw [e]; exact hb
      · exact line_none r c e
/-- The comment that a line begins with. -/
def hd (l : List UInt8) : List (List UInt8) := if Lib.hasPrefix (Lib.trimS (l.take (endF l)) [32, 9]) [59] = true then [Lib.trimS (l.take (endF l)) [32, 9]] else []
theorem ob_comment : ∀ (x : List UInt8), (∀ c ∈ x, c.toNat ≠ 10) → Lib.hasPrefix (Lib.trimS x [32, 9]) [59] = true → obF x false 0 = 0
  | [], _, h => by exact absurd h (by decide)
  | b :: x, hn, h => by
    have h10 := hn b (by simp)
    by_cases hb : ([32, 9] : List UInt8).contains b = true
    · rw [trim_blank hb] at h
      have ih := ob_comment x (fun c hc => hn c (by simp [hc])) h
      have hb' : b = 32 ∨ b = 9 := by simpa using hb
      rcases hb' with e | e
      · subst e; rw [obF]; exact ih
      · subst e; rw [obF]; exact ih
    · have hb' : ([32, 9] : List UInt8).contains b = false := by simpa using hb
      obtain ⟨e1, y, e2⟩ := trim_head hb' x
      rw [e1, e2] at h
      have h59 : b = 59 := by
        unfold Lib.hasPrefix at h
        have : 59 = b := by simpa [List.isPrefixOf] using h
        exact this.symm
      subst h59
      rw [obF]
      simp
theorem cT_hd (l : List UInt8) : cT l 0 = hd l ++ fut l 0 := by
  rw [cT_view]
  unfold hd
  cases h : Lib.hasPrefix (Lib.trimS (l.take (endF l)) [32, 9]) [59] with
  | false => simp
  | true =>
    have e : fut l 0 = rC l 0 := by
      unfold fut
      rw [ob_comment _ (line_none l) h]
    simp [e]
theorem hd_end {l : List UInt8} (h : endF l = 0) : hd l = [] := by
  unfold hd
  rw [h, List.take_zero]
  decide
theorem hd_blank {b : UInt8} {r : List UInt8} (h10 : b.toNat ≠ 10) (hb : blankB (b.toNat : Int) = true) : hd (b :: r) = hd r := by
  unfold hd
  rw [endF, if_neg h10, List.take_succ_cons, trim_blank (by rw [← blank_set h10]; exact hb)]
theorem hd_comment {b : UInt8} {r : List UInt8} (h59 : b.toNat = 59) : hd (b :: r) = [trmF ((b :: r).take (endF (b :: r)))] := by
  have hl := line_none (b :: r)
  unfold hd
  rw [trm_right hl]
  have e : (b :: r).take (endF (b :: r)) = b :: r.take (endF r) := by rw [endF, if_neg (by omega), List.take_succ_cons]
  rw [e]
  have e59 : b = 59 := UInt8.toNat_inj.1 (by rw [h59]; rfl)
  obtain ⟨e1, y, e2⟩ := trim_head (b := b) (cs := [32, 9]) (by rw [e59]; decide) (r.take (endF r))
  rw [e1, e2, if_pos]
  rw [e59]
  unfold Lib.hasPrefix
  simp [List.isPrefixOf]
theorem hd_form {b : UInt8} {r : List UInt8} (h10 : b.toNat ≠ 10) (hb : blankB (b.toNat : Int) = false) (h59 : b.toNat ≠ 59) : hd (b :: r) = [] := by
  unfold hd
  rw [endF, if_neg h10, List.take_succ_cons]
  obtain ⟨e1, y, e2⟩ := trim_head (b := b) (cs := [32, 9]) (by rw [← blank_set h10]; exact hb) (r.take (endF r))
  rw [e1, e2, if_neg]
  unfold Lib.hasPrefix
  simp [List.isPrefixOf]
  intro e
  rw [← e] at h59
  exact h59 rfl
/-- The comments of the items, where nothing is open. -/
theorem items_fut (s : ByteArray) : ∀ (n k pos : Nat) (top : List Fm) (t bare : Bool) (F : List Fm), loopS s k pos [] top t = .ok [] F → s.size - pos < k → s.size < n + pos →
    (itemsL (s.size + 1) n (s.data.toList.drop pos) bare).filterMap id = (if bare = true then hd (s.data.toList.drop pos) else []) ++ fut (s.data.toList.drop pos) 0 := by
  intro n
  induction n with
  | zero =>
    intro k pos top t bare F h hk hn
    rw [List.drop_of_length_le (by simp; omega), itemsL, hd_end (by rfl)]
    simp [fut, rC, endF]
  | succ n ih =>
    intro k pos top t bare F h hk hn
    obtain ⟨k0, rfl⟩ : ∃ k0, k = k0 + 1 := ⟨k - 1, by omega⟩
    by_cases hp : pos < s.size
    · have h0 := h
      have blankStep : blankB (s[pos].toNat : Int) = true → ∀ bare, (itemsL (s.size + 1) n (s.data.toList.drop (pos + 1)) bare).filterMap id = (if bare = true then hd (s.data.toList.drop (pos + 1)) else []) ++ fut (s.data.toList.drop (pos + 1)) 0 := by
        intro hb bare
        rw [loopS, dif_pos hp] at h
        unfold stepS at h
        have h59 : s[pos].toNat ≠ 59 := by intro e; rw [e] at hb; revert hb; decide
        rw [if_neg h59, if_pos hb] at h
        exact ih k0 (pos + 1) top false bare F h (by omega) (by omega)
      by_cases h10 : s[pos].toNat = 10
      · have hd0 : hd (s.data.toList.drop pos) = [] := hd_end (by rw [drop_byte' s pos hp, endF, if_pos h10])
        rw [hd0, drop_byte' s pos hp, itemsL, if_pos h10, blankStep (by rw [h10]; decide) true, fut_nl _ _ h10, cT_hd]
        simp
      · by_cases hb : blankB (s[pos].toNat : Int) = true
        · have i := blankStep hb bare
          have e := @fut_step s pos [] top t (pos + 1) [] top false hp (by
            unfold stepS
            have h59 : s[pos].toNat ≠ 59 := by intro e; rw [e] at hb; revert hb; decide
            rw [if_neg h59, if_pos hb]) (by
            have h59 : s[pos].toNat ≠ 59 := by intro e; rw [e] at hb; revert hb; decide
            have h34 : s[pos].toNat ≠ 34 := by intro e; rw [e] at hb; revert hb; decide
            unfold stC
            rw [if_neg h34, if_neg h59, if_pos (.inr (.inr hb))]) (fun e => absurd e h10)
          have hD : stD s[pos] (([] : List (List Fm)).length : Int) = 0 := by
            have h40 : s[pos].toNat ≠ 40 := by intro e; rw [e] at hb; revert hb; decide
            have h41 : s[pos].toNat ≠ 41 := by intro e; rw [e] at hb; revert hb; decide
            unfold stD
            rw [if_neg h40, if_neg h41]; rfl
          rw [hD] at e
          have e' : fut (s.data.toList.drop pos) 0 = fut (s.data.toList.drop (pos + 1)) 0 := e
          rw [e', drop_byte' s pos hp, hd_blank h10 hb, itemsL, if_neg h10, if_pos hb]
          exact i
        · have hb' : blankB (s[pos].toNat : Int) = false := by simpa using hb
          by_cases h59 : s[pos].toNat = 59
          · rw [loopS, dif_pos hp] at h
            unfold stepS at h
            rw [if_pos h59, nnl_end] at h
            have hpos : 1 ≤ endF (s.data.toList.drop pos) := by
              rw [drop_byte' s pos hp, endF, if_neg (by omega)]; omega
            have i := ih k0 (pos + endF (s.data.toList.drop pos)) top false bare F h (by omega) (by omega)
            have hz : hd (s.data.toList.drop (pos + endF (s.data.toList.drop pos))) = [] := hd_end (by
              rw [← List.drop_drop]
              exact end_drop _)
            rw [hz] at i
            have hc := fut_comment (r := s.data.toList.drop (pos + 1)) h59 0
            have hh := hd_comment (r := s.data.toList.drop (pos + 1)) h59
            have hI : itemsL (s.size + 1) (n + 1) (s.data.toList.drop pos) bare = (if bare = true then [some (trmF ((s.data.toList.drop pos).take (endF (s.data.toList.drop pos))))] else []) ++ itemsL (s.size + 1) n (s.data.toList.drop (pos + endF (s.data.toList.drop pos))) bare := by
              rw [drop_byte' s pos hp, itemsL, if_neg h10, if_neg hb, if_pos h59, ← drop_byte' s pos hp, List.drop_drop]
            rw [← drop_byte' s pos hp] at hc hh
            rw [List.drop_drop] at hc
            rw [hI, List.filterMap_append, i, hh, hc.1, hc.2]
            cases bare <;> simp
          · obtain ⟨k', t', f, i1, i2, i3⟩ := past_read s (s.size + 1) (k0 + 1) pos [] top t F h0 hk (by omega) (fun _ => ⟨hp, hb', h59⟩)
            have j := past_fut s (s.size + 1) (k0 + 1) pos [] top t F h0 hk (by omega) (fun _ => ⟨hp, hb', h59⟩)
            simp only [List.length_nil] at i1 i2 i3
            obtain ⟨P, hP⟩ : ∃ P, pastF (s.size + 1) (s.data.toList.drop pos) 0 = P := ⟨_, rfl⟩
            have hP' : pastF (s.size + 1) (s.data.toList.drop pos) ((0 : Nat) : Int) = P := hP
            rw [hP'] at i1 i2 i3
            have j' : fut (s.data.toList.drop pos) 0 = fut (s.data.toList.drop (pos + P)) 0 := by
              have := j
              simp only [List.length_nil] at this
              rw [hP'] at this
              exact this
            have i := ih k' (pos + P) (top ++ [f]) t' false F i1 i2 (by omega)
            have hI : itemsL (s.size + 1) (n + 1) (s.data.toList.drop pos) bare = none :: itemsL (s.size + 1) n (s.data.toList.drop (pos + P)) false := by
              rw [drop_byte' s pos hp, itemsL, if_neg h10, if_neg hb, if_neg h59, ← drop_byte' s pos hp, hP, List.drop_drop]
            have hh : hd (s.data.toList.drop pos) = [] := by rw [drop_byte' s pos hp]; exact hd_form h10 hb' h59
            rw [hI, hh, j', List.filterMap_cons, i]
            simp
    · rw [List.drop_of_length_le (by simp; omega), itemsL, hd_end (by rfl)]
      simp [fut, rC, endF]
/-- Of a text that reads: both keep the same comments. -/
theorem items_comments {s : ByteArray} {fs : List Fm} (h : readR s = .ok fs) : (itemsL (s.size + 1) (s.size + 1) s.data.toList true).filterMap id = comS (piecesT s.data.toList) := by
  obtain ⟨_, hl⟩ := readR_loop h
  have := items_fut s (s.size + 1) (s.size + 1) 0 [] false true fs hl (by omega) (by omega)
  rw [List.drop_zero, if_pos rfl, ← cT_hd] at this
  rw [this]
  unfold piecesT cT
  rw [com_pieces]
end Go.Proofs.YtedabholcldgbaaGreatDoor.Y

/- The document's items in memory: five cells each. -/
namespace Go.Proofs.YtedabholcldgbaaGreatDoor.Y
open Go.RowKit Go.Deep

/-- An item: a comment, or a form. -/
structure It where
  com : ByteArray
  fm : T
def noT : T := .mk 0 0 ⟨#[]⟩ none 0 []
def cells5 (l : List It) : List Value := l.flatMap fun i => [.string i.com, .int .i64 i.fm.kd, .int .i64 i.fm.nn, .string i.fm.tx, .slice i.fm.ad i.fm.ks.length i.fm.cp]
theorem cells5_append (xs ys : List It) : cells5 (xs ++ ys) = cells5 xs ++ cells5 ys := by simp [cells5]
theorem cells5_length : ∀ xs : List It, (cells5 xs).length = xs.length * 5
  | [] => rfl
  | _ :: xs => by have := cells5_length xs; simp only [cells5] at this; simp [cells5, this, Nat.add_mul]
theorem cells5_one (l : List It) : ∀ u ∈ cells5 l, u.oneCell' = true := by
  intro u h
  simp only [cells5, List.mem_flatMap] at h
  obtain ⟨t, _, h⟩ := h
  simp only [List.mem_cons, List.not_mem_nil, or_false] at h
  rcases h with rfl | rfl | rfl | rfl | rfl <;> rfl
theorem cells5_get : ∀ (l : List It) (k : Nat) (hk : k < l.length),
    (cells5 l)[k * 5]? = some (.string l[k].com) ∧ (cells5 l)[k * 5 + 1]? = some (.int .i64 l[k].fm.kd) ∧ (cells5 l)[k * 5 + 2]? = some (.int .i64 l[k].fm.nn) ∧ (cells5 l)[k * 5 + 3]? = some (.string l[k].fm.tx) ∧ (cells5 l)[k * 5 + 4]? = some (.slice l[k].fm.ad l[k].fm.ks.length l[k].fm.cp)
  | [], _, h => absurd h (by simp)
  | i :: l, 0, _ => by simp [cells5]
  | i :: l, k + 1, h => by
    have ih := cells5_get l k (by simpa using h)
    have e : cells5 (i :: l) = [.string i.com, .int .i64 i.fm.kd, .int .i64 i.fm.nn, .string i.fm.tx, .slice i.fm.ad i.fm.ks.length i.fm.cp] ++ cells5 l := by simp [cells5]
    have hg : ∀ j, (cells5 (i :: l))[(k + 1) * 5 + j]? = (cells5 l)[k * 5 + j]? := by
      intro j
      rw [e, List.getElem?_append_right (by simp; omega)]
      congr 1
      simp; omega
    have h0 := hg 0
    simp only [Nat.add_zero] at h0
    simp only [List.getElem_cons_succ]
    rw [h0, hg 1, hg 2, hg 3, hg 4]
    exact ih

/-- The items, with the forms that are read. -/
def encI : List (Option (List UInt8)) → List T → List It
  | [], _ => []
  | some c :: r, ts => ⟨⟨c.toArray⟩, noT⟩ :: encI r ts
  | none :: r, [] => ⟨⟨#[]⟩, noT⟩ :: encI r []
  | none :: r, t :: ts => ⟨⟨#[]⟩, t⟩ :: encI r ts
theorem forms_cons_none (r : List (Option (List UInt8))) : forms (none :: r) = forms r + 1 := by simp [forms]
theorem forms_cons_some (c : List UInt8) (r : List (Option (List UInt8))) : forms (some c :: r) = forms r := by simp [forms]
theorem forms_append (a b : List (Option (List UInt8))) : forms (a ++ b) = forms a + forms b := by simp [forms]
theorem enc_len : ∀ (l : List (Option (List UInt8))) (ts : List T), (encI l ts).length = l.length
  | [], _ => rfl
  | some c :: r, ts => by rw [encI, List.length_cons, List.length_cons, enc_len r]
  | none :: r, [] => by rw [encI, List.length_cons, List.length_cons, enc_len r]
  | none :: r, t :: ts => by rw [encI, List.length_cons, List.length_cons, enc_len r]
theorem enc_some (c : List UInt8) : ∀ (l : List (Option (List UInt8))) (ts : List T), encI (l ++ [some c]) ts = encI l ts ++ [⟨⟨c.toArray⟩, noT⟩]
  | [], _ => rfl
  | some d :: r, ts => by rw [List.cons_append, encI, encI, enc_some c r, List.cons_append]
  | none :: r, [] => by rw [List.cons_append, encI, encI, enc_some c r, List.cons_append]
  | none :: r, t :: ts => by rw [List.cons_append, encI, encI, enc_some c r, List.cons_append]
theorem enc_none : ∀ (l : List (Option (List UInt8))) (ts : List T) (h : forms l < ts.length), encI (l ++ [none]) ts = encI l ts ++ [⟨⟨#[]⟩, ts[forms l]⟩]
  | [], t :: ts, _ => rfl
  | [], [], h => absurd h (by simp)
  | some d :: r, ts, h => by
    rw [List.cons_append, encI, encI, enc_none r ts (by rw [forms_cons_some] at h; exact h), List.cons_append]
    simp only [forms_cons_some]
  | none :: r, [], h => absurd h (by simp)
  | none :: r, t :: ts, h => by
    rw [forms_cons_none, List.length_cons] at h
    rw [List.cons_append, encI, encI, enc_none r ts (by omega), List.cons_append]
    simp only [forms_cons_none, List.getElem_cons_succ]
/-- The comments of the items, as the document's walk takes them: those that are not empty. -/
theorem enc_comments : ∀ (l : List (Option (List UInt8))) (ts : List T), (∀ c, some c ∈ l → c ≠ []) → ((encI l ts).filter fun i => !(i.com.data.toList.isEmpty)).map (fun i => i.com.data.toList) = l.filterMap id
  | [], _, _ => rfl
  | some c :: r, ts, h => by
    have ih := enc_comments r ts fun d hd => h d (by simp [hd])
    have hc := h c (by simp)
    rw [encI, List.filter_cons, if_pos (by cases c with | nil => exact absurd rfl hc | cons a b => rfl), List.map_cons, ih]
    rfl
  | none :: r, [], h => by
    have ih := enc_comments r [] fun d hd => h d (by simp [hd])
    rw [encI, List.filter_cons, if_neg (by simp), ih]
    rfl
  | none :: r, t :: ts, h => by
    have ih := enc_comments r ts fun d hd => h d (by simp [hd])
    rw [encI, List.filter_cons, if_neg (by simp), ih]
    rfl
theorem trm_some {b : UInt8} (h : blankB (b.toNat : Int) = false) : ∀ (x : List UInt8), trmF (b :: x) ≠ [] := by
  intro x
  unfold trmF
  rw [List.reverse_cons, List.dropWhile_append]
  split
  · rw [List.dropWhile_cons, if_neg (by rw [h]; decide)]; simp
  · simp
theorem items_some (N : Nat) : ∀ (n : Nat) (l : List UInt8) (bare : Bool) (c : List UInt8), some c ∈ itemsL N n l bare → c ≠ []
  | 0, _, _, _, h => by rw [itemsL] at h; simp at h
  | n + 1, [], _, _, h => by rw [itemsL] at h; simp at h
  | n + 1, b :: r, bare, c, h => by
    rw [itemsL] at h
    split at h
    · exact items_some N n _ _ c h
    · split at h
      · exact items_some N n _ _ c h
      · rename_i h10 hb
        split at h
        · rename_i h59
          rcases List.mem_append.1 h with h | h
          · have : endF (b :: r) = endF r + 1 := by rw [endF, if_neg (by omega)]
            split at h
            · simp only [List.mem_singleton, Option.some.injEq] at h
              rw [h, this, List.take_succ_cons]
              exact trm_some (by rw [h59]; decide) _
            · simp at h
          · exact items_some N n _ _ c h
        · rcases List.mem_cons.1 h with h | h
          · cases h
          · exact items_some N n _ _ c h

theorem infoItem : (Tryz.prog.info? 70).map (fun i => (i.zero, i.size, i.bytes)) = some (some (.agg #[.string ⟨#[]⟩, .int .i64 0, .int .i64 0, .string ⟨#[]⟩, .slice none 0 0]), 5, 72) := by kernel_rfl
end Go.Proofs.YtedabholcldgbaaGreatDoor.Y

/- The document's items in memory: append. -/
namespace Go.Proofs.YtedabholcldgbaaGreatDoor.Y
open Go.RowKit Go.Deep

/-- The slice v owns the items us, from block B on; below B nothing has turned since w0. -/
structure Own5 (B : Nat) (w0 w : World) (v : Value) (us : List It) : Prop where
  own : w.ownsRow B 70 5 v us.length (cells5 us)
  below : Below B w0 w
  le : B ≤ w.heap.size
theorem Own5.start {B : Nat} {w0 w : World} (h : B ≤ w.heap.size) (hb : Below B w0 w) : Own5 B w0 w (.slice none 0 0) [] := ⟨World.ownsRow_nil _ _ _ _, hb, h⟩
theorem Own5.next {B : Nat} {w0 w w' : World} {v : Value} {us : List It} (h : Own5 B w0 w v us) (hb : Below w.heap.size w w') : Own5 B w0 w' v us :=
  ⟨own_same h.own fun k hk => hb.block k (h.own.lt k hk).2, h.below.trans (hb.mono h.le), Nat.le_trans h.le hb.size⟩
/-- The block of an item that is put behind. -/
abbrev itO (i : It) : Obj := .cells #[.string i.com, .int .i64 i.fm.kd, .int .i64 i.fm.nn, .string i.fm.tx, .slice i.fm.ad i.fm.ks.length i.fm.cp] 70 (0, 0)
/-- append of an item that stands in a block. Nothing that stood in another block turns. -/
theorem own5_push {ops : Array Oper} {rest : List Oper} {o : Oper} {a : Act} {Q : Exit → Act → World → Prop} (hgd : o.guard = none) (s x : Operand) (t : TypeId)
    (ho : o.op = .call { callee := .builtin .append, args := #[s, x], argTypes := #[t, t] }) (ht : Tryz.prog.underlying t = some (.slice 70))
    {B : Nat} {w0 w : World} {v : Value} {us : List It} (hs : a.eval s = v) (hb : Own5 B w0 w v us) (u : It) (c A : Nat)
    (hx : a.eval x = .slice (some ⟨A, 0, none⟩) 1 c) (hA : w.heap[A]? = some (itO u)) (hlen : us.length ≤ 1000000)
    (h : ∀ v' w', Own5 B w0 w' v' (us ++ [u]) → w.grownBy w' v.ownBlock → (v'.ownBlock = v.ownBlock ∨ ∀ g, v'.ownBlock = some g → w.heap.size ≤ g) → wpList Tryz.prog ops Q rest (a.put o.dst v') w') : wpList Tryz.prog ops Q (o :: rest) a w := by
  obtain ⟨i0, hi0, hz0, hz1, hz2⟩ := info_parts infoItem
  have hl : (us ++ [u]).length = us.length + 1 := by simp
  have hAl := lt_of_getElem? hA
  refine wpList_append_lies _ hgd s x t ho B 70 i0 _ 5 72 ht hi0 hz0 hz1 hz2 rfl (by decide) v us.length (cells5 us) hs hb.own ⟨A, 0, none⟩ 1 c (cells5 [u]) hx (by simp [cells5])
    (fun j y hy => World.news_of_block (cs := #[.string u.com, .int .i64 u.fm.kd, .int .i64 u.fm.nn, .string u.fm.tx, .slice u.fm.ad u.fm.ks.length u.fm.cp]) (t := 70) (fr := (0, 0)) hA j y (by simpa [cells5] using hy)) (cells5_one [u]) (by omega) (by unfold maxLen; omega) (by omega) hb.le w.heap.size rfl ?_
  intro g cap w' ho' hg hat hlt
  refine h _ w' ⟨?_, ?_, ?_⟩ hg ?_
  · rw [hl, cells5_append]; exact ho'
  · exact hb.below.grown hg hb.le fun k hk => (hb.own.lt k hk).1
  · have := hg.size; have := hb.le; omega
  · rcases hat with hat | hat
    · exact .inl (by rw [hat]; rfl)
    · exact .inr fun g' hg' => by simp [Value.ownBlock] at hg'; omega
end Go.Proofs.YtedabholcldgbaaGreatDoor.Y

/- The document's own reader's quoted: the walk. -/
namespace Go.Proofs.YtedabholcldgbaaGreatDoor.Q
open Go.RowKit Go.Deep

theorem chg_set {R : Nat} {w w' : World} (h : Only R w w') (o : Nat) (u : Value) : Only R w (w'.setCell ⟨R, o, none⟩ u) :=
  h.trans ⟨rfl, rfl, rfl, by simp [World.setCell], fun k _ hne => Below.heap_setCell _ _ _ _ (by intro e; exact hne (by rw [e]))⟩
theorem chg_drewN {R : Nat} {w w' : World} (h : Only R w w') (n : Nat) : Only R w (w'.drewN n) := h.trans (Only.of (below_drewN (Below.refl _ _) n))
theorem chg_drew {R : Nat} {w w' : World} (h : Only R w w') : Only R w w'.drew := h.trans (Only.of (Below.refl _ _).drew)
/-- How the reading of a text ends. -/
def TxtQ (base : Nat) (w w' : World) (R : Nat) (s : ByteArray) (pos : Nat) (ov : Value) (L : List Lv) (ts : List T) (nb : Bool) : Prop :=
  match txtL (s.data.toList.drop (pos + 1)) with
  | .err c => Bad w' R s c ∧ Below base w w'
  | .done bs n => if 2000 < (⟨bs.toArray⟩ : ByteArray).size then Bad w' R s 4 ∧ Below base w w' else Added base w w' R s (pos + n + 1) ov L (ts ++ [T.leaf 2 0 ⟨bs.toArray⟩]) (nb, 0)
/-- What holds at the head of each round. -/
structure TRel (base : Nat) (w wr : World) (R : Nat) (s : ByteArray) (pos : Nat) (ov : Value) (L : List Lv) (nb : Bool) (iv : Value) (q : Nat) (acc : List UInt8) : Prop where
  lt : pos < q
  le : q ≤ s.size
  txt : txtL (s.data.toList.drop (pos + 1)) = (txtL (s.data.toList.drop q)).pre acc (q - (pos + 1))
  own : wr.ownsRow w.heap.size 5 1 iv acc.length (bytesV acc)
  scan : Scan base wr R s q ov L (nb, 0)
  below : Below base w wr
  size : w.heap.size ≤ wr.heap.size
  len : acc.length ≤ q
theorem TRel.err {base : Nat} {w wr w' : World} {R : Nat} {s : ByteArray} {pos q : Nat} {ov : Value} {L : List Lv} {v : Value} {ts : List T} {nb : Bool} {iv : Value} {acc : List UInt8} {c : Int}
    (h : TRel base w wr R s pos ov (L ++ [(v, ts)]) nb iv q acc) (hc : txtL (s.data.toList.drop q) = .err c) (hk : Bad w' R s c) (hb : Below base wr w') : TxtQ base w w' R s pos ov L ts nb := by
  unfold TxtQ
  rw [h.txt, hc]
  exact ⟨hk, h.below.trans hb⟩
theorem TRel.fin {base : Nat} {w wr w2 w' : World} {R : Nat} {s : ByteArray} {pos q : Nat} {ov : Value} {L : List Lv} {v : Value} {ts : List T} {nb : Bool} {iv : Value} {acc : List UInt8}
    (h : TRel base w wr R s pos ov (L ++ [(v, ts)]) nb iv q acc) (hc : txtL (s.data.toList.drop q) = .done [] 1) (hd : ¬ 2000 < (⟨acc.toArray⟩ : ByteArray).size) (hb : Below base wr w2) (ha : Added base w2 w' R s (q + 1) ov L (ts ++ [T.leaf 2 0 ⟨acc.toArray⟩]) (nb, 0)) : TxtQ base w w' R s pos ov L ts nb := by
  unfold TxtQ
  rw [h.txt, hc]
  simp only [TX.pre, List.append_nil]
  rw [show pos + (q - (pos + 1) + 1) = q by have := h.lt; omega, if_neg hd]
  exact ⟨(h.below.trans hb).trans ha.1, ha.2⟩
theorem TRel.long {base : Nat} {w wr w2 w' : World} {R : Nat} {s : ByteArray} {pos q q' : Nat} {ov : Value} {L : List Lv} {v : Value} {ts us : List T} {nb : Bool} {iv : Value} {acc : List UInt8}
    (h : TRel base w wr R s pos ov (L ++ [(v, ts)]) nb iv q acc) (hc : txtL (s.data.toList.drop q) = .done [] 1) (hd : 2000 < (⟨acc.toArray⟩ : ByteArray).size) (hb : Below base wr w2) (ha : Added base w2 w' R s q' ov L us (nb, 4)) : TxtQ base w w' R s pos ov L ts nb := by
  unfold TxtQ
  rw [h.txt, hc]
  simp only [TX.pre, List.append_nil]
  rw [if_pos hd]
  obtain ⟨hB, v', hS⟩ := ha
  exact ⟨hS.bad, (h.below.trans hb).trans hB⟩
/-- A byte more: the place was set ahead of the append. -/
theorem TRel.next {base : Nat} {w wr W w1 : World} {R : Nat} {s : ByteArray} {pos : Nat} {ov : Value} {L : List Lv} {nb : Bool} {iv : Value} {q : Nat} {acc : List UInt8} {m : UInt8} {k g c : Nat}
    (h : TRel base w wr R s pos ov L nb iv q acc) (hbw : base ≤ w.heap.size) (hlow : Low R ov L w.heap.size) (hk : q + k ≤ s.size) (hk0 : 1 ≤ k) (ht : txtL (s.data.toList.drop q) = (txtL (s.data.toList.drop (q + k))).pre [m] k)
    (hS : Scan base W R s (q + k) ov L (nb, 0)) (hW : Below base wr W) (hWs : w.heap.size ≤ W.heap.size) (hgrow : W.grownBy w1 iv.ownBlock)
    (hown : w1.ownsRow w.heap.size 5 1 (.slice (some ⟨g, 0, none⟩) (acc.length + 1) c) (acc.length + 1) (bytesV acc ++ [.int .u8 (m.toNat : Int)])) :
    TRel base w w1 R s pos ov L nb (.slice (some ⟨g, 0, none⟩) (acc.length + 1) c) (q + k) (acc ++ [m]) := by
  have hB : Below w.heap.size W w1 := (Below.refl _ _).grown hgrow hWs fun b hb => (h.own.lt b hb).1
  refine ⟨by have := h.lt; omega, hk, ?_, ?_, hS.belowB hlow hB, (h.below.trans hW).trans (hB.mono hbw), Nat.le_trans hWs hB.size, by have := h.len; simp; omega⟩
  · rw [h.txt, ht, TX.pre_pre, show q - (pos + 1) + k = q + k - (pos + 1) by have := h.lt; omega]
  · simpa [bytesV] using hown
theorem TRel.row {base : Nat} {w wr W : World} {R : Nat} {s : ByteArray} {pos : Nat} {ov : Value} {L : List Lv} {nb : Bool} {iv : Value} {q : Nat} {acc : List UInt8}
    (h : TRel base w wr R s pos ov L nb iv q acc) (hR : R < w.heap.size) (ho : Only R wr W) : W.ownsRow w.heap.size 5 1 iv acc.length (bytesV acc) :=
  own_same h.own fun k hk => ho.block k (h.own.lt k hk).2 fun e => by
    have e' : k = R := by simpa using e
    have := (h.own.lt k hk).1
    omega
theorem only_below {base R : Nat} {wr W : World} (ho : Only R wr W) (hR : base ≤ R) (hw : base ≤ wr.heap.size) : Below base wr W := ho.below hR hw

theorem heap_new_at (W : World) {n : Nat} (h : W.heap.size = n) (o : Obj) : (W.alloc o).heap[n]? = some o := by
  subst h; exact heap_alloc_new W o

set_option linter.unusedSimpArgs false in
set_option maxHeartbeats 8000000 in
set_option maxRecDepth 100000 in
theorem quoted_any (base : Nat) (w : World) (R : Nat) (s : ByteArray) (pos : Nat) (ov : Value) (L : List Lv) (v : Value) (ts : List T) (nb : Bool)
    (h : Scan base w R s pos ov (L ++ [(v, ts)]) (nb, 0)) (hpos : pos < s.size) (hs : s.size ≤ 60000) (hlen : ts.length + L.length ≤ 1000000) :
    Calls Tryz.prog 127 #[.pointer (some ⟨R, 0, none⟩)] w fun e w' => e = .returned (.tuple #[]) ∧ TxtQ base w w' R s pos ov L ts nb := by
  obtain ⟨i0, hi0, hz0, hz1, hz2⟩ := info_parts info5
  obtain ⟨c0, c1, c2, c3, c4, f1, f2, f3, f4⟩ := h.cells
  have H := Lib.hid h
  have hbR := h.hR
  have hbw := h.hw
  have HLow := Lib.hid h.low
  have hRw := lt_of_block h.blk
  have HP : Hid (∀ (t : ByteArray) (q : Nat) (c : Int) W, t.size ≤ maxLen → Scan base W R s q ov (L ++ [(v, ts)]) (nb, c) → Calls Tryz.prog 126 #[.pointer (some ⟨R, 0, none⟩), .agg #[.int .i64 2, .int .i64 0, .string t, .slice none 0 0]] W
      fun e w' => e = .returned (.tuple #[]) ∧ Added base W w' R s q ov L (ts ++ [T.leaf 2 0 t]) (nb, c)) :=
    Lib.hid fun t q c W o3 hS => put_any base W R s q ov L v ts (nb, c) (T.leaf 2 0 t) hS (leaf_in W 2 0 t (by unfold I64; omega) (by unfold I64; omega) o3) (fun b hb => absurd hb (leaf_on 2 0 t b)) (fun b hb => absurd hb (leaf_on 2 0 t b)) hlen
  clear h hlen
  go_enter Tryz.func127, Tryz.ntmps127
  go_wp2_with fail
  clear c0 c1 c2 c3 c4 f1 f2 f3 f4
  go_loopg [2] (s.size - pos) (fun m x wr => ∃ (iv : Value) (q : Nat) (acc : List UInt8), iv = x ∧ s.size - q ≤ m ∧ TRel base w wr R s pos ov (L ++ [(v, ts)]) nb iv q acc)
  case atStart => exact ⟨.slice none 0 0, pos + 1, [], rfl, by omega, by omega, by omega, by rw [Nat.sub_self, TX.pre_nil], World.ownsRow_nil _ _ _ _, H.out.setPos (pos + 1), below_setR (Below.refl _ _) hbR _, by simp, Nat.zero_le _⟩
  case round =>
    obtain ⟨iv, q, acc, hiv, hm, hT⟩ := hrel
    subst hiv
    obtain ⟨c0, c1, c2, c3, c4, f1, f2, f3, f4⟩ := hT.scan.cells
    have HT := Lib.hid hT
    have hq0 := hT.lt
    have hq1 := hT.le
    have hn := hT.len
    have hsz := hT.size
    have hRlt := lt_of_block hT.scan.blk
    have hq2 : (0 : Int) ≤ (q : Int) := by omega
    clear hT c2 c3 f2 f3
    by_cases hlt : q < s.size
    · have hd : decide (q < s.size) = true := by simpa using hlt
      have hq3 : (q : Int) < (s.size : Int) := by omega
      have HD := Lib.hid (drop_byte hlt)
      by_cases b34 : s[q].toNat = 34
      · have g34 : ((s[q].toNat : Int) != 34) = false := by simp; omega
        have gqe : ((q : Int) == (s.size : Int)) = false := by simp; omega
        have HTX : Hid (txtL (s.data.toList.drop q) = .done [] 1) := Lib.hid (by rw [HD.out, txtL_cons, if_pos b34])
        have HCV : Hid (∀ W, Only R wr W → (convert 46 9 iv).run Tryz.prog W = .ok (.string ⟨acc.toArray⟩) W) := Lib.hid fun W ho => conv_row (HT.out.row hRw ho) 0
        have hcv1 : ∀ (a : Nat) (x : Value), (convert 46 9 iv).run Tryz.prog ((wr.drewN a).setCell ⟨R, 1, none⟩ x) = .ok (.string ⟨acc.toArray⟩) ((wr.drewN a).setCell ⟨R, 1, none⟩ x) := fun a x => HCV.out _ (chg_set (chg_drewN (Only.refl _ _) _) _ _)
        have hcv2 : ∀ (a : Nat) (x y : Value), (convert 46 9 iv).run Tryz.prog (((wr.drewN a).setCell ⟨R, 1, none⟩ x).setCell ⟨R, 4, none⟩ y) = .ok (.string ⟨acc.toArray⟩) (((wr.drewN a).setCell ⟨R, 1, none⟩ x).setCell ⟨R, 4, none⟩ y) := fun a x y => HCV.out _ (chg_set (chg_set (chg_drewN (Only.refl _ _) _) _ _) _ _)
        have haz : (⟨acc.toArray⟩ : ByteArray).size = acc.length := by show acc.toArray.size = _; simp
        obtain ⟨va, vc, hiv⟩ : ∃ va vc, iv = .slice va acc.length vc := by
          rcases HT.out.own.2 with ⟨e, e'⟩ | ⟨g', c', cur, e, _⟩
          · have e1 : iv = .slice none 0 0 := e
            have e2 : acc.length = 0 := e'
            exact ⟨none, 0, by rw [e1, e2]⟩
          · exact ⟨_, _, e⟩
        subst hiv
        have ham : acc.length ≤ 60000 := by omega
        clear b34
        by_cases hlong : 2000 < acc.length
        · have hl1 : (2000 : Int) < (acc.length : Int) := by omega
          have HLG : Hid (2000 < (⟨acc.toArray⟩ : ByteArray).size) := Lib.hid (by rw [haz]; exact hlong)
          have HM : Hid ((⟨acc.toArray⟩ : ByteArray).size ≤ maxLen) := Lib.hid (by rw [haz]; unfold maxLen; omega)
          clear haz hlong
          go_wp2_with fail
          go_quiet (fail)
          go_wp2_with fail
          go_quiet (fail)
          go_wp2_with (go_at_call 126; refine (HP.out _ (q + 1) 4 _ HM.out (((HT.out.scan.drewN _).setPos (q + 1)).setE 4)).mono ?_; rintro e w4 ⟨rfl, hA⟩; have HA := Lib.hid hA; clear hA)
          go_end0
          exact ⟨rfl, HT.out.long HTX.out HLG.out (below_setR (below_setR (below_drewN (Below.refl _ _) _) hbR _) hbR _) HA.out⟩
        · have hl1 : ¬ (2000 : Int) < (acc.length : Int) := by omega
          have HLG : Hid (¬ 2000 < (⟨acc.toArray⟩ : ByteArray).size) := Lib.hid (by rw [haz]; exact hlong)
          have HM : Hid ((⟨acc.toArray⟩ : ByteArray).size ≤ maxLen) := Lib.hid (by rw [haz]; unfold maxLen; omega)
          clear haz hlong
          go_wp2_with fail
          go_quiet (fail)
          go_wp2_with fail
          go_quiet (fail)
          go_wp2_with (go_at_call 126; refine (HP.out _ (q + 1) 0 _ HM.out ((HT.out.scan.drewN _).setPos (q + 1))).mono ?_; rintro e w4 ⟨rfl, hA⟩; have HA := Lib.hid hA; clear hA)
          go_end0
          exact ⟨rfl, HT.out.fin HTX.out HLG.out (below_setR (below_drewN (Below.refl _ _) _) hbR _) HA.out⟩
      · have g34 : ((s[q].toNat : Int) != 34) = true := by simp; omega
        have HS1 := Lib.hid (HT.out.scan.setPos (q + 1))
        have hq5 : (0 : Int) ≤ (q : Int) + 1 := by omega
        by_cases b92 : s[q].toNat = 92
        · have g92 : ((s[q].toNat : Int) == 92) = true := by simp; omega
          by_cases hend : q + 1 = s.size
          · have HTX : Hid (txtL (s.data.toList.drop q) = .err 12) := Lib.hid (by
              rw [HD.out, txtL_cons, if_neg b34, if_pos b92, List.drop_of_length_le (by simp; omega)])
            have g1 : ((q : Int) + 1 == (s.size : Int)) = true := by simp; omega
            clear b34 b92 hend
            go_wp2_with fail
            go_quiet (fail)
            go_wp2_with fail
            go_quiet (fail)
            go_wp2_with fail
            go_quiet (fail)
            go_wp2_with fail
            go_quiet (fail)
            go_wp2_with fail
            refine bodyPost_ret (results_none (by rfl) _ _ _) rfl ?_
            exact ⟨rfl, HT.out.err HTX.out ((((HT.out.scan.drewN _).setPos (q + 1)).drewN _).setE 12).bad (below_setR (below_drewN (below_setR (below_drewN (Below.refl _ _) _) hbR _) _) hbR _)⟩
          · have hlt2 : q + 1 < s.size := by omega
            have g1 : ((q : Int) + 1 == (s.size : Int)) = false := by simp; omega
            have hq6 : (q : Int) + 1 < (s.size : Int) := by omega
            have HD2 := Lib.hid (drop_byte hlt2)
            by_cases n110 : s[q + 1].toNat = 110
            · have HTX : Hid (txtL (s.data.toList.drop q) = (txtL (s.data.toList.drop (q + 2))).pre [10] 2) := Lib.hid (by
                have e : s[q + 1] = 110 := by rw [← UInt8.toNat_inj]; simpa using n110
                rw [HD.out, txtL_cons, if_neg b34, if_pos b92, HD2.out]
                simp only [e]
                rfl)
              have g110 : ((s[q + 1].toNat : Int) == 110) = true := by simp; omega
              clear b34 b92 hend n110
              go_wp2_with fail
              go_quiet (fail)
              go_wp2_with fail
              go_quiet (fail)
              go_wp2_with fail
              go_quiet (fail)
              go_wp2_with fail
              go_quiet (fail)
              go_wp2_with (at_builtin; refine wpList_append_lies _ rfl _ _ _ rfl w.heap.size 5 i0 _ 1 1 Tryz.underlying46 hi0 hz0 hz1 hz2 rfl (by omega) iv acc.length (bytesV acc) (by rfl) (HT.out.row hRw ?_) ⟨wr.heap.size, 0, none⟩ 1 1 [.int .u8 10] (by rfl) (by rfl) (World.news_of_block (cs := #[.int .u8 10]) (t := 5) (fr := (0, 0)) ?_) (by simp [Value.oneCell']) (by omega) (by unfold maxLen; omega) (by omega) (by simp; omega) (wr.heap.size + 1) (by simp) ?_; (· (repeat first | refine chg_set ?_ _ _ | refine chg_drewN ?_ _ | refine Only.alloc ?_ _); exact Only.refl _ _); (· exact heap_new_at _ (by simp) _); intro gg cap1 w1 hown1 hgrow _ _; have HN := Lib.hid (HT.out.next (m := 10) (k := 2) hbw HLow.out (by omega) (by omega) HTX.out ((((((HT.out.scan.drewN _).setPos (q + 1)).drewN _).setPos (q + 2))).below (bel1 _ _)) (((below_setR (below_drewN (below_setR (below_drewN (Below.refl _ _) _) hbR _) _) hbR _)).alloc (by simp; omega) _) (by simp; omega) hgrow hown1); clear hown1 hgrow)
              go_roundg (s.size - (q + 2))
              case measure => omega
              case rel => exact ⟨_, q + 2, acc ++ [10], rfl, by omega, HN.out⟩
            · have g110 : ((s[q + 1].toNat : Int) == 110) = false := by simp; omega
              by_cases hok : s[q + 1].toNat = 34 ∨ s[q + 1].toNat = 92
              · have HTX : Hid (txtL (s.data.toList.drop q) = (txtL (s.data.toList.drop (q + 2))).pre [s[q + 1]] 2) := Lib.hid (by
                  have e1 : unOk (s[q + 1].toNat : Int) = true := by unfold unOk; rcases hok with h | h <;> rw [h] <;> rfl
                  have e2 : unB s[q + 1] = s[q + 1] := by unfold unB; rw [if_neg (fun e => n110 (by rw [e]; rfl))]
                  rw [HD.out, txtL_cons, if_neg b34, if_pos b92, HD2.out]
                  simp only [e1, if_true, e2])
                have hx : (((s[q + 1].toNat : Int) == 34) = true) ∨ (((s[q + 1].toNat : Int) == 34) = false ∧ ((s[q + 1].toNat : Int) == 92) = true) := by
                  simp only [beq_iff_eq, beq_eq_false_iff_ne, ne_eq]; omega
                clear b34 b92 hend n110 hok
                rcases hx with g1 | ⟨g1, g2⟩
                all_goals
                  go_wp2_with fail
                  go_quiet (fail)
                  go_wp2_with fail
                  go_quiet (fail)
                  go_wp2_with fail
                  go_quiet (fail)
                  go_wp2_with fail
                  go_quiet (fail)
                  go_wp2_with (at_builtin; refine wpList_append_lies _ rfl _ _ _ rfl w.heap.size 5 i0 _ 1 1 Tryz.underlying46 hi0 hz0 hz1 hz2 rfl (by omega) iv acc.length (bytesV acc) (by rfl) (HT.out.row hRw ?_) ⟨wr.heap.size, 0, none⟩ 1 1 [.int .u8 (s[q + 1].toNat : Int)] (by rfl) (by rfl) (World.news_of_block (cs := #[.int .u8 (s[q + 1].toNat : Int)]) (t := 5) (fr := (0, 0)) ?_) (by simp [Value.oneCell']) (by omega) (by unfold maxLen; omega) (by omega) (by simp; omega) (wr.heap.size + 1) (by simp) ?_; (· (repeat first | refine chg_set ?_ _ _ | refine chg_drewN ?_ _ | refine Only.alloc ?_ _); exact Only.refl _ _); (· exact heap_new_at _ (by simp) _); intro gg cap1 w1 hown1 hgrow _ _; have HN := Lib.hid (HT.out.next (m := s[q + 1]) (k := 2) hbw HLow.out (by omega) (by omega) HTX.out ((((((HT.out.scan.drewN _).setPos (q + 1)).drewN _).setPos (q + 2))).below (bel1 _ _)) (((below_setR (below_drewN (below_setR (below_drewN (Below.refl _ _) _) hbR _) _) hbR _)).alloc (by simp; omega) _) (by simp; omega) hgrow hown1); clear hown1 hgrow)
                  go_roundg (s.size - (q + 2))
                  case measure => omega
                  case rel => exact ⟨_, q + 2, acc ++ [s[q + 1]], rfl, by omega, HN.out⟩
              · have HTX : Hid (txtL (s.data.toList.drop q) = .err 4) := Lib.hid (by
                  have e1 : unOk (s[q + 1].toNat : Int) = false := by unfold unOk; simp; omega
                  rw [HD.out, txtL_cons, if_neg b34, if_pos b92, HD2.out]
                  simp only [e1]
                  rfl)
                have g1 : ((s[q + 1].toNat : Int) == 34) = false := by simp; omega
                have g2 : ((s[q + 1].toNat : Int) == 92) = false := by simp; omega
                clear b34 b92 hend n110 hok
                go_wp2_with fail
                go_quiet (fail)
                go_wp2_with fail
                go_quiet (fail)
                go_wp2_with fail
                go_quiet (fail)
                go_wp2_with fail
                go_quiet (fail)
                go_wp2_with fail
                refine bodyPost_ret (results_none (by rfl) _ _ _) rfl ?_
                exact ⟨rfl, HT.out.err HTX.out (((((HT.out.scan.drewN _).setPos (q + 1)).drewN _).setPos (q + 2)).setE 4).bad (below_setR (below_setR (below_drewN (below_setR (below_drewN (Below.refl _ _) _) hbR _) _) hbR _) hbR _)⟩
        · have g92 : ((s[q].toNat : Int) == 92) = false := by simp; omega
          by_cases hok : 32 ≤ s[q].toNat ∧ s[q].toNat ≤ 126
          · have HTX : Hid (txtL (s.data.toList.drop q) = (txtL (s.data.toList.drop (q + 1))).pre [s[q]] 1) := Lib.hid (by
              rw [HD.out, txtL_cons, if_neg b34, if_neg b92, if_pos]
              by_cases e : s[q].toNat = 32
              · exact .inl e
              · right; unfold plainB; simp; omega)
            have g1 : decide ((s[q].toNat : Int) < 32) = false := by simp; omega
            have g2 : decide ((126 : Int) < (s[q].toNat : Int)) = false := by simp; omega
            clear b34 b92 hok
            go_wp2_with fail
            go_quiet (fail)
            go_wp2_with fail
            go_quiet (fail)
            go_wp2_with (at_builtin; refine wpList_append_lies _ rfl _ _ _ rfl w.heap.size 5 i0 _ 1 1 Tryz.underlying46 hi0 hz0 hz1 hz2 rfl (by omega) iv acc.length (bytesV acc) (by rfl) (HT.out.row hRw ?_) ⟨wr.heap.size, 0, none⟩ 1 1 [.int .u8 (s[q].toNat : Int)] (by rfl) (by rfl) (World.news_of_block (cs := #[.int .u8 (s[q].toNat : Int)]) (t := 5) (fr := (0, 0)) ?_) (by simp [Value.oneCell']) (by omega) (by unfold maxLen; omega) (by omega) (by simp; omega) (wr.heap.size + 1) (by simp) ?_; (· (repeat first | refine chg_set ?_ _ _ | refine chg_drewN ?_ _ | refine Only.alloc ?_ _); exact Only.refl _ _); (· exact heap_new_at _ (by simp) _); intro gg cap1 w1 hown1 hgrow _ _; have HN := Lib.hid (HT.out.next (m := s[q]) (k := 1) hbw HLow.out (by omega) (by omega) HTX.out ((((HT.out.scan.drewN _).setPos (q + 1))).below (bel1 _ _)) (((below_setR (below_drewN (Below.refl _ _) _) hbR _)).alloc (by simp; omega) _) (by simp; omega) hgrow hown1); clear hown1 hgrow)
            go_roundg (s.size - (q + 1))
            case measure => omega
            case rel => exact ⟨_, q + 1, acc ++ [s[q]], rfl, by omega, HN.out⟩
          · have HTX : Hid (txtL (s.data.toList.drop q) = .err 4) := Lib.hid (by
              rw [HD.out, txtL_cons, if_neg b34, if_neg b92, if_neg]
              unfold plainB; simp; omega)
            have hx : decide ((s[q].toNat : Int) < 32) = true ∨ (decide ((s[q].toNat : Int) < 32) = false ∧ decide ((126 : Int) < (s[q].toNat : Int)) = true) := by
              simp only [decide_eq_true_eq, decide_eq_false_iff_not]; omega
            clear b34 b92 hok
            rcases hx with g1 | ⟨g1, g2⟩
            all_goals
              go_wp2_with fail
              go_quiet (fail)
              go_wp2_with fail
              go_quiet (fail)
              go_wp2_with fail
              refine bodyPost_ret (results_none (by rfl) _ _ _) rfl ?_
              exact ⟨rfl, HT.out.err HTX.out (((HT.out.scan.drewN _).setPos (q + 1)).setE 4).bad (below_setR (below_setR (below_drewN (Below.refl _ _) _) hbR _) hbR _)⟩
    · have hd : decide (q < s.size) = false := by simpa using hlt
      have hqs : q = s.size := by omega
      have gqe : ((q : Int) == (s.size : Int)) = true := by simp; omega
      have HTX : Hid (txtL (s.data.toList.drop q) = .err 12) := Lib.hid (by rw [List.drop_of_length_le (by simp; omega)]; rfl)
      clear hqs
      go_wp2_with fail
      go_quiet (fail)
      go_wp2_with fail
      go_quiet (fail)
      go_wp2_with fail
      refine bodyPost_ret (results_none (by rfl) _ _ _) rfl ?_
      exact ⟨rfl, HT.out.err HTX.out ((HT.out.scan.drewN _).setE 12).bad (below_setR (below_drewN (Below.refl _ _) _) hbR _)⟩
end Go.Proofs.YtedabholcldgbaaGreatDoor.Q

/- The order of forms: what the document's own Compare and its callees return. -/
namespace Go.Proofs.YtedabholcldgbaaGreatDoor
open Go.RowKit Go.Deep

theorem sgn_cmpI (a b : Int) : sgn (decide (a < b)) (decide (b < a)) = cmpI a b := by
  simp [sgn, cmpI]
theorem bytes_cmp : ∀ a b : List UInt8, (if Op.bytesLess a b = true then (-1 : Int) else if (!(Op.bytesLess a b || a == b)) = true then 1 else 0) = Lib.compareBytes a b
  | [], [] => by simp [Op.bytesLess, Lib.compareBytes]
  | [], _ :: _ => by simp [Op.bytesLess, Lib.compareBytes]
  | _ :: _, [] => by simp [Op.bytesLess, Lib.compareBytes]
  | a :: as', b :: bs => by
    have ih := bytes_cmp as' bs
    unfold Op.bytesLess Lib.compareBytes
    by_cases h : a < b
    · simp [h]
    · by_cases h' : b < a
      · have hne : ¬ a = b := by intro e; subst e; exact h h'
        simp [h, h', hne]
      · have e : a = b := by
          have h1 : b ≤ a := UInt8.not_lt.1 h
          have h2 : a ≤ b := UInt8.not_lt.1 h'
          exact UInt8.le_antisymm h2 h1
        subst e
        rw [if_neg h, if_neg h, ← ih]
        simp
theorem sgn_str' (s u : ByteArray) : sgn (Op.bytesLess s.toList u.toList) (!Op.bytesLess s.toList u.toList && !s.toList == u.toList) = Lib.compareBytes s.data.toList u.data.toList := by
  rw [← Bool.not_or, sgn, bytes_cmp, Lib.toList_data, Lib.toList_data]
theorem EqUpTo.ends {xs ys : List T} {k : Nat} (h : EqUpTo xs ys k) (h1 : k ≤ xs.length) (h2 : k ≤ ys.length) (he : k = xs.length ∨ k = ys.length) :
    sgn (decide (xs.length < ys.length)) (decide (ys.length < xs.length)) = cmpL (xs.map T.form) (ys.map T.form) := by
  by_cases l : xs.length < ys.length
  · rw [h.less (by omega) (by omega)]; simp [sgn, l]
  · by_cases l' : ys.length < xs.length
    · rw [h.more (by omega) (by omega)]; simp [sgn, l, l']
    · rw [h.same (by omega) (by omega)]; simp [sgn, l, l']

/-- The two boxed forms lie behind what was there. -/
structure Boxes (w : World) (t u : T) (wr : World) : Prop where
  below : Below w.heap.size w wr
  size : w.heap.size + 2 ≤ wr.heap.size
  c1 : wr.cell? ⟨w.heap.size, 3, none⟩ = some (.slice t.ad t.ks.length t.cp)
  c2 : wr.cell? ⟨w.heap.size + 1, 3, none⟩ = some (.slice u.ad u.ks.length u.cp)
theorem Boxes.next {w wr w' : World} {t u : T} (h : Boxes w t u wr) (hb : Below wr.heap.size wr w') : Boxes w t u w' :=
  ⟨upB h.below hb (Nat.le_refl _), Nat.le_trans h.size hb.size, (hb.cell (p := ⟨w.heap.size, 3, none⟩) (by have := h.size; show w.heap.size < _; omega)).trans h.c1,
    (hb.cell (p := ⟨w.heap.size + 1, 3, none⟩) (by have := h.size; show w.heap.size + 1 < _; omega)).trans h.c2⟩
theorem Boxes.start (w : World) (t u : T) : Boxes w t u ((w.alloc (.cells t.val.cells 29)).alloc (.cells u.val.cells 29)) :=
  ⟨bel2 _ _ _, by simp, by simp [Value.cells], by simp [Value.cells]⟩
theorem Boxes.drew {w wr : World} {t u : T} (h : Boxes w t u wr) : Boxes w t u wr.drew := h.next (Below.refl _ _).drew

set_option maxHeartbeats 1000000 in
set_option maxRecDepth 100000 in
/-- The document's own Compare. -/
theorem rcompare_any (n : Nat) : ∀ t u : T, SizeOf.sizeOf t < n → ∀ w, In w t → In w u →
    Calls Tryz.prog 39 #[t.val, u.val] w fun e w' => e = .returned (.int .i64 (cmpF t.form u.form)) ∧ Below w.heap.size w w' := by
  induction n with
  | zero => intro t u h; omega
  | succ n ih =>
    intro t u hn w h1 h2
    have HE := cmpT_eq t u
    by_cases hc : cmpI t.kd u.kd = 0
    · rw [if_neg (by simpa using hc)] at HE
      have hk : (t.kd != u.kd) = false := by
        have : t.kd = u.kd := by unfold cmpI at hc; split at hc; · omega
                                 · split at hc <;> omega
        simpa using this
      clear hc
      by_cases k0 : t.kd = 0
      · rw [if_pos k0] at HE
        rw [HE]
        have b0 : (t.kd == 0) = true := by simpa using k0
        clear HE k0
        go_enter Tryz.func39, Tryz.ntmps39
        go_wp2_with (go_at_call 68; refine (sign_any _ _ _).mono ?_; rintro e w2 ⟨rfl, rfl⟩)
        go_ret
        exact ⟨ret_int (sgn_cmpI _ _), bel2 _ _ _⟩
      · rw [if_neg k0] at HE
        have b0 : (t.kd == 0) = false := by simpa using k0
        by_cases k1 : t.kd = 1
        · rw [if_pos (.inl k1)] at HE
          rw [HE]
          have b1 : (t.kd == 1) = true := by simpa using k1
          clear HE k1 k0
          go_enter Tryz.func39, Tryz.ntmps39
          go_wp2_with (go_at_call 68; refine (sign_any _ _ _).mono ?_; rintro e w2 ⟨rfl, rfl⟩)
          go_ret
          exact ⟨ret_int (sgn_str' _ _), bel2 _ _ _⟩
        · have b1 : (t.kd == 1) = false := by simpa using k1
          by_cases k2 : t.kd = 2
          · rw [if_pos (.inr k2)] at HE
            rw [HE]
            have b2 : (t.kd == 2) = true := by simpa using k2
            clear HE k1 k0 k2
            go_enter Tryz.func39, Tryz.ntmps39
            go_wp2_with (go_at_call 68; refine (sign_any _ _ _).mono ?_; rintro e w2 ⟨rfl, rfl⟩)
            go_ret
            exact ⟨ret_int (sgn_str' _ _), bel2 _ _ _⟩
          · rw [if_neg (by omega)] at HE
            have b2 : (t.kd == 2) = false := by simpa using k2
            by_cases k3 : t.kd = 3
            · rw [if_pos k3] at HE
              rw [HE]
              have b3 : (t.kd == 3) = true := by simpa using k3
              clear HE k1 k0 k2 k3
              go_enter Tryz.func39, Tryz.ntmps39
              have n1 := Nat.le_trans h1.ok.le h1.ok.cp
              have n2 := Nat.le_trans h2.ok.le h2.ok.cp
              unfold maxLen at n1 n2
              have IH := Lib.hid ih
              clear ih
              go_wp2_with fail
              go_loopg [5] (t.ks.length) (fun m i wr => ∃ k : Nat, k ≤ t.ks.length ∧ k ≤ u.ks.length ∧ m = t.ks.length - k ∧ i = .int .i64 k ∧ EqUpTo t.ks u.ks k ∧ Boxes w t u wr)
              case atStart => exact ⟨0, by omega, by omega, rfl, rfl, fun i _ _ h => absurd h (by omega), Boxes.start w t u⟩
              case round =>
                obtain ⟨k, hk1, hk2, rfl, rfl, hE, hB⟩ := hrel
                have c1 := hB.c1
                have c2 := hB.c2
                by_cases hlt : k < t.ks.length
                · by_cases hlt2 : k < u.ks.length
                  · obtain ⟨⟨b, o, ha, hx0, hx1, hx2, hx3⟩, hin1⟩ := (h1.inL.below hB.below).at k hlt
                    obtain ⟨⟨b', o', ha', hy0, hy1, hy2, hy3⟩, hin2⟩ := (h2.inL.below hB.below).at k hlt2
                    rw [ha] at c1
                    rw [ha'] at c2
                    clear ha ha'
                    have HC := Lib.hid (IH.out t.ks[k] u.ks[k] (by have := T.kid_lt (List.getElem_mem hlt); omega))
                    by_cases hz : cmpF t.ks[k].form u.ks[k].form = 0
                    · rw [hz] at HC
                      have HZ := Lib.hid hz
                      clear hz
                      go_wp2_with fail
                      go_still_tail 10, (by kernel_rfl)
                      change wpList _ _ _ _ _ wr.drew
                      go_wp2_with (go_at_call 39; refine (HC.out _ hin1.drew hin2.drew).mono ?_; rintro e w2 ⟨rfl, hBn⟩)
                      go_roundg (t.ks.length - (k + 1))
                      case measure => omega
                      case rel => exact ⟨k + 1, by omega, by omega, rfl, by go_num, hE.step hlt hlt2 HZ.out, hB.drew.next hBn⟩
                    · have HP := Lib.hid (hE.part hlt hlt2 hz)
                      have hz' : (cmpF t.ks[k].form u.ks[k].form != 0) = true := by simpa using hz
                      clear hz
                      go_wp2_with fail
                      go_still_tail 10, (by kernel_rfl)
                      change wpList _ _ _ _ _ wr.drew
                      go_wp2_with (go_at_call 39; refine (HC.out _ hin1.drew hin2.drew).mono ?_; rintro e w2 ⟨rfl, hBn⟩)
                      go_ret
                      exact ⟨ret_int HP.out.symm, (hB.drew.next hBn).below⟩
                  · have HP := Lib.hid (hE.ends hk1 hk2 (.inr (by omega)))
                    go_wp2_with (go_at_call 68; refine (sign_any _ _ _).mono ?_; rintro e w2 ⟨rfl, rfl⟩)
                    go_ret
                    exact ⟨ret_int HP.out, hB.below⟩
                · have HP := Lib.hid (hE.ends hk1 hk2 (.inl (by omega)))
                  go_wp2_with (go_at_call 68; refine (sign_any _ _ _).mono ?_; rintro e w2 ⟨rfl, rfl⟩)
                  go_ret
                  exact ⟨ret_int HP.out, hB.below⟩
            · rw [if_neg k3] at HE
              rw [HE]
              have b3 : (t.kd == 3) = false := by simpa using k3
              clear HE k1 k0 k2 k3
              go_enter Tryz.func39, Tryz.ntmps39
              go_wp2_with fail
              go_ret
              exact ⟨rfl, bel2 _ _ _⟩
    · rw [if_pos hc] at HE
      rw [HE]
      have hk : (t.kd != u.kd) = true := by
        have : t.kd ≠ u.kd := by intro e; exact hc (by unfold cmpI; rw [if_neg (by omega), if_neg (by omega)])
        simpa using this
      clear hc HE
      go_enter Tryz.func39, Tryz.ntmps39
      go_wp2_with (go_at_call 68; refine (sign_any _ _ _).mono ?_; rintro e w2 ⟨rfl, rfl⟩)
      go_ret
      exact ⟨ret_int (sgn_cmpI _ _), bel2 _ _ _⟩
theorem rcompare_T (t u : T) (w : World) (h1 : In w t) (h2 : In w u) :
    Calls Tryz.prog 39 #[t.val, u.val] w fun e w' => e = .returned (.int .i64 (cmpF t.form u.form)) ∧ Below w.heap.size w w' :=
  rcompare_any _ t u (Nat.lt_succ_self _) w h1 h2
theorem requal_T (t u : T) (w : World) (h1 : In w t) (h2 : In w u) :
    Calls Tryz.prog 28 #[t.val, u.val] w fun e w' => e = .returned (.bool (cmpF t.form u.form == 0)) ∧ Below w.heap.size w w' := by
  go_enter Tryz.func28, Tryz.ntmps28
  go_wp2_with (go_at_call 39; refine (rcompare_T _ _ _ ((h1.alloc _).alloc _) ((h2.alloc _).alloc _)).mono ?_; rintro e w2 ⟨rfl, hB⟩)
  go_ret
  exact ⟨rfl, up (bel2 _ _ _) hB⟩
end Go.Proofs.YtedabholcldgbaaGreatDoor

/- The order of forms is one. Plain. -/
namespace Go.Proofs.YtedabholcldgbaaGreatDoor
open Go.RowKit

def Rng (p : Int) : Prop := p = -1 ∨ p = 0 ∨ p = 1
def Tri (p q r : Int) : Prop := (p = 0 → r = q) ∧ (q = 0 → r = p) ∧ (p = -1 → q = -1 → r = -1) ∧ (p = 1 → q = 1 → r = 1)
def lex (p q : Int) : Int := if p ≠ 0 then p else q
theorem Rng.lex {p q : Int} (h : Rng p) (h' : p = 0 → Rng q) : Rng (lex p q) := by
  unfold Go.Proofs.YtedabholcldgbaaGreatDoor.lex; split
  · exact h
  · rename_i e; exact h' (by simpa using e)
theorem Tri.lex {p q r p' q' r' : Int} (hp : Rng p) (hq : Rng q) (h : Tri p q r) (h' : p = 0 → q = 0 → Tri p' q' r') : Tri (lex p p') (lex q q') (lex r r') := by
  unfold Go.Proofs.YtedabholcldgbaaGreatDoor.lex Tri Rng at *
  obtain ⟨h1, h2, h3, h4⟩ := h
  rcases hp with rfl | rfl | rfl
  · rcases hq with rfl | rfl | rfl
    · have := h3 rfl rfl; subst this; simp
    · have := h2 rfl; subst this; simp
    · simp
  · have := h1 rfl; subst this
    rcases hq with rfl | rfl | rfl
    · simp
    · simpa using h' rfl rfl
    · simp
  · rcases hq with rfl | rfl | rfl
    · simp
    · have := h2 rfl; subst this; simp
    · have := h4 rfl rfl; subst this; simp

theorem cmpI_rng (a b : Int) : Rng (cmpI a b) := by unfold cmpI Rng; split; · exact .inl rfl
                                                    · split; · exact .inr (.inr rfl)
                                                      · exact .inr (.inl rfl)
theorem cmpI_anti (a b : Int) : cmpI a b = -cmpI b a := by unfold cmpI; split <;> split <;> first | rfl | (split <;> first | rfl | omega) | omega
theorem cmpI_tri (a b c : Int) : Tri (cmpI a b) (cmpI b c) (cmpI a c) := by
  unfold Tri cmpI
  refine ⟨fun h => ?_, fun h => ?_, fun h h' => ?_, fun h h' => ?_⟩ <;> (repeat' split at *) <;> omega
theorem cmpI_zero {a b : Int} (h : cmpI a b = 0) : a = b := by unfold cmpI at h; split at h; · omega
                                                               · split at h <;> omega
theorem cmpI_self (a : Int) : cmpI a a = 0 := by unfold cmpI; rw [if_neg (by omega), if_neg (by omega)]

theorem bytes_eq (a b : UInt8) (x y : List UInt8) : Lib.compareBytes (a :: x) (b :: y) = lex (cmpI a.toNat b.toNat) (Lib.compareBytes x y) := by
  unfold Lib.compareBytes lex cmpI
  simp only [UInt8.lt_iff_toNat_lt, Int.ofNat_lt]
  by_cases h : a.toNat < b.toNat
  · simp [h]
  · by_cases h' : b.toNat < a.toNat
    · simp [h, h']
    · simp [h, h']
      cases x <;> cases y <;> simp [Lib.compareBytes, UInt8.lt_iff_toNat_lt]
theorem bytes_rng : ∀ x y : List UInt8, Rng (Lib.compareBytes x y)
  | [], [] => .inr (.inl rfl)
  | [], _ :: _ => .inl rfl
  | _ :: _, [] => .inr (.inr rfl)
  | a :: x, b :: y => by rw [bytes_eq]; exact (cmpI_rng _ _).lex fun _ => bytes_rng x y
theorem lex_neg (p q : Int) : -lex p q = lex (-p) (-q) := by unfold lex; by_cases h : p = 0 <;> simp [h]
theorem bytes_anti : ∀ x y : List UInt8, Lib.compareBytes x y = -Lib.compareBytes y x
  | [], [] => rfl
  | [], _ :: _ => rfl
  | _ :: _, [] => rfl
  | a :: x, b :: y => by rw [bytes_eq, bytes_eq, lex_neg, ← cmpI_anti, ← bytes_anti x y]
theorem bytes_tri : ∀ x y z : List UInt8, Tri (Lib.compareBytes x y) (Lib.compareBytes y z) (Lib.compareBytes x z)
  | [], [], _ => by simp [Tri, Lib.compareBytes]
  | [], _ :: _, [] => by simp [Tri, Lib.compareBytes]
  | [], _ :: _, _ :: _ => by simp [Tri, Lib.compareBytes]
  | _ :: _, [], [] => by simp [Tri, Lib.compareBytes]
  | _ :: _, [], _ :: _ => by simp [Tri, Lib.compareBytes]
  | _ :: _, _ :: _, [] => by simp [Tri, Lib.compareBytes]
  | a :: x, b :: y, c :: z => by
    rw [bytes_eq, bytes_eq, bytes_eq]
    exact (cmpI_tri _ _ _).lex (cmpI_rng _ _) (cmpI_rng _ _) fun _ _ => bytes_tri x y z
theorem bytes_self : ∀ x : List UInt8, Lib.compareBytes x x = 0
  | [] => rfl
  | a :: x => by rw [bytes_eq, cmpI_self, bytes_self x]; rfl

/-- Behind the Kind. -/
def cmpB (a b : Fm) : Int := if a.kd = 0 then cmpI a.nn b.nn else if a.kd = 1 ∨ a.kd = 2 then Lib.compareBytes a.tx.data.toList b.tx.data.toList else if a.kd = 3 then cmpL a.ks b.ks else 0
theorem cmpF_lex (a b : Fm) : cmpF a b = lex (cmpI a.kd b.kd) (cmpB a b) := by rw [cmpF_eq]; rfl
theorem cmpL_lex (a b : Fm) (x y : List Fm) : cmpL (a :: x) (b :: y) = lex (cmpF a b) (cmpL x y) := by rw [cmpL]; rfl

theorem cmpL_rng (x : List Fm) : ∀ y : List Fm, (∀ a ∈ x, ∀ b, Rng (cmpF a b)) → Rng (cmpL x y) := by
  induction x with
  | nil => intro y _; cases y <;> simp [cmpL, Rng]
  | cons a x ih =>
    intro y h
    cases y with
    | nil => simp [cmpL, Rng]
    | cons b y => rw [cmpL_lex]; exact (h a (by simp) b).lex fun _ => ih y fun a' ha => h a' (by simp [ha])
theorem cmpF_rng' (n : Nat) : ∀ a : Fm, SizeOf.sizeOf a < n → ∀ b, Rng (cmpF a b) := by
  induction n with
  | zero => intro a h; omega
  | succ n ih =>
    intro a h b
    rw [cmpF_lex]
    refine (cmpI_rng _ _).lex fun _ => ?_
    unfold cmpB
    split
    · exact cmpI_rng _ _
    · split
      · exact bytes_rng _ _
      · split
        · exact cmpL_rng _ _ fun a' ha b' => ih a' (by have := Fm.kid_lt ha; omega) b'
        · exact .inr (.inl rfl)
theorem cmpF_rng (a b : Fm) : Rng (cmpF a b) := cmpF_rng' _ a (Nat.lt_succ_self _) b

theorem cmpL_anti (x : List Fm) : ∀ y : List Fm, (∀ a ∈ x, ∀ b, cmpF a b = -cmpF b a) → cmpL x y = -cmpL y x := by
  induction x with
  | nil => intro y _; cases y <;> simp [cmpL]
  | cons a x ih =>
    intro y h
    cases y with
    | nil => simp [cmpL]
    | cons b y => rw [cmpL_lex, cmpL_lex, lex_neg, ← h a (by simp) b, ← ih y fun a' ha => h a' (by simp [ha])]
theorem cmpF_anti' (n : Nat) : ∀ a : Fm, SizeOf.sizeOf a < n → ∀ b, cmpF a b = -cmpF b a := by
  induction n with
  | zero => intro a h; omega
  | succ n ih =>
    intro a h b
    rw [cmpF_lex, cmpF_lex, lex_neg, ← cmpI_anti]
    by_cases hk : cmpI a.kd b.kd = 0
    · have hk' := cmpI_zero hk
      unfold lex
      rw [if_neg (by simpa using hk), if_neg (by simpa using hk)]
      unfold cmpB
      rw [← hk']
      split
      · exact cmpI_anti _ _
      · split
        · exact bytes_anti _ _
        · split
          · exact cmpL_anti _ _ fun a' ha b' => ih a' (by have := Fm.kid_lt ha; omega) b'
          · rfl
    · unfold lex
      rw [if_pos hk, if_pos hk]
theorem cmpF_anti (a b : Fm) : cmpF a b = -cmpF b a := cmpF_anti' _ a (Nat.lt_succ_self _) b

theorem cmpL_tri (x : List Fm) : ∀ y z : List Fm, (∀ a ∈ x, ∀ b c, Tri (cmpF a b) (cmpF b c) (cmpF a c)) → Tri (cmpL x y) (cmpL y z) (cmpL x z) := by
  induction x with
  | nil =>
    intro y z _
    cases y <;> cases z <;> simp [cmpL, Tri]
  | cons a x ih =>
    intro y z h
    cases y with
    | nil => cases z <;> simp [cmpL, Tri]
    | cons b y =>
      cases z with
      | nil => simp [cmpL, Tri]
      | cons c z =>
        rw [cmpL_lex, cmpL_lex, cmpL_lex]
        exact (h a (by simp) b c).lex (cmpF_rng _ _) (cmpF_rng _ _) fun _ _ => ih y z fun a' ha => h a' (by simp [ha])
theorem cmpF_tri' (n : Nat) : ∀ a : Fm, SizeOf.sizeOf a < n → ∀ b c, Tri (cmpF a b) (cmpF b c) (cmpF a c) := by
  induction n with
  | zero => intro a h; omega
  | succ n ih =>
    intro a h b c
    rw [cmpF_lex, cmpF_lex, cmpF_lex]
    refine (cmpI_tri _ _ _).lex (cmpI_rng _ _) (cmpI_rng _ _) fun e1 e2 => ?_
    have h1 := cmpI_zero e1
    unfold cmpB
    rw [← h1]
    split
    · exact cmpI_tri _ _ _
    · split
      · exact bytes_tri _ _ _
      · split
        · exact cmpL_tri _ _ _ fun a' ha b' c' => ih a' (by have := Fm.kid_lt ha; omega) b' c'
        · simp [Tri]
theorem cmpF_tri (a b c : Fm) : Tri (cmpF a b) (cmpF b c) (cmpF a c) := cmpF_tri' _ a (Nat.lt_succ_self _) b c
theorem cmpF_le {a b c : Fm} (h : cmpF a b ≤ 0) (h' : cmpF b c ≤ 0) : ¬ 0 < cmpF a c := by
  have h1 := cmpF_tri a b c
  have h2 := cmpF_rng a b
  have h3 := cmpF_rng b c
  unfold Tri Rng at *
  obtain ⟨a1, a2, a3, a4⟩ := h1
  rcases h2 with e | e | e
  · rcases h3 with e' | e' | e'
    · have := a3 e e'; omega
    · have := a2 e'; omega
    · omega
  · have := a1 e; omega
  · omega
theorem cmpF_self' (n : Nat) : ∀ a : Fm, SizeOf.sizeOf a < n → cmpF a a = 0 := by
  induction n with
  | zero => intro a h; omega
  | succ n ih =>
    intro a h
    rw [cmpF_lex, cmpI_self]
    show cmpB a a = 0
    have hl : ∀ x : List Fm, (∀ b ∈ x, cmpF b b = 0) → cmpL x x = 0 := by
      intro x
      induction x with
      | nil => intro _; simp [cmpL]
      | cons b x ihx => intro hb; rw [cmpL_lex, hb b (by simp), ihx fun c hc => hb c (by simp [hc])]; rfl
    unfold cmpB
    split
    · exact cmpI_self _
    · split
      · exact bytes_self _
      · split
        · exact hl _ fun b hb => ih b (by have := Fm.kid_lt hb; omega)
        · rfl
theorem cmpF_self (a : Fm) : cmpF a a = 0 := cmpF_self' _ a (Nat.lt_succ_self _)
theorem cmpL_self : ∀ x : List Fm, cmpL x x = 0
  | [] => by simp [cmpL]
  | b :: x => by rw [cmpL_lex, cmpF_self, cmpL_self x]; rfl
end Go.Proofs.YtedabholcldgbaaGreatDoor

/- The laws' all: lists of forms that are the same. -/
namespace Go.Proofs.YtedabholcldgbaaGreatDoor
open Go.RowKit Go.Deep

/-- A list of forms as a form. -/
abbrev T.list (va : Option Addr) (vc : Nat) (ts : List T) : T := .mk 3 0 ⟨#[]⟩ va vc ts
theorem list_in {w : World} {va : Option Addr} {vc : Nat} {ts : List T} (h : InL w va 0 ts) (hl : ts.length ≤ vc) (hc : vc ≤ maxLen) : In w (T.list va vc ts) :=
  In.mk ⟨by simp [T.kd, I64], by simp [T.nn, I64], Nat.zero_le _, by simpa [T.ks, T.cp] using hl, by simpa [T.cp] using hc⟩ (by simpa [T.ad, T.ks] using h)
theorem rlist_any (va : Option Addr) (vc : Nat) (ts : List T) (w : World) :
    Calls Tryz.prog 63 #[.slice va ts.length vc] w fun e w' => e = .returned (T.list va vc ts).val ∧ Below w.heap.size w w' := by
  go_enter Tryz.func63, Tryz.ntmps63
  go_wp2_with fail
  refine bodyPost_ret (v := .agg #[.int .i64 3, .int .i64 0, .string ⟨#[]⟩, .slice va ts.length vc]) (by simp [results, Tryz.results63, go_sem]) rfl ?_
  refine ⟨by simp [T.val, T.kd, T.nn, T.tx, T.ad, T.cp, T.ks], ?_⟩
  first
    | exact bel1 _ _
    | exact below_lay4 (bel1 _ _) (Nat.le_refl _) _ _ _ _
theorem requalAll_any (va vb : Option Addr) (vc vd : Nat) (ts us : List T) (w : World) (h1 : In w (T.list va vc ts)) (h2 : In w (T.list vb vd us)) (he : ts.map T.form = us.map T.form) :
    Calls Tryz.prog 33 #[.slice va ts.length vc, .slice vb us.length vd] w fun e w' => e = .returned (.bool true) ∧ Below w.heap.size w w' := by
  have H1 := Lib.hid fun W => rlist_any va vc ts W
  have H2 := Lib.hid fun W => rlist_any vb vd us W
  have hf : (T.list va vc ts).form = (T.list vb vd us).form := by simp only [T.form, T.forms_map, he]
  have HE := Lib.hid fun W (g1 : In W (T.list va vc ts)) (g2 : In W (T.list vb vd us)) => (requal_T _ _ W g1 g2).mono fun e w' hh => (by rw [hf, cmpF_self] at hh; exact hh : e = .returned (.bool true) ∧ Below W.heap.size W w')
  have HI1 := Lib.hid h1
  have HI2 := Lib.hid h2
  clear h1 h2 he hf
  go_enter Tryz.func33, Tryz.ntmps33
  go_wp2_with (first
    | (go_at_call 63; with_reducible refine (H1.out w).mono ?_; rintro e w2 ⟨rfl, hB⟩; have HB := Lib.hid hB; clear hB)
    | (go_at_call 63; with_reducible refine (H2.out _).mono ?_; rintro e w3 ⟨rfl, hB⟩; have HB3 := Lib.hid (up HB.out hB); clear hB)
    | (go_at_call 28; refine (HE.out _ (HI1.out.below HB3.out) (HI2.out.below HB3.out)).mono ?_; rintro e w4 ⟨rfl, hB⟩; have HB4 := Lib.hid (up HB3.out hB); clear hB))
  go_ret
  exact ⟨rfl, HB4.out⟩
theorem same_any (va vb : Option Addr) (vc vd : Nat) (ts us : List T) (w : World) (h1 : In w (T.list va vc ts)) (h2 : In w (T.list vb vd us)) (he : ts.map T.form = us.map T.form) :
    Calls Tryz.prog 12 #[.slice va ts.length vc, .slice vb us.length vd] w fun e w' => e = .returned (.bool true) ∧ Below w.heap.size w w' := by
  have HE := Lib.hid (requalAll_any va vb vc vd ts us w h1 h2 he)
  have hl : ts.length = us.length := by have := congrArg List.length he; simpa using this
  have n1 : ts.length ≤ maxLen := Nat.le_trans h1.ok.le h1.ok.cp
  unfold maxLen at n1
  rw [hl] at HE n1 ⊢
  clear h1 h2 he hl
  go_enter Tryz.func12, Tryz.ntmps12
  go_wp2_with (go_at_call 33; refine HE.out.mono ?_; rintro e w2 ⟨rfl, hB⟩; have HB := Lib.hid hB; clear hB)
  go_ret
  exact ⟨rfl, HB.out⟩
end Go.Proofs.YtedabholcldgbaaGreatDoor

/- The document's own reader's step: the walk. -/
namespace Go.Proofs.YtedabholcldgbaaGreatDoor.Q
open Go.RowKit Go.Deep

/-- The reader in memory, as plain data. -/
def State (base : Nat) (w : World) (R : Nat) (s : ByteArray) (pos : Nat) (O : List (List Fm)) (top : List Fm) (near : Bool) : Prop :=
  ∃ (ov : Value) (L : List Lv) (v : Value) (ts : List T), Scan base w R s pos ov (L ++ [(v, ts)]) (near, 0) ∧ (L.map fun p => p.2.map T.form) = O ∧ ts.map T.form = top
/-- How a step ends. -/
def StepQ (base : Nat) (w w' : World) (R : Nat) (s : ByteArray) (r : SR) : Prop :=
  match r with
  | .err c => Bad w' R s c ∧ Below base w w'
  | .ok q O top t => State base w' R s q O top t ∧ Below base w w'
theorem txt_step {base : Nat} {w w1 w' : World} {R : Nat} {s : ByteArray} {pos : Nat} {ov : Value} {L : List Lv} {ts : List T} (hR : base ≤ R) (hb : Below base w w1) (h : TxtQ base w1 w' R s pos ov L ts false) :
    StepQ base w (w'.setCell ⟨R, 3, none⟩ (.bool true)) R s (textS s pos (L.map fun p => p.2.map T.form) (ts.map T.form)) := by
  unfold TxtQ at h
  unfold StepQ textS
  cases ht : txtL (s.data.toList.drop (pos + 1)) with
  | err c =>
    rw [ht] at h
    exact ⟨h.1.near true, below_setR (hb.trans h.2) hR _⟩
  | done bs n =>
    rw [ht] at h
    simp only at h ⊢
    by_cases hd : 2000 < (⟨bs.toArray⟩ : ByteArray).size
    · rw [if_pos hd] at h ⊢
      exact ⟨h.1.near true, below_setR (hb.trans h.2) hR _⟩
    · rw [if_neg hd] at h ⊢
      obtain ⟨hB, v', hS⟩ := h
      exact ⟨⟨ov, L, v', _, hS.setTight true, rfl, by simp [leaf_form]⟩, below_setR (hb.trans hB) hR _⟩
theorem tok_step {base : Nat} {w w1 w' : World} {R : Nat} {s : ByteArray} {pos : Nat} {ov : Value} {L : List Lv} {ts : List T} (hR : base ≤ R) (hb : Below base w w1) (h : TokQ base w1 w' R s pos ov L ts false) :
    StepQ base w (w'.setCell ⟨R, 3, none⟩ (.bool true)) R s (tokS s pos (L.map fun p => p.2.map T.form) (ts.map T.form)) := by
  unfold TokQ at h
  unfold StepQ tokS
  cases ht : tokenR (spanB tokB s pos) with
  | err c =>
    rw [ht] at h
    exact ⟨h.1.near true, below_setR (hb.trans h.2) hR _⟩
  | form k n t =>
    rw [ht] at h
    obtain ⟨hB, v', hS⟩ := h
    exact ⟨⟨ov, L, v', _, hS.setTight true, rfl, by simp [leaf_form]⟩, below_setR (hb.trans hB) hR _⟩
theorem close_step {base : Nat} {w w1 w' : World} {R : Nat} {s : ByteArray} {pos : Nat} {ov : Value} {L : List Lv} {v0 : Value} {ts0 ts : List T} {va : Option Addr} {vc : Nat} (hb : Below base w w1) (h : Added base w1 w' R s (pos + 1) ov L (ts0 ++ [T.mk 3 0 ⟨#[]⟩ va vc ts]) (false, 0)) :
    StepQ base w w' R s (closeS pos ((L ++ [(v0, ts0)]).map fun p => p.2.map T.form) (ts.map T.form)) := by
  obtain ⟨hB, v', hS⟩ := h
  unfold closeS
  simp only [List.map_append, List.map_cons, List.map_nil, List.getLast?_append, List.getLast?_singleton, Option.some_or, List.dropLast_concat]
  refine ⟨⟨ov, L, v', _, hS, rfl, ?_⟩, hb.trans hB⟩
  simp [T.form, T.forms_map]
/-- The innermost level goes, behind what was made since. -/
theorem Scan.popIn {base : Nat} {W : World} {R : Nat} {s : ByteArray} {pos g cap : Nat} {L : List Lv} {tight : Bool × Int} {va : Option Addr} {vc : Nat} {ts : List T} (h : Scan base W R s pos (.slice (some ⟨g, 0, none⟩) (L.length + 1) cap) (L ++ [(.slice va ts.length vc, ts)]) tight) (hlen : ts.length ≤ 1000000) :
    Scan base (W.setCell ⟨R, 2, none⟩ (.slice (some ⟨g, 0, none⟩) L.length cap)) R s pos (.slice (some ⟨g, 0, none⟩) L.length cap) L tight ∧ In (W.setCell ⟨R, 2, none⟩ (.slice (some ⟨g, 0, none⟩) L.length cap)) (T.mk 3 0 ⟨#[]⟩ va vc ts) ∧
      (∀ b, On (T.mk 3 0 ⟨#[]⟩ va vc ts) b → b ∉ live R (.slice (some ⟨g, 0, none⟩) L.length cap) L) ∧ (∀ b, On (T.mk 3 0 ⟨#[]⟩ va vc ts) b → base ≤ b) := by
  obtain ⟨h1, h2, h3, h4⟩ := h.pop hlen
  exact ⟨h1, h2.same _ (Nat.lt_succ_self _) fun b hb => Below.heap_setCell _ _ _ _ (fun e => h3 b hb (by rw [e]; simp [live])), h3, h4⟩
theorem Bad.cell {w : World} {R : Nat} {s : ByteArray} {c : Int} (h : Bad w R s c) : ∃ n, w.cell? ⟨R, 3, none⟩ = some (.bool n) ∧ w.frozen? ⟨R, 3, none⟩ = false := by
  obtain ⟨a, o, n, h⟩ := h
  exact ⟨n, by simp [World.cell?, h], by simp [World.frozen?, h]⟩
theorem Added.cell {base : Nat} {w w' : World} {R : Nat} {s : ByteArray} {pos : Nat} {ov : Value} {L : List Lv} {ts : List T} {tt : Bool × Int} (h : Added base w w' R s pos ov L ts tt) : ∃ n, w'.cell? ⟨R, 3, none⟩ = some (.bool n) ∧ w'.frozen? ⟨R, 3, none⟩ = false := by
  obtain ⟨_, v', hS⟩ := h
  obtain ⟨_, _, _, c3, _, _, _, f3, _⟩ := hS.cells
  exact ⟨_, c3, f3⟩
theorem TxtQ.cell {base : Nat} {w w' : World} {R : Nat} {s : ByteArray} {pos : Nat} {ov : Value} {L : List Lv} {ts : List T} {nb : Bool} (h : TxtQ base w w' R s pos ov L ts nb) : ∃ n, w'.cell? ⟨R, 3, none⟩ = some (.bool n) ∧ w'.frozen? ⟨R, 3, none⟩ = false := by
  unfold TxtQ at h
  split at h
  · exact h.1.cell
  · split at h
    · exact h.1.cell
    · exact h.cell
theorem TokQ.cell {base : Nat} {w w' : World} {R : Nat} {s : ByteArray} {pos : Nat} {ov : Value} {L : List Lv} {ts : List T} {nb : Bool} (h : TokQ base w w' R s pos ov L ts nb) : ∃ n, w'.cell? ⟨R, 3, none⟩ = some (.bool n) ∧ w'.frozen? ⟨R, 3, none⟩ = false := by
  unfold TokQ at h
  split at h
  · exact h.1.cell
  · exact h.cell
end Go.Proofs.YtedabholcldgbaaGreatDoor.Q

/- The document's own reader's step: the walk. -/
namespace Go.Proofs.YtedabholcldgbaaGreatDoor.Q
open Go.RowKit Go.Deep

set_option linter.unusedSimpArgs false in
set_option maxHeartbeats 8000000 in
set_option maxRecDepth 100000 in
theorem step_any (base : Nat) (w : World) (R : Nat) (s : ByteArray) (pos : Nat) (O : List (List Fm)) (top : List Fm) (near : Bool) (hpos : pos < s.size)
    (hS : State base w R s pos O top near) (hs : s.size ≤ 60000) (h1 : O.length ≤ 60000) (h2 : top.length ≤ 60000) (h3 : ∀ l ∈ O, l.length ≤ 60000) :
    Calls Tryz.prog 84 #[.pointer (some ⟨R, 0, none⟩)] w fun e w' => e = .returned (.tuple #[]) ∧ StepQ base w w' R s (stepS s pos s[pos].toNat O top near) := by
  obtain ⟨ov, L, v, ts, hSc, hO, htop⟩ := hS
  have hLl : L.length ≤ 60000 := by rw [← hO] at h1; simpa using h1
  have htl : ts.length ≤ 60000 := by rw [← htop] at h2; simpa using h2
  obtain ⟨c0, c1, c2, c3, c4, f1, f2, f3, f4⟩ := hSc.cells
  have H := Lib.hid hSc
  have hbR := hSc.hR
  have hbw := hSc.hw
  have hRw := lt_of_block hSc.blk
  have hq2 : (0 : Int) ≤ (pos : Int) := by omega
  have hq3 : (pos : Int) < (s.size : Int) := by omega
  obtain ⟨r, hr⟩ : ∃ r, stepS s pos s[pos].toNat O top near = r := ⟨_, rfl⟩
  rw [hr]
  have HO := Lib.hid hO
  have HTop := Lib.hid htop
  have HVI := Lib.hid (visible_ok (s[pos].toNat : Int))
  clear hSc hO htop
  by_cases b59 : s[pos].toNat = 59
  · have HR1 : Hid (SR.ok (pos + (spanL nnlB (s.data.toList.drop pos)).length) O top false = r) := Lib.hid (by rw [← hr, stepS, if_pos b59])
    have g1 : ((s[pos].toNat : Int) == 32) = false := by simp; omega
    have g2 : ((s[pos].toNat : Int) == 9) = false := by simp; omega
    have g3 : ((s[pos].toNat : Int) == 10) = false := by simp; omega
    have g4 : ((s[pos].toNat : Int) == 59) = true := by simp; omega
    clear hr b59 h3
    go_enter Tryz.func84, Tryz.ntmps84
    go_wp2_with fail
    go_quiet (fail)
    go_wp2_with fail
    go_loopg [] (s.size - pos) (fun m wr => ∃ q : Nat, m = s.size - q ∧ Held nnlB s pos q ∧ Scan base wr R s q ov (L ++ [(v, ts)]) (false, 0) ∧ Below base w wr)
    case atStart => exact ⟨pos, rfl, ⟨Nat.le_refl _, by omega, fun j _ h1 h2 => absurd h1 (by omega)⟩, (H.out.drewN _).setTight false, below_setR (below_drewN (Below.refl _ _) _) hbR _⟩
    case round =>
      obtain ⟨q, rfl, hh, hS, hB⟩ := hrel
      obtain ⟨c0, c1, c2, c3, c4, f1, f2, f3, f4⟩ := hS.cells
      have HS := Lib.hid hS
      have HB := Lib.hid hB
      have HH := Lib.hid hh
      have hq1 := hh.1
      have hq2 := hh.2.1
      have hq4 : (0 : Int) ≤ (q : Int) := by omega
      clear hS hB hh c2 c3 f2 f3
      by_cases hlt : q < s.size
      · have hq5 : (q : Int) < (s.size : Int) := by omega
        have hdq : decide (q < s.size) = true := by simpa using hlt
        cases hp : nnlB (s[q].toNat : Int) with
        | true =>
          have HST := Lib.hid (HH.out.step hlt hp)
          have g10 : ((s[q].toNat : Int) != 10) = true := hp
          clear hp
          go_wp2_with fail
          go_quiet (fail)
          go_wp2_with fail
          go_roundg (s.size - (q + 1))
          case measure => omega
          case rel => exact ⟨q + 1, rfl, HST.out, (HS.out.setPos (q + 1)).drewN nq, below_drewN (below_setR HB.out hbR _) _⟩
        | false =>
          have HE := Lib.hid (HH.out.span fun _ => hp)
          have g10 : ((s[q].toNat : Int) != 10) = false := hp
          clear hp
          go_wp2_with fail
          go_quiet (fail)
          go_wp2_with fail
          go_end0
          refine ⟨rfl, ?_⟩
          rw [← HR1.out, HE.out.2, show pos + (q - pos) = q by omega]
          exact ⟨⟨ov, L, v, ts, HS.out.drewN _, HO.out, HTop.out⟩, below_drewN HB.out _⟩
      · have hdq : decide (q < s.size) = false := by simpa using hlt
        have HE := Lib.hid (HH.out.span fun hq => absurd hq hlt)
        go_wp2_with fail
        go_quiet (fail)
        go_wp2_with fail
        go_end0
        refine ⟨rfl, ?_⟩
        rw [← HR1.out, HE.out.2, show pos + (q - pos) = q by omega]
        exact ⟨⟨ov, L, v, ts, HS.out.drewN _, HO.out, HTop.out⟩, below_drewN HB.out _⟩
  · have g59 : ((s[pos].toNat : Int) == 59) = false := by simp; omega
    cases hbl : blankB (s[pos].toNat : Int) with
    | true =>
      have HR1 : Hid (SR.ok (pos + 1) O top false = r) := Lib.hid (by rw [← hr, stepS, if_neg b59, if_pos hbl])
      have hx : (((s[pos].toNat : Int) == 32) = true) ∨ (((s[pos].toNat : Int) == 32) = false ∧ ((s[pos].toNat : Int) == 9) = true) ∨ (((s[pos].toNat : Int) == 32) = false ∧ ((s[pos].toNat : Int) == 9) = false ∧ ((s[pos].toNat : Int) == 10) = true) := by
        unfold blankB at hbl
        simp only [Bool.or_eq_true, beq_iff_eq] at hbl
        simp only [beq_iff_eq, beq_eq_false_iff_ne, ne_eq]
        omega
      clear hr b59 h3 hbl
      rcases hx with g1 | ⟨g1, g2⟩ | ⟨g1, g2, g3⟩
      all_goals
        go_enter Tryz.func84, Tryz.ntmps84
        go_wp2_with fail
        go_quiet (fail)
        go_wp2_with fail
        go_end0
        refine ⟨rfl, ?_⟩
        rw [← HR1.out]
        exact ⟨⟨ov, L, v, ts, ((H.out.drewN _).setTight false).setPos (pos + 1), HO.out, HTop.out⟩, below_setR (below_setR (below_drewN (Below.refl _ _) _) hbR _) hbR _⟩
    | false =>
      have hnb : ¬ blankB (s[pos].toNat : Int) = true := by rw [hbl]; simp
      have hx : ((s[pos].toNat : Int) == 32) = false ∧ ((s[pos].toNat : Int) == 9) = false ∧ ((s[pos].toNat : Int) == 10) = false := by
        unfold blankB at hbl
        simpa [and_assoc] using hbl
      obtain ⟨g1, g2, g3⟩ := hx
      by_cases b40 : s[pos].toNat = 40
      · have HR1 : Hid (SR.ok (pos + 1) (O ++ [top]) [] false = r) := Lib.hid (by rw [← hr, stepS, if_neg b59, if_neg hnb, if_pos b40])
        have g40 : ((s[pos].toNat : Int) == 40) = true := by simp; omega
        obtain ⟨i0, hi0, hz0, hz1, hz2⟩ := info_parts info22
        obtain ⟨L', hL'⟩ : ∃ L', L ++ [(v, ts)] = L' := ⟨_, rfl⟩
        have hlenL : L'.length ≤ 60001 := by rw [← hL']; simp; omega
        have hst : (L'.map fun p => p.2.map T.form) = O ++ [top] := by rw [← hL']; have e1 := HO.out; have e2 := HTop.out; simp [e1, e2]
        have HH := H.out
        rw [hL'] at HH
        have HSS := Lib.hid fun n o => (((HH.drewN n).setTight false).setPos (pos + 1)).below (bel1 _ o)
        have HST := Lib.hid hst
        clear hr b59 hbl hnb b40 hst HH hL' H h3
        go_enter Tryz.func84, Tryz.ntmps84
        go_wp2_with fail
        go_quiet (fail)
        go_wp2_with (at_builtin; refine wpList_append_lies _ rfl _ _ _ rfl base 22 i0 _ 1 24 Tryz.underlying92 hi0 hz0 hz1 hz2 rfl (by omega) ov L'.length (L'.map (·.1)) (by rfl) (HSS.out _ _).rows ⟨w.heap.size, 0, none⟩ 1 1 [.slice none 0 0] (by rfl) (by rfl) (World.news_of_block (cs := #[.slice none 0 0]) (t := 22) (fr := (0, 0)) ?_) (by simp [Value.oneCell']) (by omega) (by unfold maxLen; omega) (by omega) (by simp; omega) (w.heap.size + 1) (by simp) ?_; (· exact heap_new_at _ (by simp) _); intro gg cap1 w1 hown1 hgrow hat hlt1; have HP := Lib.hid ((HSS.out _ _).push hgrow hown1 (hat.imp id (fun e => by rw [e]; simp))); have HB1 := Lib.hid (((below_setR (below_setR (below_drewN (Below.refl base w) _) hbR _) hbR _).alloc (by simpa using hbw) _).trans ((HSS.out _ _).pushBelow hgrow)); obtain ⟨k1, k2⟩ := (HSS.out _ _).keepCells hgrow; clear hown1 hgrow hat hlt1)
        go_end0
        refine ⟨rfl, ?_⟩
        rw [← HR1.out]
        exact ⟨⟨_, L', _, [], HP.out, HST.out, rfl⟩, below_setR HB1.out hbR _⟩
      · have g40 : ((s[pos].toNat : Int) == 40) = false := by simp; omega
        by_cases b41 : s[pos].toNat = 41
        · have g41 : ((s[pos].toNat : Int) == 41) = true := by simp; omega
          have HR1 : Hid (closeS pos O top = r) := Lib.hid (by rw [← hr, stepS, if_neg b59, if_neg hnb, if_neg b40, if_pos b41])
          have HSC := Lib.hid fun n => ((H.out.drewN n).setTight false).setPos (pos + 1)
          have hgf := H.out.rows.form (by simp)
          obtain ⟨g, cap, hov, hg1, hg2⟩ := hgf
          subst hov
          rcases List.eq_nil_or_concat L with hL | ⟨L0, p0, hL⟩
          · subst hL
            have hOn : O = [] := by rw [← HO.out]; rfl
            have HR2 : Hid (SR.err 4 = r) := Lib.hid (by rw [← HR1.out, hOn]; rfl)
            simp only [List.nil_append, List.length_cons, List.length_nil, Nat.zero_add] at c2 hg1
            clear hr b59 hbl hnb b40 b41 h3 hOn
            go_enter Tryz.func84, Tryz.ntmps84
            go_wp2_with fail
            go_quiet (fail)
            go_wp2_with fail
            refine bodyPost_ret (results_none (by rfl) _ _ _) rfl ?_
            refine ⟨rfl, ?_⟩
            rw [← HR2.out]
            exact ⟨((HSC.out _).setE 4).bad, below_setR (below_setR (below_setR (below_drewN (Below.refl _ _) _) hbR _) hbR _) hbR _⟩
          · rw [List.concat_eq_append] at hL
            subst hL
            obtain ⟨v0, ts0⟩ := p0
            obtain ⟨N, hN⟩ : ∃ N, (L0 ++ [(v0, ts0)]).length = N := ⟨_, rfl⟩
            have hNN : ((L0 ++ [(v0, ts0)]) ++ [(v, ts)]).length = N + 1 := by simp at hN ⊢; omega
            have hN1 : 1 ≤ N := by rw [← hN]; simp
            have hts0 : ts0.length ≤ 60000 := by
              have := h3 (ts0.map T.form) (by rw [← HO.out]; simp)
              simpa using this
            obtain ⟨va, vc, hv⟩ : ∃ va vc, v = .slice va ts.length vc := by
              have hv0 := (H.out.lvl (v, ts) (by simp)).1
              rcases hv0.2 with ⟨e, e'⟩ | ⟨g', c', cur, e, _⟩
              · have e1 : v = .slice none 0 0 := e
                have e2 : ts.length = 0 := e'
                exact ⟨none, 0, by rw [e1, e2]⟩
              · exact ⟨_, _, e⟩
            subst hv
            have hrows := H.out.rows
            rw [hNN] at hrows HSC c2
            have k1 : w.cell? ⟨g, N, none⟩ = some (.slice va ts.length vc) := by
              rw [hrows.cellAt N (by omega), ← hN]; simp
            have hNcap : N + 1 ≤ cap := by
              rcases hrows.2 with ⟨e, _⟩ | ⟨g', c', cur, e, _, _, h1, _⟩
              · cases e
              · injection e with _ _ e3; omega
            have lg : g < w.heap.size := hg2
            have hgR : g ≠ R := by
              intro e; subst e
              have := H.out.nodup
              simp [live, Value.ownBlock] at this
            have i0 : (0 : Int) ≤ (N : Int) := by omega
            have i1 : (N : Int) < (N : Int) + 1 := by omega
            have i2 : (N : Int) ≤ (cap : Int) := by omega
            have i3 : ((N : Int) == 0) = false := by simp; omega
            have i4 : N ≤ 1000000 := by omega
            have HL : Hid (∀ W, Calls Tryz.prog 63 #[.slice va ts.length vc] W fun e w' => e = .returned (.agg #[.int .i64 3, .int .i64 0, .string ⟨#[]⟩, .slice va ts.length vc]) ∧ Below W.heap.size W w') := Lib.hid fun W => (rlist_any va vc ts W).mono fun e w' hh => hh
            have HPOP : Hid (∀ W, Scan base W R s (pos + 1) (.slice (some ⟨g, 0, none⟩) (N + 1) cap) ((L0 ++ [(v0, ts0)]) ++ [(.slice va ts.length vc, ts)]) (false, 0) → Calls Tryz.prog 126 #[.pointer (some ⟨R, 0, none⟩), .agg #[.int .i64 3, .int .i64 0, .string ⟨#[]⟩, .slice va ts.length vc]] ((W.setCell ⟨R, 2, none⟩ (.slice (some ⟨g, 0, none⟩) N cap)).alloc (.cells #[.int .i64 3, .int .i64 0, .string ⟨#[]⟩, .slice va ts.length vc] 29))
                fun e w' => e = .returned (.tuple #[]) ∧ Added base ((W.setCell ⟨R, 2, none⟩ (.slice (some ⟨g, 0, none⟩) N cap)).alloc (.cells #[.int .i64 3, .int .i64 0, .string ⟨#[]⟩, .slice va ts.length vc] 29)) w' R s (pos + 1) (.slice (some ⟨g, 0, none⟩) N cap) L0 (ts0 ++ [T.mk 3 0 ⟨#[]⟩ va vc ts]) (false, 0)) := Lib.hid fun W hW => by
              rw [← hN] at hW ⊢
              obtain ⟨p1, p2, p3, p4⟩ := hW.popIn (by omega)
              have hl0 : ts0.length + L0.length ≤ 1000000 := by simp at hLl; omega
              exact put_any base _ R s (pos + 1) _ L0 v0 ts0 (false, 0) (T.mk 3 0 ⟨#[]⟩ va vc ts) (p1.below (bel1 _ _)) (p2.alloc _) p3 p4 hl0
            clear hr b59 hbl hnb b40 b41 h3 hrows hN hNN hN1 hts0 hLl htl
            go_enter Tryz.func84, Tryz.ntmps84
            go_wp2_with fail
            go_quiet (fail)
            go_wp2_with (first
              | (go_at_call 63; refine (HL.out _).mono ?_; rintro e w5 ⟨rfl, hB5⟩; have hz5 : w.heap.size ≤ w5.heap.size := Nat.le_trans (Nat.le_of_eq (by simp)) hB5.size; have HS5 := Lib.hid ((HSC.out _).below hB5); have HB5 := Lib.hid (upB (below_setR (below_setR (below_drewN (Below.refl base w) _) hbR _) hbR _) hB5 (by simpa using hbw)); have hz6 : R < w5.heap.size := (by omega); have hz7 : ¬ R = w5.heap.size := (by omega); obtain ⟨_, _, e2, _, _, _, e5, _, _⟩ := HS5.out.cells; clear hB5)
              | (go_at_call 126; refine (HPOP.out _ HS5.out).mono ?_; rintro e w6 ⟨rfl, hA⟩; have HA := Lib.hid hA; clear hA))
            go_end0
            refine ⟨rfl, ?_⟩
            rw [← HR1.out, ← HO.out, ← HTop.out]
            exact close_step ((below_setR HB5.out hbR _).alloc (by simp; omega) _) HA.out
        · have g41 : ((s[pos].toNat : Int) == 41) = false := by simp; omega
          cases near with
          | true =>
            have HR1 : Hid (SR.err 4 = r) := Lib.hid (by
              rw [← hr, stepS, if_neg b59, if_neg hnb, if_neg b40, if_neg b41]
              split
              · rfl
              · rw [if_pos rfl])
            clear hr b59 hbl hnb b40 b41 h3
            go_enter Tryz.func84, Tryz.ntmps84
            go_wp2_with fail
            go_quiet (fail)
            go_wp2_with fail
            go_end0
            refine ⟨rfl, ?_⟩
            rw [← HR1.out]
            exact ⟨(((H.out.drewN _).setTight false).setE 4).bad, below_setR (below_setR (below_drewN (Below.refl _ _) _) hbR _) hbR _⟩
          | false =>
            by_cases b34 : s[pos].toNat = 34
            · have HR1 : Hid (textS s pos O top = r) := Lib.hid (by
                rw [← hr, stepS, if_neg b59, if_neg hnb, if_neg b40, if_neg b41, if_neg (by rw [b34]; simp [plainB]), if_neg (by simp), if_pos b34])
              have g34 : ((s[pos].toNat : Int) == 34) = true := by simp; omega
              have HT := Lib.hid fun n => quoted_any base ((w.drewN n).setCell ⟨R, 3, none⟩ (.bool false)) R s pos ov L v ts false ((H.out.drewN n).setTight false) hpos hs (by omega)
              clear hr b59 hbl hnb b40 b41 h3 b34
              go_enter Tryz.func84, Tryz.ntmps84
              go_wp2_with fail
              go_quiet (fail)
              go_wp2_with (go_at_call 127; refine (HT.out _).mono ?_; rintro e w2 ⟨rfl, hM⟩; obtain ⟨n3, k3, k4⟩ := hM.cell; have HM := Lib.hid hM; clear hM)
              go_end0
              refine ⟨rfl, ?_⟩
              rw [← HR1.out, ← HO.out, ← HTop.out]
              exact txt_step hbR (below_setR (below_drewN (Below.refl _ _) _) hbR _) HM.out
            · have g34 : ((s[pos].toNat : Int) == 34) = false := by simp; omega
              have hpt : tokB (s[pos].toNat : Int) = plainB (s[pos].toNat : Int) := by
                unfold tokB
                have a1 : ((s[pos].toNat : Int) != 40) = true := by simp; omega
                have a2 : ((s[pos].toNat : Int) != 41) = true := by simp; omega
                have a3 : ((s[pos].toNat : Int) != 34) = true := by simp; omega
                have a4 : ((s[pos].toNat : Int) != 59) = true := by simp; omega
                rw [a1, a2, a3, a4]; simp
              cases hp : tokB (s[pos].toNat : Int) with
              | true =>
                have hp2 : ¬ plainB (s[pos].toNat : Int) = false := by rw [← hpt, hp]; simp
                have HR1 : Hid (tokS s pos O top = r) := Lib.hid (by
                  rw [← hr, stepS, if_neg b59, if_neg hnb, if_neg b40, if_neg b41, if_neg hp2, if_neg (by simp), if_neg b34])
                have HT := Lib.hid fun n => token_any base ((w.drewN n).setCell ⟨R, 3, none⟩ (.bool false)) R s pos ov L v ts false ((H.out.drewN n).setTight false) (by omega) hs (by omega)
                have HV1 := HVI.out
                rw [hp] at HV1
                have HV1 := Lib.hid HV1
                clear hr b59 hbl hnb b40 b41 h3 b34 hpt hp hp2
                go_enter Tryz.func84, Tryz.ntmps84
                go_wp2_with fail
                go_quiet (fail)
                go_wp2_with (first
                  | (go_at_call 128; refine (HV1.out _).mono ?_; rintro e w2 ⟨rfl, rfl⟩)
                  | (go_at_call 129; refine (HT.out _).mono ?_; rintro e w2 ⟨rfl, hM⟩; obtain ⟨n3, k3, k4⟩ := hM.cell; have HM := Lib.hid hM; clear hM))
                go_end0
                refine ⟨rfl, ?_⟩
                rw [← HR1.out, ← HO.out, ← HTop.out]
                exact tok_step hbR (below_setR (below_drewN (Below.refl _ _) _) hbR _) HM.out
              | false =>
                have hp2 : plainB (s[pos].toNat : Int) = false := by rw [← hpt, hp]
                have HR1 : Hid (SR.err 4 = r) := Lib.hid (by
                  rw [← hr, stepS, if_neg b59, if_neg hnb, if_neg b40, if_neg b41, if_pos hp2])
                have HV1 := HVI.out
                rw [hp] at HV1
                have HV1 := Lib.hid HV1
                clear hr b59 hbl hnb b40 b41 h3 b34 hpt hp hp2
                go_enter Tryz.func84, Tryz.ntmps84
                go_wp2_with fail
                go_quiet (fail)
                go_wp2_with (go_at_call 128; refine (HV1.out _).mono ?_; rintro e w2 ⟨rfl, rfl⟩)
                go_end0
                refine ⟨rfl, ?_⟩
                rw [← HR1.out]
                exact ⟨(((H.out.drewN _).setTight false).setE 4).bad, below_setR (below_setR (below_drewN (Below.refl _ _) _) hbR _) hbR _⟩
end Go.Proofs.YtedabholcldgbaaGreatDoor.Q

/- What is read has right fields, so only its size and its depth can be wrong. -/
namespace Go.Proofs.YtedabholcldgbaaGreatDoor.Q
open Go.RowKit Go.Deep

def FldL (l : List Fm) : Prop := ∀ f ∈ l, fieldsF f = true
def FldO (O : List (List Fm)) (top : List Fm) : Prop := (∀ l ∈ O, FldL l) ∧ FldL top
theorem FldL.snoc {l : List Fm} {f : Fm} (h : FldL l) (hf : fieldsF f = true) : FldL (l ++ [f]) := fun g hg => by
  rcases List.mem_append.1 hg with hg | hg
  · exact h g hg
  · rw [List.mem_singleton.1 hg]; exact hf
theorem fields_leaf {k n : Int} {t : ByteArray} (hk : k ≠ 3) : fieldsF (.mk k n t []) = aloneF (.mk k n t []) := by
  rw [fieldsF_eq]
  unfold Fm.kids
  rw [if_neg (by exact hk)]
  simp [fieldsL]
theorem fields_list {l : List Fm} (h : FldL l) : fieldsF (.mk 3 0 ⟨#[]⟩ l) = true := by
  rw [fieldsF_eq]
  have e : (Fm.mk 3 0 ⟨#[]⟩ l).kids = l := by unfold Fm.kids; simp [Fm.kd, Fm.ks]
  rw [e, fieldsL_all]
  have : l.all fieldsF = true := List.all_eq_true.2 h
  rw [this]
  rfl
theorem allB_list (p : Int → Bool) (l : List UInt8) : allB p ⟨l.toArray⟩ = l.all fun c => p (c.toNat : Int) := by
  unfold allB; simp
theorem mem_while (p : UInt8 → Bool) : ∀ (l : List UInt8) (c : UInt8), c ∈ l.takeWhile p → p c = true
  | [], c, h => by simp at h
  | b :: r, c, h => by
    rw [List.takeWhile_cons] at h
    split at h
    · rename_i hb
      rcases List.mem_cons.1 h with rfl | h
      · exact hb
      · exact mem_while p r c h
    · cases h
theorem tok_fields {s : ByteArray} {pos : Nat} {k n : Int} {t : ByteArray} (h : tokenR (spanB tokB s pos) = .form k n t) (h1 : 1 ≤ (spanB tokB s pos).size) : fieldsF (.mk k n t []) = true := by
  have hall : allB tokB (spanB tokB s pos) = true := by
    unfold spanB
    rw [allB_list, List.all_eq_true]
    intro c hc
    unfold spanL at hc
    exact mem_while _ _ _ hc
  unfold tokenR at h
  split at h
  · rename_i hn
    split at h
    · cases h
    · rename_i h30
      injection h with e1 e2 e3
      subst e1 e2 e3
      rw [fields_leaf (by omega)]
      unfold aloneF wordB
      simp only [Fm.kd, Fm.nn, Fm.tx, Fm.ks]
      rw [hall, hn]
      have h31 : (spanB tokB s pos).size ≤ 30 := by omega
      simp [h1, h31]
  · split at h
    · cases h
    · split at h
      · split at h
        · rename_i v _ hr
          injection h with e1 e2 e3
          subst e1 e2 e3
          rw [fields_leaf (by omega)]
          unfold aloneF
          simp only [Fm.kd, Fm.nn, Fm.tx, Fm.ks]
          rw [hr]
          rfl
        · cases h
      · cases h
theorem un_txt {c : UInt8} (h : unOk (c.toNat : Int) = true) : txtB ((unB c).toNat : Int) = true := by
  unfold unOk at h
  simp only [Bool.or_eq_true, beq_iff_eq] at h
  have inj : ∀ n : UInt8, (c.toNat : Int) = (n.toNat : Int) → c = n := fun n e => UInt8.toNat_inj.1 (Int.ofNat.inj e)
  rcases h with (h | h) | h
  · obtain rfl := inj 34 h; rfl
  · obtain rfl := inj 92 h; rfl
  · obtain rfl := inj 110 h; rfl
theorem txt_bytes : ∀ (n : Nat) (l : List UInt8), l.length ≤ n → ∀ {bs : List UInt8} {k : Nat}, txtL l = .done bs k → ∀ c ∈ bs, txtB (c.toNat : Int) = true := by
  intro n
  induction n with
  | zero =>
    intro l hl bs k h
    cases l with
    | nil => rw [txtL] at h; cases h
    | cons b r => simp at hl
  | succ n ih =>
    intro l hl bs k h
    cases l with
    | nil => rw [txtL] at h; cases h
    | cons b r =>
      rw [txtL_cons] at h
      have pre : ∀ (t : TX) (a : List UInt8) (j : Nat), t.pre a j = .done bs k → ∃ bs' k', t = .done bs' k' ∧ bs = a ++ bs' := by
        intro t a j ht
        cases t with
        | err e => cases ht
        | done bs' k' => simp only [TX.pre, TX.done.injEq] at ht; exact ⟨bs', k', rfl, ht.1.symm⟩
      simp only [List.length_cons] at hl
      split at h
      · injection h with e1 _
        subst e1
        intro c hc; cases hc
      · split at h
        · cases r with
          | nil => cases h
          | cons c r' =>
            simp only at h
            split at h
            · rename_i hu
              obtain ⟨bs', k', ht, rfl⟩ := pre _ _ _ h
              simp only [List.length_cons] at hl
              have := ih r' (by omega) ht
              intro x hx
              rcases List.mem_cons.1 hx with rfl | hx
              · exact un_txt hu
              · exact this x hx
            · cases h
        · split at h
          · rename_i hp
            obtain ⟨bs', k', ht, rfl⟩ := pre _ _ _ h
            have := ih r (by omega) ht
            intro x hx
            rcases List.mem_cons.1 hx with rfl | hx
            · unfold txtB
              rcases hp with hp | hp
              · rw [hp]; rfl
              · rw [hp]; simp
            · exact this x hx
          · cases h
theorem stepS_fields {s : ByteArray} {pos : Nat} {O : List (List Fm)} {top : List Fm} {tight : Bool} (hpos : pos < s.size) (hf : FldO O top) {q : Nat} {O' : List (List Fm)} {top' : List Fm} {t' : Bool}
    (h : stepS s pos s[pos].toNat O top tight = .ok q O' top' t') : FldO O' top' := by
  unfold stepS at h
  split at h
  · injection h with e1 e2 e3 e4
    subst e2 e3; exact hf
  · split at h
    · injection h with e1 e2 e3 e4
      subst e2 e3; exact hf
    · split at h
      · injection h with e1 e2 e3 e4
        subst e2 e3
        refine ⟨fun l hl => ?_, fun f hf => by cases hf⟩
        rcases List.mem_append.1 hl with hl | hl
        · exact hf.1 l hl
        · rw [List.mem_singleton.1 hl]; exact hf.2
      · split at h
        · unfold closeS at h
          split at h
          · cases h
          · rename_i l hl
            injection h with e1 e2 e3 e4
            subst e2 e3
            exact ⟨fun x hx => hf.1 x ((List.dropLast_sublist O).subset hx), (hf.1 l (List.mem_of_getLast? hl)).snoc (fields_list hf.2)⟩
        · split at h
          · cases h
          · split at h
            · cases h
            · rename_i hb59 hbl hb40 hb41 hpl htight
              split at h
              · unfold textS at h
                split at h
                · cases h
                · rename_i bs n htx
                  split at h
                  · cases h
                  · rename_i h2000
                    injection h with e1 e2 e3 e4
                    subst e2 e3
                    refine ⟨hf.1, hf.2.snoc ?_⟩
                    rw [fields_leaf (by omega)]
                    have ht : textB ⟨bs.toArray⟩ = true := by
                      unfold textB
                      rw [allB_list, Bool.and_eq_true]
                      exact ⟨by simpa using Nat.le_of_not_lt h2000, List.all_eq_true.2 fun c hc => txt_bytes _ _ (Nat.le_refl _) htx c hc⟩
                    unfold aloneF
                    simp only [Fm.kd, Fm.nn, Fm.tx, Fm.ks]
                    rw [ht]
                    rfl
              · rename_i hb34
                unfold tokS at h
                split at h
                · cases h
                · rename_i k n t htk
                  injection h with e1 e2 e3 e4
                  subst e2 e3
                  refine ⟨hf.1, hf.2.snoc (tok_fields htk ?_)⟩
                  have h2 := span_pos tokB s pos hpos (by
                    have hp : plainB (s[pos].toNat : Int) = true := by cases h : plainB (s[pos].toNat : Int) with
                                                                       | true => rfl
                                                                       | false => exact absurd h hpl
                    unfold tokB; rw [hp]; simp; omega)
                  rw [← spanB_size] at h2
                  exact h2
/-- Only the size and the depth can be wrong. -/
theorem all_small {top : List Fm} (h : FldL top) : top.all validF = top.all smallF := by
  rw [Bool.eq_iff_iff, List.all_eq_true, List.all_eq_true]
  refine forall_congr' fun f => ⟨fun k hf => ?_, fun k hf => ?_⟩
  · have := k hf; rw [valid_small, h f hf, Bool.true_and] at this; exact this
  · rw [valid_small, h f hf, Bool.true_and]; exact k hf
end Go.Proofs.YtedabholcldgbaaGreatDoor.Q

/- reader.One and the chapter's example. -/
namespace Go.Proofs.YtedabholcldgbaaGreatDoor
open Go.RowKit Go.Deep

theorem oneDone_one (f : Fm) : oneDone (.ok [f]) = .ok f := rfl
theorem oneDone_other {fs : List Fm} (h : fs.length ≠ 1) : oneDone (.ok fs) = .err 4 := by
  match fs, h with
  | [], _ => rfl
  | [_], h => exact absurd rfl h
  | _ :: _ :: _, _ => rfl
set_option maxHeartbeats 2000000 in
set_option maxRecDepth 100000 in
theorem one_any (s : ByteArray) (w : World) (hs0 : s.size ≤ maxLen) (hg : Glob w) (h6 : 8 ≤ w.heap.size) :
    Calls Tryz.prog 27 #[.string s] w fun e w' => OneEnd w w' (oneR s) e := by
  have HR := fun w' (g : Glob w') (h : 8 ≤ w'.heap.size) => read_any s w' hs0 g h
  have HG := Lib.hid hg
  unfold oneR
  cases hr : readR s with
  | err c =>
    rw [hr] at HR
    have HR := Lib.hid HR
    have hc : (c != 0) = true := by have := readR_err hr; simpa using this
    clear hr hg
    go_enter Tryz.func27, Tryz.ntmps27
    go_wp2_with (go_at_call 48; refine (HR.out _ (HG.out.below (bel1 _ _) h6) (by simp; omega)).mono ?_; rintro e w2 ⟨rfl, hB⟩; obtain ⟨c0, c1, c2, c3, f0, f1, f2, f3⟩ := res_cells hB; have HB := Lib.hid hB; clear hB)
    exact bodyPost_ret (v := .tuple #[.agg #[.int .i64 0, .int .i64 0, .string ⟨#[]⟩, .slice none 0 0], .int .i64 c]) (by simp [results, Tryz.results27, go_sem, c0, c1, c2, c3]) rfl ⟨rfl, below_res HB.out _ _ _ _⟩
  | ok fs =>
    rw [hr] at HR
    by_cases hl : fs.length = 1
    · obtain ⟨f, rfl⟩ : ∃ f, fs = [f] := List.length_eq_one_iff.1 hl
      rw [oneDone_one]
      have HR := Lib.hid HR
      clear hr hg hl
      go_enter Tryz.func27, Tryz.ntmps27
      go_wp2_with (go_at_call 48; refine (HR.out _ (HG.out.below (bel1 _ _) h6) (by simp; omega)).mono ?_; rintro e w2 ⟨v, rfl, hF, hB⟩; obtain ⟨va, vc, ts, rfl, hI, hfs, hcap, hb1, hb2⟩ := hF; obtain ⟨t, rfl⟩ : ∃ t, ts = [t] := (by cases ts with
          | nil => cases hfs
          | cons t r => cases r with
            | nil => exact ⟨t, rfl⟩
            | cons _ _ => cases hfs); obtain ⟨⟨b, o, rfl, hk0, hk1, hk2, hk3⟩, hin⟩ := hI.at 0 (by simp); have hbb := hb2 b o none rfl; simp only [World.size_alloc] at hbb; obtain ⟨c0, c1, c2, c3, f0, f1, f2, f3⟩ := res_cells hB; simp only [List.getElem_cons_zero, Nat.zero_mul, Nat.add_zero] at hk0 hk1 hk2 hk3 hin; have HB := Lib.hid hB; have HIN := Lib.hid hin; have HOB := Lib.hid hb1; have HFS := Lib.hid hfs; clear hB hin hb1 hb2 hI hcap hfs)
      have hfrm : t.form = f := by have := HFS.out; simpa using this
      have hob : ∀ b, On t b → b ≠ w.heap.size := fun b hb => by have := HOB.out t (by simp) b hb; simp at this; omega
      refine bodyPost_ret (v := .tuple #[t.val, .int .i64 0]) (by simp [results, Tryz.results27, go_sem, c0, c1, c2, c3]) rfl ⟨t, rfl, hfrm, ?_, below_res HB.out _ _ _ _⟩
      exact HIN.out.same _ (Nat.lt_succ_self _) fun b hb => by
        have hne := hob b hb
        rw [Below.heap_setCell _ _ _ _ hne, Below.heap_setCell _ _ _ _ hne, Below.heap_setCell _ _ _ _ hne, Below.heap_setCell _ _ _ _ hne]
    · rw [oneDone_other hl]
      have HR := Lib.hid HR
      clear hr hg
      go_enter Tryz.func27, Tryz.ntmps27
      go_wp2_with (go_at_call 48; refine (HR.out _ (HG.out.below (bel1 _ _) h6) (by simp; omega)).mono ?_; rintro e w2 ⟨v, rfl, hF, hB⟩; obtain ⟨va, vc, ts, rfl, hI, hfs, hcap, hb1, hb2⟩ := hF; have hn : ts.length = fs.length := (by rw [← hfs, List.length_map]); have hne : (((ts.length : Int)) != 1) = true := (by simp; omega); have hn2 : ts.length ≤ 9223372036854775807 := (by unfold maxLen at hcap; omega); obtain ⟨c0, c1, c2, c3, f0, f1, f2, f3⟩ := res_cells hB; have HB := Lib.hid hB; clear hB hI hfs hcap hb1 hb2 hn)
      exact bodyPost_ret (v := .tuple #[.agg #[.int .i64 0, .int .i64 0, .string ⟨#[]⟩, .slice none 0 0], .int .i64 4]) (by simp [results, Tryz.results27, go_sem, c0, c1, c2, c3]) rfl ⟨rfl, below_res HB.out _ _ _ _⟩
end Go.Proofs.YtedabholcldgbaaGreatDoor

/- The document's own Read. -/
namespace Go.Proofs.YtedabholcldgbaaGreatDoor.Q
open Go.RowKit Go.Deep

theorem Scan.start (w : World) (s : ByteArray) :
    Scan w.heap.size ((w.alloc (.cells #[.slice none 0 0] 22)).alloc (.cells #[.string s, .int .i64 0, .slice (some ⟨w.heap.size, 0, none⟩) 1 1, .bool false, .int .i64 0] 103)) (w.heap.size + 1) s 0 (.slice (some ⟨w.heap.size, 0, none⟩) 1 1) [(.slice none 0 0, [])] (false, 0) := by
  refine ⟨heap_new2 _ _ _, ?_, fun p hp => ?_, by simp [live, Value.ownBlock], by omega, by simp; omega, fun p hp => ?_⟩
  · exact ((World.ownsRow_lit w #[.slice none 0 0] 1 (base := w.heap.size) (e := 22) (size := 1) (Nat.le_refl _) (by unfold maxLen; omega) rfl)).alloc _
  · have e : p = (.slice none 0 0, []) := by simpa using hp
    subst e
    exact ⟨World.ownsRow_nil _ _ _ _, fun t ht => by cases ht⟩
  · have e : p = (.slice none 0 0, []) := by simpa using hp
    subst e
    intro t ht; cases ht
theorem State.start (w : World) (s : ByteArray) :
    State w.heap.size ((w.alloc (.cells #[.slice none 0 0] 22)).alloc (.cells #[.string s, .int .i64 0, .slice (some ⟨w.heap.size, 0, none⟩) 1 1, .bool false, .int .i64 0] 103)) (w.heap.size + 1) s 0 [] [] false :=
  ⟨_, [], _, [], Scan.start w s, rfl, rfl⟩
/-- What is known at the loop's head, as long as no error was met. -/
structure RRel (w wr : World) (s : ByteArray) (m pos : Nat) (O : List (List Fm)) (top : List Fm) (near : Bool) : Prop where
  st : State w.heap.size wr (w.heap.size + 1) s pos O top near
  below : Below w.heap.size w wr
  tot : tot O top ≤ pos
  le : pos ≤ s.size
  loop : loopS s (s.size + 1) 0 [] [] false = loopS s (m + 1) pos O top near
  fuel : s.size - pos ≤ m
  flds : FldO O top
def LRel (w wr : World) (s : ByteArray) (m : Nat) : Prop :=
  (∃ (pos : Nat) (O : List (List Fm)) (top : List Fm) (near : Bool), RRel w wr s m pos O top near) ∨
  ∃ c : Int, Bad wr (w.heap.size + 1) s c ∧ Below w.heap.size w wr ∧ loopS s (s.size + 1) 0 [] [] false = .err c ∧ (c == 0) = false
def SmallTo (ts : List T) (k : Nat) : Prop := ∀ j (h : j < ts.length), j < k → smallF ts[j].form = true
theorem SmallTo.step {ts : List T} {k : Nat} (h : SmallTo ts k) (hk : k < ts.length) (hv : smallF ts[k].form = true) : SmallTo ts (k + 1) := by
  intro j hj hlt
  by_cases e : j = k
  · subst e; exact hv
  · exact h j hj (by omega)
theorem SmallTo.all {ts : List T} {k : Nat} (h : SmallTo ts k) (hk : ts.length ≤ k) : (ts.map T.form).all smallF = true := by
  rw [List.all_eq_true]
  intro f hf
  obtain ⟨t, ht, rfl⟩ := List.mem_map.1 hf
  obtain ⟨j, hj, rfl⟩ := List.getElem_of_mem ht
  exact h j hj (by omega)
theorem SmallTo.not {ts : List T} {k : Nat} (hk : k < ts.length) (hv : smallF ts[k].form = false) : (ts.map T.form).all smallF = false := by
  rw [List.all_eq_false]
  exact ⟨ts[k].form, List.mem_map_of_mem (List.getElem_mem hk), by rw [hv]; simp⟩

set_option linter.unusedSimpArgs false in
set_option maxHeartbeats 8000000 in
set_option maxRecDepth 100000 in
theorem read_any (s : ByteArray) (w : World) (hs0 : s.size ≤ maxLen) :
    Calls Tryz.prog 52 #[.string s] w fun e w' => ReadEnd w w' (readR s) e := by
  unfold maxLen at hs0
  obtain ⟨r, hr⟩ : ∃ r, readR s = r := ⟨_, rfl⟩
  rw [hr]
  by_cases hs : 60000 < s.size
  · obtain rfl : RD.err 2 = r := by rw [← hr, readR, if_pos hs]
    have hs' : (60000 : Int) < (s.size : Int) := by omega
    clear hr hs
    go_enter Tryz.func52, Tryz.ntmps52
    go_wp2_with fail
    go_ret2
    exact ⟨rfl, Below.refl _ _⟩
  · have hs' : ¬ (60000 : Int) < (s.size : Int) := by omega
    have hs2 : s.size ≤ 60000 := by omega
    have hrl : r = readDone (loopS s (s.size + 1) 0 [] [] false) := by rw [← hr, readR, if_neg hs]
    have HRL := Lib.hid hrl
    have HST := Lib.hid (State.start w s)
    clear hr hs hrl
    go_enter Tryz.func52, Tryz.ntmps52
    go_wp2_with fail
    go_loopg [] (s.size) (fun m wr => LRel w wr s m)
    case atStart => exact .inl ⟨0, [], [], false, HST.out, bel2 _ _ _, by simp [tot, szO, szL], Nat.zero_le _, rfl, by omega, ⟨fun l hl => (by cases hl), fun f hf => (by cases hf)⟩⟩
    case round =>
      rcases hrel with ⟨pos, O, top, near, hR⟩ | ⟨c, hbad, hB, hloop, hc⟩
      · have HR := Lib.hid hR
        have hpl := hR.le
        have hfuel := hR.fuel
        obtain ⟨b1, b2, b3⟩ := tot_bounds (Nat.le_trans hR.tot hR.le)
        obtain ⟨ov, L, v, ts, hSc, hO, htop⟩ := hR.st
        obtain ⟨c0, c1, c2, c3, c4, f1, f2, f3, f4⟩ := hSc.cells
        have HSC := Lib.hid hSc
        have HO := Lib.hid hO
        have HTop := Lib.hid htop
        have HB3 := Lib.hid b3
        clear hR hSc hO htop b3
        by_cases hlt : pos < s.size
        · have hS := step_any w.heap.size wr (w.heap.size + 1) s pos O top near hlt HR.out.st hs2 (by omega) (by omega) (fun l hl => by have := HB3.out l hl; omega)
          have hq1 : (pos : Int) < (s.size : Int) := by omega
          obtain ⟨k, hk⟩ : ∃ k, gk = k + 1 := ⟨gk - 1, by omega⟩
          cases hst : stepS s pos s[pos].toNat O top near with
          | err c =>
            rw [hst] at hS
            have HS := Lib.hid hS
            have HC : Hid ((c == 0) = false) := Lib.hid (by rcases stepS_err hst with e | e | e <;> rw [e] <;> rfl)
            have HLP : Hid (loopS s (s.size + 1) 0 [] [] false = .err c) := Lib.hid (by rw [HR.out.loop, loopS_err hlt hst])
            have hkk : k < gk := by omega
            clear hst hS hk
            go_wp2_with (go_at_call 84; refine HS.out.mono ?_; rintro e w2 ⟨rfl, hM⟩; have HM := Lib.hid hM; clear hM)
            go_roundg k
            case measure => omega
            case rel => exact .inr ⟨c, HM.out.1, HR.out.below.trans HM.out.2, HLP.out, HC.out⟩
          | ok q O' top' t' =>
            have hbd := stepS_bound hlt HR.out.tot hst
            have hfl := stepS_fields hlt HR.out.flds hst
            have hnext := loopS_ok (k := k + 1) hlt hst
            rw [hst] at hS
            have HS := Lib.hid hS
            have HN : Hid (∀ wr', State w.heap.size wr' (w.heap.size + 1) s q O' top' t' → Below w.heap.size wr wr' → RRel w wr' s k q O' top' t') :=
              Lib.hid fun wr' h1 h2 => ⟨h1, HR.out.below.trans h2, hbd.2.2, hbd.2.1, by rw [HR.out.loop, hk, hnext], by omega, hfl⟩
            have hkk : k < gk := by omega
            clear hst hS hnext hk hbd hfl
            go_wp2_with (go_at_call 84; refine HS.out.mono ?_; rintro e w2 ⟨rfl, hM⟩; have HM := Lib.hid hM; clear hM)
            go_roundg k
            case measure => omega
            case rel => exact .inl ⟨q, O', top', t', HN.out _ HM.out.1 HM.out.2⟩
        · have hend := loopS_end (s := s) (k := gk) (pos := pos) (O := O) (top := top) (tight := near) hlt
          have hrr : r = readDone (.ok O top) := by rw [HRL.out, HR.out.loop, hend]
          obtain ⟨g, cap, hov, hg1, hg2⟩ := HSC.out.rows.form (by simp)
          subst hov
          simp only [List.length_append, List.length_cons, List.length_nil, Nat.zero_add] at c2 hg1
          have hd : ¬ (pos : Int) < (s.size : Int) := by omega
          by_cases hOe : O = []
          · have hL : L = [] := by have := HO.out; rw [hOe] at this; simpa using this
            subst hL
            obtain ⟨va, vc, hv⟩ : ∃ va vc, v = .slice va ts.length vc := by
              have hv0 := (HSC.out.lvl (v, ts) (by simp)).1
              rcases hv0.2 with ⟨e, e'⟩ | ⟨g', c', cur, e, _⟩
              · have e1 : v = .slice none 0 0 := e
                have e2 : ts.length = 0 := e'
                exact ⟨none, 0, by rw [e1, e2]⟩
              · exact ⟨_, _, e⟩
            subst hv
            have k1 : wr.cell? ⟨g, 0, none⟩ = some (.slice va ts.length vc) := by
              have := HSC.out.rows.cellAt 0 (by simp)
              rw [this]; simp
            have hlen : ts.length ≤ 1000000 := by
              have e := HTop.out
              have : ts.length = top.length := by rw [← e]; simp
              omega
            have HSZ : Hid (∀ j (h : j < ts.length), szF ts[j].form ≤ 4611686018427387903) := Lib.hid fun j h => by
              have h1 := szL_le (l := ts.map T.form) (f := ts[j].form) (List.mem_map_of_mem (List.getElem_mem h))
              rw [HTop.out] at h1
              have e := HR.out.tot
              unfold tot at e; omega
            have hrow := row_inL (HSC.out.lvl (.slice va ts.length vc, ts) (by simp)).1 (fun t ht => ((HSC.out.lvl (.slice va ts.length vc, ts) (by simp)).2 t ht).1) hlen
            have HHI := Lib.hid (HSC.out.hi (.slice va ts.length vc, ts) (by simp))
            have HVB : Hid (∀ b o sp, va = some ⟨b, o, sp⟩ → w.heap.size ≤ b) := Lib.hid fun b o sp e => ((HSC.out.lvl (.slice va ts.length vc, ts) (by simp)).1.lt b (by rw [e]; rfl)).1
            have HRW := Lib.hid hrow
            have HK : Hid (∀ W, Below wr.heap.size wr W → W.cell? ⟨w.heap.size + 1, 2, none⟩ = some (.slice (some ⟨g, 0, none⟩) 1 cap) ∧ W.cell? ⟨g, 0, none⟩ = some (.slice va ts.length vc)) :=
              Lib.hid fun W hB => ⟨(hB.cell (p := ⟨w.heap.size + 1, 2, none⟩) (lt_of_block HSC.out.blk)).trans c2, (hB.cell (p := ⟨g, 0, none⟩) hg2).trans k1⟩
            have HALL : Hid (r = if (ts.map T.form).all smallF = true then .ok top else .err 2) := Lib.hid (by
              rw [hrr, hOe]
              simp only [readDone, ne_eq, not_true_eq_false, if_false]
              rw [all_small HR.out.flds.2, HTop.out])
            clear hend hOe hrow hrr
            go_wp2_with fail
            go_loopg [5] (ts.length) (fun m i W => ∃ k : Nat, k ≤ ts.length ∧ m = ts.length - k ∧ i = .int .i64 k ∧ SmallTo ts k ∧ Below wr.heap.size wr W)
            case atStart => exact ⟨0, by omega, rfl, rfl, fun j _ h => absurd h (by omega), Below.refl _ _⟩
            case round =>
              obtain ⟨k, hk, rfl, rfl, hV, hBW⟩ := hrel
              obtain ⟨m2, m3⟩ := HK.out _ hBW
              have HBW := Lib.hid hBW
              by_cases hltk : k < ts.length
              · obtain ⟨⟨b, o, rfl, hx0, hx1, hx2, hx3⟩, hink⟩ := (HRW.out.1.below hBW).at k hltk
                have HA := Lib.hid (rsmall_any ts[k] _ hink (HSZ.out k hltk))
                cases hv : smallF ts[k].form with
                | true =>
                  rw [hv] at HA
                  have HS := Lib.hid (hV.step hltk hv)
                  clear hv hV hBW hink
                  go_wp2_with (go_at_call 74; refine HA.out.mono ?_; rintro e w2 ⟨rfl, hB2⟩; have HB2 := Lib.hid hB2; clear hB2)
                  go_roundg (ts.length - (k + 1))
                  case measure => omega
                  case rel => exact ⟨k + 1, by omega, rfl, by go_num, HS.out, upB HBW.out HB2.out (Nat.le_refl _)⟩
                | false =>
                  rw [hv] at HA
                  have HS : Hid (r = .err 2) := Lib.hid (by rw [HALL.out, SmallTo.not hltk hv]; simp)
                  clear hv hV hBW hink
                  go_wp2_with (go_at_call 74; refine HA.out.mono ?_; rintro e w2 ⟨rfl, hB2⟩; have HB2 := Lib.hid hB2; clear hB2)
                  go_ret2
                  rw [HS.out]
                  exact ⟨rfl, upB HR.out.below (upB HBW.out HB2.out (Nat.le_refl _)) (Nat.le_refl _)⟩
              · have HS : Hid (r = .ok top) := Lib.hid (by rw [HALL.out, hV.all (by omega)]; simp)
                clear hV hBW
                go_wp2_with fail
                go_ret2
                rw [HS.out]
                exact ⟨_, rfl, ⟨va, vc, ts, rfl, HRW.out.1.below HBW.out, HTop.out, HRW.out.2, HHI.out, HVB.out⟩, upB HR.out.below HBW.out (Nat.le_refl _)⟩
          · have hL : 1 ≤ L.length := by
              rcases L with _ | ⟨p, L'⟩
              · exact absurd HO.out.symm hOe
              · simp
            have hL' : (1 : Int) < (L.length : Int) + 1 := by omega
            have hL1 : L.length ≤ 60000 := by
              have e := HO.out
              have : L.length = O.length := by rw [← e]; simp
              omega
            simp only [readDone, ne_eq, hOe, not_false_eq_true, if_true] at hrr
            subst hrr
            clear hend hOe
            go_wp2_with fail
            go_quiet (fail)
            go_wp2_with fail
            go_ret2
            exact ⟨rfl, below_drewN (below_setR HR.out.below (Nat.le_succ _) _) _⟩
      · obtain ⟨a, o, n, hblk⟩ := hbad
        have c1 : wr.cell? ⟨w.heap.size + 1, 1, none⟩ = some (.int .i64 a) := by simp [World.cell?, hblk]
        have c4 : wr.cell? ⟨w.heap.size + 1, 4, none⟩ = some (.int .i64 c) := by simp [World.cell?, hblk]
        have hc2 : (c != 0) = true := by simpa using hc
        have hrr : r = .err c := by rw [HRL.out, hloop]; rfl
        have HB := Lib.hid hB
        subst hrr
        clear hblk hloop hB
        by_cases hlt : a < (s.size : Int)
        · have hd : decide (a < (s.size : Int)) = true := by simpa using hlt
          clear hlt
          go_wp2_with fail
          go_quiet (fail)
          go_wp2_with fail
          go_ret2
          exact ⟨rfl, below_drewN HB.out _⟩
        · have hd : decide (a < (s.size : Int)) = false := by simpa using hlt
          clear hlt
          go_wp2_with fail
          go_quiet (fail)
          go_wp2_with fail
          go_ret2
          exact ⟨rfl, below_drewN HB.out _⟩
end Go.Proofs.YtedabholcldgbaaGreatDoor.Q

/- The document's Items: the walk. -/
namespace Go.Proofs.YtedabholcldgbaaGreatDoor.Y
open Go.RowKit Go.Deep

theorem Own5.wide {B B0 : Nat} {w00 w0 w : World} {v : Value} {us : List It} (h : Own5 B w0 w v us) (hB : B0 ≤ B) (hb : Below B0 w00 w0) : Own5 B0 w00 w v us := by
  refine ⟨⟨h.own.1, ?_⟩, hb.trans (h.below.mono hB), Nat.le_trans hB h.le⟩
  rcases h.own.2 with e | ⟨g, cap, cur, e1, e2, e3⟩
  · exact .inl e
  · exact .inr ⟨g, cap, cur, e1, Nat.le_trans hB e2, e3⟩
theorem past_ge (n : Nat) (b : UInt8) (r : List UInt8) (d : Int) : 1 ≤ pastF (n + 1) (b :: r) d := by
  have := (stC_le b r).1
  rw [pastF]
  split <;> omega
theorem past_le : ∀ (n : Nat) (l : List UInt8) (d : Int), pastF n l d ≤ l.length + 2
  | 0, _, _ => by rw [pastF]; omega
  | n + 1, [], _ => by rw [pastF]; omega
  | n + 1, b :: r, d => by
    have h := (stC_le b r).2
    rw [pastF, List.length_cons]
    split
    · omega
    · have ih := past_le n ((b :: r).drop (stC b r)) (stD b d)
      by_cases hc : stC b r ≤ (b :: r).length
      · rw [List.length_drop] at ih
        simp only [List.length_cons] at ih hc
        omega
      · rw [List.drop_of_length_le (by omega)]
        have : pastF n [] (stD b d) = 0 := by cases n <;> rw [pastF]
        omega
theorem items_len (N : Nat) : ∀ (n : Nat) (l : List UInt8) (bare : Bool), (itemsL N n l bare).length ≤ n
  | 0, _, _ => by rw [itemsL]; simp
  | n + 1, [], _ => by rw [itemsL]; simp
  | n + 1, b :: r, bare => by
    rw [itemsL]
    split
    · have := items_len N n r true; omega
    · split
      · have := items_len N n r bare; omega
      · split
        · have := items_len N n ((b :: r).drop (endF (b :: r))) bare
          rw [List.length_append]
          split
          · simp only [List.length_cons, List.length_nil]; omega
          · simp only [List.length_nil]; omega
        · have := items_len N n ((b :: r).drop (pastF N (b :: r) 0)) false
          rw [List.length_cons]; omega
set_option linter.unusedSimpArgs false in
set_option maxHeartbeats 4000000 in
set_option maxRecDepth 100000 in
theorem ritems_any (s : ByteArray) (fs : List Fm) (hr : readR s = .ok fs) (w : World) :
    Calls Tryz.prog 53 #[.string s] w fun e w' => ∃ v ts, e = .returned v ∧ ts.map T.form = fs ∧ (∀ t ∈ ts, In w' t) ∧ Own5 w.heap.size w w' v (encI (itemsL (s.size + 1) (s.size + 1) s.data.toList true) ts) := by
  have hs := (readR_loop hr).1
  have HA := Q.read_any s w (by unfold maxLen; omega)
  rw [hr] at HA
  have HA := Lib.hid HA
  obtain ⟨ALL, hALL⟩ : ∃ A, itemsL (s.size + 1) (s.size + 1) s.data.toList true = A := ⟨_, rfl⟩
  rw [hALL]
  have HALL := Lib.hid hALL
  have HR := Lib.hid hr
  clear hALL hr
  go_enter Tryz.func53, Tryz.ntmps53
  go_wp2_with (go_at_call 52; (with_reducible refine HA.out.mono ?_); rintro e w2 ⟨v, rfl, ⟨va, vc, ts, rfl, hI, hfs, hcap, hb1, hb2⟩, hB⟩; have HB := Lib.hid hB; have HI := Lib.hid hI; have HF := Lib.hid hfs; have HC := Lib.hid hcap; clear hB hI hfs hcap hb1 hb2)
  have hN : forms ALL = ts.length := by rw [← HALL.out, items_read HR.out, ← HF.out, List.length_map]
  have HBL := Lib.hid fun (b : Int) (w : World) => rblank_ok b w
  have HE := Lib.hid fun (k : Nat) (hk : k ≤ s.size) (w : World) => ends_any s k hk (by omega) w
  have HN := Lib.hid hN
  have HS := Lib.hid hs
  have hlA : ALL.length ≤ 60001 := by have := items_len (s.size + 1) (s.size + 1) s.data.toList true; rw [HALL.out] at this; omega
  have HLA := Lib.hid hlA
  clear hN hlA
  go_loopg [5, 6, 7, 8, 9] (s.size + 1) (fun m o f br a _ wr => ∃ (k n : Nat) (pre : List (Option (List UInt8))) (bare : Bool), k ≤ s.size + 2 ∧ m = s.size + 1 - k ∧ a = .int .i64 k ∧ br = .bool bare ∧ f = .int .i64 (forms pre) ∧ pre ++ itemsL (s.size + 1) n (s.data.toList.drop k) bare = ALL ∧ s.size < n + k ∧ Own5 w2.heap.size w2 wr o (encI pre ts))
  case atStart => exact ⟨0, s.size + 1, [], true, by omega, rfl, rfl, rfl, rfl, by rw [List.nil_append, List.drop_zero]; exact HALL.out, by omega, Own5.start (Nat.le_refl _) (Below.refl _ _)⟩
  case round =>
    obtain ⟨k, n, pre, bare, hk, rfl, rfl, rfl, rfl, hP, hn, hO⟩ := hrel
    by_cases hlt : k < s.size
    · have gi : (k : Int) < (s.size : Int) := by omega
      have gi2 : (0 : Int) ≤ (k : Int) := by omega
      obtain ⟨n', rfl⟩ : ∃ n', n = n' + 1 := by
        cases n with
        | zero => exact absurd hn (by omega)
        | succ n' => exact ⟨n', rfl⟩
      rw [drop_byte' s k hlt, itemsL, ← drop_byte' s k hlt] at hP
      have HO := Lib.hid hO
      clear hO
      by_cases h10 : s[k].toNat = 10
      · rw [if_pos h10] at hP
        have HP := Lib.hid hP
        have g1 : ((s[k].toNat : Int) == 10) = true := by simp; omega
        clear hP h10
        go_wp2_with fail
        go_roundg (s.size + 1 - (k + 1))
        case measure => omega
        case rel => exact ⟨k + 1, n', pre, true, by omega, rfl, by go_num, rfl, rfl, HP.out, by omega, HO.out⟩
      · rw [if_neg h10] at hP
        have g1 : ((s[k].toNat : Int) == 10) = false := by simp; omega
        by_cases hb : blankB (s[k].toNat : Int) = true
        · rw [if_pos hb] at hP
          have HP := Lib.hid hP
          have HB2 : Hid (∀ W, Calls Tryz.prog 85 #[.int .u8 s[k].toNat] W fun e w' => e = .returned (.bool true) ∧ W = w') := Lib.hid fun W => (by have := HBL.out (s[k].toNat : Int) W; rw [hb] at this; exact this)
          clear hP h10 hb
          go_wp2_with (go_at_call 85; (with_reducible refine (HB2.out _).mono ?_); rintro e w' ⟨rfl, rfl⟩)
          go_roundg (s.size + 1 - (k + 1))
          case measure => omega
          case rel => exact ⟨k + 1, n', pre, bare, by omega, rfl, by go_num, rfl, rfl, HP.out, by omega, HO.out⟩
        · rw [if_neg hb] at hP
          have hb' : blankB (s[k].toNat : Int) = false := by simpa using hb
          have HB2 : Hid (∀ W, Calls Tryz.prog 85 #[.int .u8 s[k].toNat] W fun e w' => e = .returned (.bool false) ∧ W = w') := Lib.hid fun W => (by have := HBL.out (s[k].toNat : Int) W; rw [hb'] at this; exact this)
          by_cases h59 : s[k].toNat = 59
          · rw [if_pos h59, List.drop_drop] at hP
            have g2 : ((s[k].toNat : Int) == 59) = true := by simp; omega
            have hE2 := HE.out k (by omega)
            have hel := endF_le (s.data.toList.drop k)
            have hdl : (s.data.toList.drop k).length = s.size - k := by simp
            rw [hdl] at hel
            have he1 : 1 ≤ endF (s.data.toList.drop k) := by rw [drop_byte' s k hlt, endF, if_neg (by omega)]; omega
            obtain ⟨E, hE⟩ : ∃ E, endF (s.data.toList.drop k) = E := ⟨_, rfl⟩
            rw [hE] at hE2 hP hel he1
            have HE2 := Lib.hid hE2
            have gE : (0 : Int) ≤ (E : Int) := by omega
            cases bare with
            | false =>
              rw [if_neg (by decide), List.nil_append] at hP
              have HP := Lib.hid hP
              clear hP h10 hb hb' h59 hE hdl hE2
              go_wp2_with (first
                | (go_at_call 85; (with_reducible refine (HB2.out _).mono ?_); rintro e w' ⟨rfl, rfl⟩)
                | (go_at_call 86; (with_reducible refine (HE2.out _).mono ?_); rintro e w' ⟨rfl, rfl⟩))
              go_roundg (s.size + 1 - (k + E))
              case measure => omega
              case rel => exact ⟨k + E, n', pre, false, by omega, rfl, rfl, rfl, rfl, HP.out, by omega, HO.out⟩
            | true =>
              rw [if_pos rfl] at hP
              have hpl : (encI pre ts).length ≤ 1000000 := by
                have := HLA.out
                rw [← hP, List.length_append] at this
                rw [enc_len]; omega
              have hxt : (s.extract k (k + E)).data.toList = (s.data.toList.drop k).take E := by
                simp [ByteArray.data_extract, List.extract_eq_take_drop]
              obtain ⟨X, hX⟩ : ∃ X, s.extract k (k + E) = X := ⟨_, rfl⟩
              obtain ⟨C, hC⟩ : ∃ C, trmF ((s.data.toList.drop k).take E) = C := ⟨_, rfl⟩
              rw [hC] at hP
              have hxs : X.size ≤ 1000000000 := by rw [← hX]; simp; omega
              have HTR : Hid (∀ W, Calls Tryz.prog 87 #[.string X] W fun e w' => e = .returned (.string ⟨C.toArray⟩) ∧ W = w') := Lib.hid fun W => by
                have := trimmed_any X hxs W
                rw [← hX, hxt, hC] at this
                rw [← hX]
                exact this
              have HP := Lib.hid (show (pre ++ [some C]) ++ itemsL (s.size + 1) n' (s.data.toList.drop (k + E)) true = ALL by rw [← hP]; simp)
              have HPL := Lib.hid hpl
              have HX := Lib.hid hX
              clear hP h10 hb hb' h59 hdl hE2 hE hxt hC hxs hpl
              go_wp2_with (first
                | (go_at_call 85; (with_reducible refine (HB2.out _).mono ?_); rintro e w' ⟨rfl, rfl⟩)
                | (go_at_call 86; (with_reducible refine (HE2.out _).mono ?_); rintro e w' ⟨rfl, rfl⟩)
                | (go_at_call 87; rw [HX.out]; (with_reducible refine (HTR.out _).mono ?_); rintro e w' ⟨rfl, rfl⟩)
                | (at_builtin; refine own5_push rfl _ _ 67 rfl Tryz.underlying67 rfl (HO.out.next (bel1 _ _)) ⟨⟨C.toArray⟩, noT⟩ 1 _ rfl (heap_alloc_new _ _) HPL.out ?_; intro v3 w3 ho3 hg3 hv3; have HO3 := Lib.hid ho3; have HG3 := Lib.hid hg3; clear ho3 hg3 hv3))
              go_roundg (s.size + 1 - (k + E))
              case measure => omega
              case rel =>
                refine ⟨k + E, n', pre ++ [some C], true, by omega, rfl, rfl, rfl, ?_, HP.out, by omega, ?_⟩
                · simp [forms]
                · rw [enc_some]; exact HO3.out
          · rw [if_neg h59, List.drop_drop] at hP
            have g2 : ((s[k].toNat : Int) == 59) = false := by simp; omega
            obtain ⟨P, hPP⟩ : ∃ P, pastF (s.size + 1) (s.data.toList.drop k) 0 = P := ⟨_, rfl⟩
            rw [hPP] at hP
            have hp1 : 1 ≤ P := by rw [← hPP, drop_byte' s k hlt]; exact past_ge _ _ _ _
            have hp2 : P ≤ s.size - k + 2 := by
              have := past_le (s.size + 1) (s.data.toList.drop k) 0
              rw [hPP] at this
              simpa using this
            have hPA : ∀ W, Calls Tryz.prog 88 #[.string s, .int .i64 k] W fun e w' => e = .returned (.int .i64 (k + P : Nat)) ∧ W = w' := by
              intro W
              have := past_any s k (by omega) (by omega) W
              rw [hPP] at this
              exact this
            have HPA := Lib.hid hPA
            have hfn : forms pre < ts.length := by
              rw [← HN.out, ← hP, forms_append, forms_cons_none]; omega
            have hpl : (encI pre ts).length ≤ 1000000 := by
              have := HLA.out
              rw [← hP, List.length_append] at this
              rw [enc_len]; omega
            obtain ⟨⟨b, o, rfl, hx0, hx1, hx2, hx3⟩, hin⟩ := (HI.out.below HO.out.below).at (forms pre) hfn
            have HX : Hid (wr.cell? ⟨b, o + forms pre * 4, none⟩ = some (.int .i64 ts[forms pre].kd) ∧ wr.cell? ⟨b, o + forms pre * 4 + 1, none⟩ = some (.int .i64 ts[forms pre].nn) ∧ wr.cell? ⟨b, o + forms pre * 4 + 2, none⟩ = some (.string ts[forms pre].tx) ∧ wr.cell? ⟨b, o + forms pre * 4 + 3, none⟩ = some (.slice ts[forms pre].ad ts[forms pre].ks.length ts[forms pre].cp)) := Lib.hid ⟨hx0, hx1, hx2, hx3⟩
            have gf : (forms pre : Int) < (ts.length : Int) := by omega
            have gf0 : (0 : Int) ≤ (forms pre : Int) := by omega
            have HP := Lib.hid (show (pre ++ [none]) ++ itemsL (s.size + 1) n' (s.data.toList.drop (k + P)) false = ALL by rw [← hP]; simp)
            have HPL := Lib.hid hpl
            have HFN := Lib.hid hfn
            clear hP h10 hb hb' h59 hPP hPA hpl hx0 hx1 hx2 hx3 hin
            obtain ⟨y0, y1, y2, y3⟩ := HX.out
            go_wp2_with (first
              | (go_at_call 85; (with_reducible refine (HB2.out _).mono ?_); rintro e w' ⟨rfl, rfl⟩)
              | (go_at_call 88; (with_reducible refine (HPA.out _).mono ?_); rintro e w' ⟨rfl, rfl⟩)
              | (at_builtin; refine own5_push rfl _ _ 67 rfl Tryz.underlying67 rfl (HO.out.next (bel1 _ _)) ⟨⟨#[]⟩, ts[forms pre]⟩ 1 _ rfl (heap_alloc_new _ _) HPL.out ?_; intro v3 w3 ho3 hg3 hv3; have HO3 := Lib.hid ho3; clear ho3 hg3 hv3))
            have hw : wrap64 ((forms pre : Int) + 1) = (forms pre : Int) + 1 := by
              have := HFN.out
              have := HC.out.1
              have := HC.out.2
              unfold maxLen at this
              unfold wrap64
              omega
            go_roundg (s.size + 1 - (k + P))
            case measure => omega
            case rel =>
              refine ⟨k + P, n', pre ++ [none], false, by omega, rfl, by go_num, rfl, ?_, HP.out, by omega, ?_⟩
              · rw [hw, forms_append]; simp [forms]
              · rw [enc_none pre ts HFN.out]; exact HO3.out
    · have gi : ¬ (k : Int) < (s.size : Int) := by omega
      rw [List.drop_of_length_le (by simp; omega)] at hP
      have hp0 : pre = ALL := by
        rw [← hP]
        cases n <;> rw [itemsL, List.append_nil]
      have HP := Lib.hid hp0
      have HO := Lib.hid hO
      clear hP hp0 hO
      go_wp2_with fail
      go_ret
      exact ⟨_, rfl, ts, HF.out, (HI.out.below HO.out.below).kids, HP.out ▸ HO.out.wide HB.out.size HB.out⟩
end Go.Proofs.YtedabholcldgbaaGreatDoor.Y

/- The document's Comments. -/
namespace Go.Proofs.YtedabholcldgbaaGreatDoor.Y
open Go.RowKit Go.Deep

/-- The comments among the first items. -/
def comI (l : List It) : List (List UInt8) := (l.filter fun i => !(i.com.data.toList.isEmpty)).map fun i => i.com.data.toList
theorem Own5.cell {B : Nat} {w0 w : World} {v : Value} {us : List It} (h : Own5 B w0 w v us) (k : Nat) (hk : k < us.length) :
    ∃ g cap, v = .slice (some ⟨g, 0, none⟩) us.length cap ∧ us.length ≤ cap ∧ B ≤ g ∧ g < w.heap.size ∧ w.cell? ⟨g, k * 5, none⟩ = some (.string us[k].com) := by
  have ho := h.own
  rcases h.own.2 with ⟨rfl, e⟩ | ⟨g, cap, cur, rfl, hb, hg, hr⟩
  · omega
  · refine ⟨g, cap, rfl, hr.1, hb, lt_of_getElem? hg, ?_⟩
    have hc := (cells5_get us k hk).1
    rw [← hr.2.2.2, List.getElem?_take] at hc
    split at hc
    · simp only [World.cell?, hg]
      simpa using hc
    · cases hc
/-- The slice v owns the texts l, from block B on; below B nothing has turned since w0. -/
structure OwnS (B : Nat) (w0 w : World) (v : Value) (l : List (List UInt8)) : Prop where
  own : w.ownsRow B 9 1 v l.length (strV l)
  below : Below B w0 w
  le : B ≤ w.heap.size
theorem OwnS.next {B : Nat} {w0 w w' : World} {v : Value} {l : List (List UInt8)} (h : OwnS B w0 w v l) (hb : Below w.heap.size w w') : OwnS B w0 w' v l :=
  ⟨own_same h.own fun k hk => hb.block k (h.own.lt k hk).2, h.below.trans (hb.mono h.le), Nat.le_trans h.le hb.size⟩
theorem ownS_wide {B B0 : Nat} {w : World} {e : TypeId} {size n : Nat} {v : Value} {xs : List Value} (h : w.ownsRow B e size v n xs) (hB : B0 ≤ B) : w.ownsRow B0 e size v n xs := by
  refine ⟨h.1, ?_⟩
  rcases h.2 with e | ⟨g, cap, cur, e1, e2, e3⟩
  · exact .inl e
  · exact .inr ⟨g, cap, cur, e1, Nat.le_trans hB e2, e3⟩
/-- append of a text that stands in a block. -/
theorem ownS_push {ops : Array Oper} {rest : List Oper} {o : Oper} {a : Act} {Q : Exit → Act → World → Prop} (hgd : o.guard = none) (s x : Operand) (t : TypeId)
    (ho : o.op = .call { callee := .builtin .append, args := #[s, x], argTypes := #[t, t] }) (ht : Tryz.prog.underlying t = some (.slice 9))
    {B : Nat} {w0 w : World} {v : Value} {l : List (List UInt8)} (hs : a.eval s = v) (hb : OwnS B w0 w v l) (u : ByteArray) (c A : Nat)
    (hx : a.eval x = .slice (some ⟨A, 0, none⟩) 1 c) (hA : w.heap[A]? = some (.cells #[.string u] 9 (0, 0))) (hlen : l.length ≤ 1000000)
    (h : ∀ v' w', OwnS B w0 w' v' (l ++ [u.data.toList]) → wpList Tryz.prog ops Q rest (a.put o.dst v') w') : wpList Tryz.prog ops Q (o :: rest) a w := by
  obtain ⟨i0, hi0, hz0, hz1, hz2⟩ := info_parts infoStr
  have hl : (l ++ [u.data.toList]).length = l.length + 1 := by simp
  have hAl := lt_of_getElem? hA
  refine wpList_append_lies _ hgd s x t ho B 9 i0 _ 1 16 ht hi0 hz0 hz1 hz2 rfl (by decide) v l.length (strV l) hs hb.own ⟨A, 0, none⟩ 1 c [.string u] hx (by simp)
    (fun j y hy => World.news_of_block (cs := #[.string u]) (t := 9) (fr := (0, 0)) hA j y (by simpa using hy)) (by intro y hy; simp at hy; subst hy; rfl) (by omega) (by unfold maxLen; omega) (by omega) hb.le w.heap.size rfl ?_
  intro g cap w' ho' hg hat hlt
  refine h _ w' ⟨?_, ?_, ?_⟩
  · rw [hl]
    have e : strV (l ++ [u.data.toList]) = strV l ++ [.string u] := by simp [strV]
    rw [e]; exact ho'
  · exact hb.below.grown hg hb.le fun k hk => (hb.own.lt k hk).1
  · have := hg.size; have := hb.le; omega
set_option linter.unusedSimpArgs false in
set_option maxHeartbeats 4000000 in
set_option maxRecDepth 100000 in
theorem rcomments_any (s : ByteArray) (fs : List Fm) (hr : readR s = .ok fs) (w : World) :
    Calls Tryz.prog 24 #[.string s] w fun e w' => ∃ v, e = .returned (.tuple #[v, .int .i64 0]) ∧ w'.ownsRow w.heap.size 9 1 v (comS (piecesT s.data.toList)).length (strV (comS (piecesT s.data.toList))) ∧ Below w.heap.size w w' := by
  have hs := (readR_loop hr).1
  have HA := Q.read_any s w (by unfold maxLen; omega)
  rw [hr] at HA
  have HA := Lib.hid HA
  have HI := Lib.hid fun W => ritems_any s fs hr W
  go_enter Tryz.func24, Tryz.ntmps24
  go_wp2_with (first
    | (go_at_call 52; (with_reducible refine HA.out.mono ?_); rintro e w2 ⟨v, rfl, _, hB⟩; have HB := Lib.hid hB; clear hB)
    | (go_at_call 53; (with_reducible refine (HI.out _).mono ?_); rintro e w3 ⟨v, ts, rfl, hfs, _, hO⟩; have HO := Lib.hid hO; have HF := Lib.hid hfs; clear hO hfs))
  obtain ⟨ALL, hALL⟩ : ∃ A, itemsL (s.size + 1) (s.size + 1) s.data.toList true = A := ⟨_, rfl⟩
  obtain ⟨us, hus⟩ : ∃ us, encI ALL ts = us := ⟨_, rfl⟩
  have hlu : us.length ≤ 60001 := by
    have := items_len (s.size + 1) (s.size + 1) s.data.toList true
    rw [hALL] at this
    rw [← hus, enc_len]; omega
  have hci : comI us = comS (piecesT s.data.toList) := by
    rw [← items_comments hr, hALL, ← hus]
    exact enc_comments ALL ts fun c hc => items_some (s.size + 1) (s.size + 1) s.data.toList true c (by rw [hALL]; exact hc)
  have HO : Hid (Own5 w2.heap.size w2 w3 v us) := Lib.hid (by rw [← hus, ← hALL]; exact HO.out)
  have HCI := Lib.hid hci
  have HLU := Lib.hid hlu
  have hv : ∃ va vc, v = .slice va us.length vc ∧ us.length ≤ vc := by
    rcases HO.out.own.2 with ⟨e1, e2⟩ | ⟨g, cap, cur, e1, e2, e3, e4⟩
    · exact ⟨none, 0, by rw [e1, e2], by omega⟩
    · exact ⟨_, _, e1, e4.1⟩
  obtain ⟨va, vc, rfl, hvc⟩ := hv
  have HVC := Lib.hid hvc
  clear hr hci hlu hALL hus hvc
  go_loopg [6, 8] (us.length) (fun m o i wr => ∃ k : Nat, k ≤ us.length ∧ m = us.length - k ∧ i = .int .i64 k ∧ OwnS w3.heap.size w3 wr o (comI (us.take k)))
  case atStart => exact ⟨0, by omega, rfl, rfl, ⟨World.ownsRow_nil _ _ _ _, Below.refl _ _, Nat.le_refl _⟩⟩
  case round =>
    obtain ⟨k, hk, rfl, rfl, hO2⟩ := hrel
    by_cases hlt : k < us.length
    · have gi : (k : Int) < (us.length : Int) := by omega
      have gi2 : (0 : Int) ≤ (k : Int) := by omega
      have hkb : k ≤ 60001 := by have := HLU.out; omega
      obtain ⟨g, cap, e, hcap, hg1, hg2, hcell⟩ := HO.out.cell k hlt
      obtain ⟨rfl, rfl⟩ : va = some ⟨g, 0, none⟩ ∧ vc = cap := by cases e; exact ⟨rfl, rfl⟩
      have y0 : wr.cell? ⟨g, k * 5, none⟩ = some (.string us[k].com) := (hO2.below.cell (p := ⟨g, k * 5, none⟩) hg2).trans hcell
      have HO2 := Lib.hid hO2
      obtain ⟨u, hu⟩ : ∃ u, us[k].com = u := ⟨_, rfl⟩
      rw [hu] at y0
      have htk : us.take (k + 1) = us.take k ++ [us[k]] := by rw [List.take_add_one]; simp [hlt]
      have hcl : (comI (us.take k)).length ≤ 1000000 := by
        have := HLU.out
        unfold comI
        rw [List.length_map]
        exact Nat.le_trans (List.length_filter_le _ _) (by rw [List.length_take]; omega)
      by_cases hz : u.data.toList.isEmpty = true
      · have e0 : u = ⟨#[]⟩ := by
          have : u.data.toList = [] := by simpa using hz
          have : u.data = #[] := by simpa using this
          cases u; simp at this; rw [this]
        subst e0
        have HR2 : Hid (comI (us.take (k + 1)) = comI (us.take k)) := Lib.hid (by rw [htk]; unfold comI; rw [List.filter_append, List.filter_cons, if_neg (by rw [hu]; simp)]; simp)
        clear hz hu hO2 hcell e htk hcl
        go_wp2_with fail
        go_roundg (us.length - (k + 1))
        case measure => omega
        case rel => exact ⟨k + 1, by omega, rfl, by go_num, by rw [HR2.out]; exact HO2.out⟩
      · have gu : u.toList.isEmpty = false := by rw [ByteArray.toList_eq]; simpa using hz
        have HR2 : Hid (comI (us.take (k + 1)) = comI (us.take k) ++ [u.data.toList]) := Lib.hid (by rw [htk]; unfold comI; rw [List.filter_append, List.filter_cons, if_pos (by rw [hu]; simpa using hz)]; simp [hu])
        have HCL := Lib.hid hcl
        clear hz hu hO2 hcell e htk hcl
        go_wp2_with (at_builtin; refine ownS_push rfl _ _ 38 rfl Tryz.underlying38 rfl (HO2.out.next (bel1 _ _)) u 1 _ rfl (heap_alloc_new _ _) HCL.out ?_; intro v4 w4 ho4; have HO4 := Lib.hid ho4; clear ho4)
        go_roundg (us.length - (k + 1))
        case measure => omega
        case rel => exact ⟨k + 1, by omega, rfl, by go_num, by rw [HR2.out]; exact HO4.out⟩
    · have gi : ¬ (k : Int) < (us.length : Int) := by omega
      have hk2 : k = us.length := by omega
      have hO3 : OwnS w3.heap.size w3 wr u6 (comS (piecesT s.data.toList)) := by rw [← HCI.out]; rw [hk2, List.take_length] at hO2; exact hO2
      have HO3 := Lib.hid hO3
      clear hO2 hO3 hk2
      go_wp2_with fail
      exact bodyPost_ret (v := .tuple #[u6, .int .i64 0]) (by simp [results, Tryz.results24, go_sem]) rfl ⟨_, rfl, ownS_wide HO3.out.own (Nat.le_trans HB.out.size HO.out.le), up HB.out (up HO.out.below HO3.out.below)⟩
end Go.Proofs.YtedabholcldgbaaGreatDoor.Y

/- Both Comments, over any text. -/
namespace Go.Proofs.YtedabholcldgbaaGreatDoor.Y
open Go.RowKit Go.Deep

/-- What Comments tells. -/
def comR (d : ByteArray) : List (List UInt8) × Int := match readR d with | .ok _ => (comS (piecesT d.data.toList), 0) | .err c => ([], c)
def ComEnd (d : ByteArray) (w w' : World) (e : Ending) : Prop := ∃ v, e = .returned (.tuple #[v, .int .i64 (comR d).2]) ∧ w'.ownsRow w.heap.size 9 1 v (comR d).1.length (strV (comR d).1) ∧ Below w.heap.size w w'
theorem lcomments_any (d : ByteArray) (hd : d.size ≤ maxLen) (w : World) (hg : Glob w) (h6 : 8 ≤ w.heap.size) : Calls Tryz.prog 23 #[.string d] w fun e w' => ComEnd d w w' e := by
  unfold ComEnd comR
  cases hr : readR d with
  | ok fs => exact callsIn_wide.1 (comments_in 10 (by decide) d fs hr w hg h6)
  | err c =>
    refine (callsIn_wide.1 (comments_err d c hd hr w hg h6 1 (by decide))).mono ?_
    rintro e w' ⟨rfl, hB⟩
    exact ⟨_, rfl, World.ownsRow_nil _ _ _ _, hB⟩
set_option linter.unusedSimpArgs false in
set_option maxHeartbeats 4000000 in
theorem rcomments_all (d : ByteArray) (hd : d.size ≤ maxLen) (w : World) : Calls Tryz.prog 24 #[.string d] w fun e w' => ComEnd d w w' e := by
  unfold ComEnd comR
  have HA := Q.read_any d w hd
  cases hr : readR d with
  | ok fs => exact rcomments_any d fs hr w
  | err c =>
    rw [hr] at HA
    have HA := Lib.hid HA
    have hc : (c != 0) = true := by have := readR_err hr; simpa using this
    clear hr
    go_enter Tryz.func24, Tryz.ntmps24
    go_wp2_with (go_at_call 52; (with_reducible refine HA.out.mono ?_); rintro e w2 ⟨rfl, hB⟩; have HB := Lib.hid hB; clear hB)
    exact bodyPost_ret (v := .tuple #[.slice none 0 0, .int .i64 c]) (by simp [results, Tryz.results24, go_sem]) rfl ⟨_, rfl, World.ownsRow_nil _ _ _ _, HB.out⟩
end Go.Proofs.YtedabholcldgbaaGreatDoor.Y

/- reader.Write and reader.Sum. -/
namespace Go.Proofs.YtedabholcldgbaaGreatDoor
open Go.RowKit Go.Deep

theorem Tab.mono {B B' : Nat} {w : World} (h : Tab B w) (hB : B ≤ B') : Tab B' w := fun w' hb => h w' (hb.mono hB)
theorem Tab.next {w w' : World} (h : Tab w.heap.size w) (hb : Below w.heap.size w w') : Tab w'.heap.size w' := Tab.mono (h.on hb) hb.size
theorem conv_buf {B : Nat} {w0 w : World} {v : Value} {l : List UInt8} (h : Buf B w0 w v l) : (convert 46 9 v).run Tryz.prog w = .ok (.string ⟨l.toArray⟩) w := conv_row h.own 0
theorem wrF_no {f : Fm} (h : validF f = false) : wrF f = [] := by unfold wrF; rw [if_neg (by rw [h]; simp)]
theorem wrF_yes {f : Fm} (h : validF f = true) : wrF f = txF f := by unfold wrF; rw [if_pos h]
set_option maxHeartbeats 1000000 in
theorem write_any (t : T) (w : World) (hin : In w t) (hb : szF t.form ≤ 4611686018427387903) (ht : Tab w.heap.size w) :
    Calls Tryz.prog 140 #[t.val] w fun e w' => e = .returned (.string ⟨(wrF t.form).toArray⟩) ∧ Below w.heap.size w w' := by
  have HV := Lib.hid fun W (h : In W t) => valid_any t W h hb
  cases hv : validF t.form with
  | false =>
    rw [wrF_no hv]
    rw [hv] at HV
    clear hv
    go_enter Tryz.func140, Tryz.ntmps140
    go_wp2_with (go_at_call 30; refine (HV.out _ (hin.alloc _)).mono ?_; rintro e w2 ⟨rfl, hB⟩)
    go_ret
    exact ⟨rfl, up (bel1 _ _) hB⟩
  | true =>
    rw [wrF_yes hv]
    obtain ⟨h1, _, h3⟩ := valid_parts hv
    have HA := Lib.hid fun W (h : In W t) (h2 : Tab W.heap.size W) => appendForm_T W.heap.size t (.slice none 0 0) [] W h (fun b hb => h.lt hb) (Buf.start (Nat.le_refl _)) h2 h3 (by simp; omega)
    rw [hv] at HV
    simp only [List.nil_append] at HA
    have HI := Lib.hid hin
    have HT := Lib.hid ht
    clear hv h3 hin ht
    go_enter Tryz.func140, Tryz.ntmps140
    go_wp2_with (first
      | (go_at_call 30; refine (HV.out _ (HI.out.alloc _)).mono ?_; rintro e w2 ⟨rfl, hB⟩; obtain ⟨c0, c1, c2, c3⟩ := Box4.cells (w := w2) (b := w.heap.size) (t := t) ((hB.block _ (by simp)).trans (heap_alloc_new w _)); have HB := Lib.hid (up (bel1 _ _) hB); clear hB)
      | (go_at_call 31; refine (HA.out _ (HI.out.below HB.out) (HT.out.next HB.out)).mono ?_; rintro e w3 ⟨v3, rfl, hb3⟩; have hcv := conv_buf hb3; have HB3 := Lib.hid hb3; clear hb3))
    go_ret
    exact ⟨rfl, up HB.out HB3.out.below⟩

/-- The checksum of bytes. -/
def sumL (l : List UInt8) : Int := l.foldl (fun n b => (31 * n + (b.toNat : Int)) % 1000003) 7
theorem sumL_snoc (l : List UInt8) (b : UInt8) : sumL (l ++ [b]) = (31 * sumL l + (b.toNat : Int)) % 1000003 := by simp [sumL]
theorem sumL_rng (l : List UInt8) : 0 ≤ sumL l ∧ sumL l ≤ 1000003 := by
  rcases List.eq_nil_or_concat l with rfl | ⟨l, b, rfl⟩
  · simp [sumL]
  · rw [List.concat_eq_append, sumL_snoc]; omega
theorem sumL_next {d : ByteArray} {k : Nat} (h : k < d.size) : sumL (d.data.toList.take (k + 1)) = (31 * sumL (d.data.toList.take k) + (d[k].toNat : Int)) % 1000003 := by
  rw [take_byte d k h, sumL_snoc]
end Go.Proofs.YtedabholcldgbaaGreatDoor

/- layout's sheet: what lies in memory, and what is put behind it. -/
namespace Go.Proofs.YtedabholcldgbaaGreatDoor.Y
open Go.RowKit Go.Deep

/-- The sheet in block S, with its bytes l; nothing of w0 has turned. -/
structure Sh (w0 w : World) (S : Nat) (ov : Value) (wd : Nat) (l : List UInt8) : Prop where
  blk : w.heap[S]? = some (.cells #[ov, .int .i64 wd] 88 (0, 0))
  own : w.ownsRow w0.heap.size 5 1 ov l.length (bytesV l)
  below : Below w0.heap.size w0 w
  hS : w0.heap.size ≤ S
  ne : ov.ownBlock ≠ some S
theorem row_bytes {w : World} {B : Nat} {v : Value} {l : List UInt8} (h : w.ownsRow B 5 1 v l.length (bytesV l)) : ∀ g, v.ownBlock = some g → ∃ c fz, w.heap[g]? = some (.cells c 5 fz) := by
  intro g hg
  rcases h.2 with ⟨rfl, _⟩ | ⟨g', cap, cur, rfl, _, hc, _⟩
  · cases hg
  · simp only [Value.ownBlock, Option.some.injEq] at hg
    subst hg
    exact ⟨_, _, hc⟩
theorem Sh.cells {w0 w : World} {S : Nat} {ov : Value} {wd : Nat} {l : List UInt8} (h : Sh w0 w S ov wd l) : w.cell? ⟨S, 0, none⟩ = some ov ∧ w.cell? ⟨S, 1, none⟩ = some (.int .i64 wd) ∧ w.frozen? ⟨S, 0, none⟩ = false := by
  refine ⟨?_, ?_, ?_⟩ <;> simp [World.cell?, World.frozen?, h.blk]
theorem Sh.next {w0 w w' : World} {S : Nat} {ov : Value} {wd : Nat} {l : List UInt8} (h : Sh w0 w S ov wd l) (hb : Below w.heap.size w w') : Sh w0 w' S ov wd l :=
  ⟨(hb.block S (lt_of_block h.blk)).trans h.blk, own_same h.own fun k hk => hb.block k (h.own.lt k hk).2, upB h.below hb (Nat.le_refl _), h.hS, h.ne⟩
theorem Sh.alloc {w0 w : World} {S : Nat} {ov : Value} {wd : Nat} {l : List UInt8} (h : Sh w0 w S ov wd l) (o : Obj) : Sh w0 (w.alloc o) S ov wd l := h.next (bel1 _ _)
theorem Sh.drew {w0 w : World} {S : Nat} {ov : Value} {wd : Nat} {l : List UInt8} (h : Sh w0 w S ov wd l) : Sh w0 w.drew S ov wd l := h.next (Below.refl _ _).drew
/-- Nothing but the sheet and bytes has turned since w. -/
structure Kept (S : Nat) (w w' : World) : Prop where
  others : Lib.OthersKept 5 (some S) w w'
  size : w.heap.size ≤ w'.heap.size
theorem Kept.refl (S : Nat) (w : World) : Kept S w w := ⟨Lib.OthersKept.refl _ _ _, Nat.le_refl _⟩
theorem Kept.trans {S : Nat} {w w' w'' : World} (h : Kept S w w') (k : Kept S w' w'') : Kept S w w'' := ⟨h.others.trans k.others, Nat.le_trans h.size k.size⟩
theorem Kept.below {S : Nat} {w w' w'' : World} (h : Kept S w w') (hb : Below w'.heap.size w' w'') : Kept S w w'' := ⟨h.others.below hb, Nat.le_trans h.size hb.size⟩
theorem Kept.of {S : Nat} {w w' : World} (hb : Below w.heap.size w w') : Kept S w w' := (Kept.refl S w).below hb
theorem Kept.alloc {S : Nat} {w w' : World} (h : Kept S w w') (o : Obj) : Kept S w (w'.alloc o) := h.below (bel1 _ _)
/-- A boxed form stays. -/
theorem Kept.box {S : Nat} {w w' : World} {n : Nat} {t : T} (h : Kept S w w') (hb : Box4 w n t) (hn : n ≠ S) : Box4 w' n t :=
  h.others n _ hb (fun e => hn (by simpa using e)) (by intro c fz e; injection e with _ e _; exact absurd e (by decide))
/-- Between an append and its store. -/
structure ShMid (w0 w w' : World) (S : Nat) (ov v' : Value) (wd : Nat) (l : List UInt8) : Prop where
  blk : w'.heap[S]? = some (.cells #[ov, .int .i64 wd] 88 (0, 0))
  own : w'.ownsRow w0.heap.size 5 1 v' l.length (bytesV l)
  below : Below w0.heap.size w0 w'
  hS : w0.heap.size ≤ S
  kept : Kept S w w'
theorem ShMid.cells {w0 w w' : World} {S : Nat} {ov v' : Value} {wd : Nat} {l : List UInt8} (h : ShMid w0 w w' S ov v' wd l) : w'.cell? ⟨S, 0, none⟩ = some ov ∧ w'.frozen? ⟨S, 0, none⟩ = false := by
  refine ⟨?_, ?_⟩ <;> simp [World.cell?, World.frozen?, h.blk]
theorem ShMid.ne {w0 w w' : World} {S : Nat} {ov v' : Value} {wd : Nat} {l : List UInt8} (h : ShMid w0 w w' S ov v' wd l) : v'.ownBlock ≠ some S := fun e => by
  obtain ⟨c, fz, hc⟩ := row_bytes h.own S e
  rw [h.blk] at hc
  injection hc with hc
  injection hc with _ hc _
  exact absurd hc (by decide)
theorem row_slice {w : World} {B : Nat} {v : Value} {l : List UInt8} (h : w.ownsRow B 5 1 v l.length (bytesV l)) : ∃ a n c, v = .slice a n c := by
  rcases h.2 with ⟨rfl, _⟩ | ⟨g', cap, cur, rfl, _⟩
  · exact ⟨none, 0, 0, rfl⟩
  · exact ⟨_, _, _, rfl⟩
/-- The store. -/
theorem ShMid.store {w0 w w' : World} {S : Nat} {ov v' : Value} {wd : Nat} {l : List UInt8} (h : ShMid w0 w w' S ov v' wd l) : Sh w0 (w'.setCell ⟨S, 0, none⟩ v') S v' wd l ∧ Kept S w (w'.setCell ⟨S, 0, none⟩ v') := by
  refine ⟨⟨?_, ownsRow_setCell_other h.own (by simpa using h.ne) _, h.below.setCell (p := ⟨S, 0, none⟩) h.hS _, h.hS, h.ne⟩, ⟨h.kept.others.setCell _ rfl _, by simpa using h.kept.size⟩⟩
  simpa using heap_setCell_same w' S 0 _ _ v' h.blk
theorem Sh.grown {w0 w W w' : World} {S : Nat} {ov v' : Value} {wd : Nat} {l l' : List UInt8} (h : Sh w0 W S ov wd l) (hk : Kept S w W) (hg : W.grownBy w' ov.ownBlock) (ho : w'.ownsRow w0.heap.size 5 1 v' l'.length (bytesV l')) : ShMid w0 w w' S ov v' wd l' :=
  ⟨(hg.block S (lt_of_block h.blk) fun e => h.ne e.symm).trans h.blk, ho, h.below.grown hg h.below.size fun b hb => (h.own.lt b hb).1, h.hS, hk.others.grown hg (row_bytes h.own), Nat.le_trans hk.size hg.size⟩
/-- append of bytes that were laid for the statement. -/
theorem sh_bytes {ops : Array Oper} {rest : List Oper} {o : Oper} {a : Act} {Q : Exit → Act → World → Prop} (hgd : o.guard = none) (s x : Operand) (t : TypeId)
    (ho : o.op = .call { callee := .builtin .append, args := #[s, x], argTypes := #[t, t] }) (ht : Tryz.prog.underlying t = some (.slice 5))
    {w0 w : World} {S : Nat} {ov : Value} {wd : Nat} {l : List UInt8} (hs : a.eval s = ov) (hb : Sh w0 w S ov wd l) (news : List UInt8) (cs : Array Value) (hcs : cs.toList = bytesV news) (m : Nat) (hm : news.length = m) (c A : Nat)
    (hx : a.eval x = .slice (some ⟨A, 0, none⟩) m c) (hA : w.heap.size = A) (hlen : l.length + m ≤ 140737488355328)
    (h : ∀ va vn vc w', ShMid w0 w w' S ov (.slice va vn vc) wd (l ++ news) → wpList Tryz.prog ops Q rest (a.put o.dst (.slice va vn vc)) w') : wpList Tryz.prog ops Q (o :: rest) a (w.alloc (.cells cs 5)) := by
  subst hA
  obtain ⟨i0, hi0, hz0, hz1, hz2⟩ := info_parts info5
  have hb' := hb.alloc (.cells cs 5)
  have hl : (l ++ news).length = l.length + m := by simp [hm]
  refine wpList_append_own _ hgd s x t ho w0.heap.size 5 i0 (.int .u8 0) 1 1 ht hi0 hz0 hz1 hz2 rfl (by decide) ov l.length (bytesV l) hs hb'.own ⟨w.heap.size, 0, none⟩ m c (bytesV news) hx (by simp [bytesV, hm])
    (fun j u hu => World.news_of_block (cs := cs) (t := 5) (fr := (0, 0)) (heap_alloc_new w _) j u (by rw [hcs]; exact hu)) (bytesV_one news) (by unfold maxLen; omega) (by omega) hb'.below.size ?_
  intro v' w' ho' hg _
  have hm := hb'.grown (l' := l ++ news) ((Kept.refl S w).alloc _) hg (by rw [hl, bytesV_append]; exact ho')
  obtain ⟨va, vn, vc, rfl⟩ := row_slice hm.own
  exact h va vn vc w' hm
/-- append of a string's bytes, as a step of a region that draws. -/
theorem step_text {ops : Array Oper} {o : Oper} {a : Act} {K : Act → World → Prop} {Q : Exit → Act → World → Prop} {E : Prop} (hgd : o.guard = none) (sl x : Operand) (t u : TypeId)
    (ho : o.op = .call { callee := .builtin .append, args := #[sl, x], argTypes := #[t, u] }) (ht : Tryz.prog.underlying t = some (.slice 5)) (hu : Tryz.prog.underlying u = some .string)
    {w0 w : World} {S : Nat} {ov : Value} {wd : Nat} {l : List UInt8} (hs : a.eval sl = ov) (hb : Sh w0 w S ov wd l) (d : ByteArray) (hx : a.eval x = .string d) (hlen : l.length + d.size ≤ 140737488355328)
    (h : ∀ va vn vc w', ShMid w0 w w' S ov (.slice va vn vc) wd (l ++ d.data.toList) → K (a.put o.dst (.slice va vn vc)) w') : if Region.wanted o (yielded ops a.tmps) = true then Oper.wp Tryz.prog o a w K Q else E := by
  have hw : Region.wanted o (yielded ops a.tmps) = true := by simp [Region.wanted, hgd]
  rw [if_pos hw]
  obtain ⟨i0, hi0, hz0, hz1, hz2⟩ := info_parts info5
  have hl : (l ++ d.data.toList).length = l.length + d.size := by simp
  obtain ⟨v', w', hr, h2, h3, h4⟩ := Lib.run_append_own_string (P := Tryz.prog) w w0.heap.size t u o.type 5 i0 ht hu hi0 hz0 hz1 hz2 ov l.length (bytesV l) hb.own d (by unfold maxLen; omega) (by omega) hb.below.size
  unfold Oper.wp execOp
  simp only [ho, resolve, invoke, builtin, Sem.run_bind, Sem.run_pure, Result.andThen_ok, List.map_toArray, List.map_cons, List.map_nil, hs, hx, hr]
  have hm := hb.grown (l' := l ++ d.data.toList) (Kept.refl S w) h3 (by rw [hl, bytesV_append]; exact h2)
  obtain ⟨va, vn, vc, rfl⟩ := row_slice hm.own
  exact h va vn vc w' hm
/-- What a method of the sheet has done: x stands behind l. -/
def Wrote (w0 w w' : World) (S wd : Nat) (l x : List UInt8) (e : Ending) : Prop := e = .returned (.tuple #[]) ∧ ∃ ov', Sh w0 w' S ov' wd (l ++ x) ∧ Kept S w w'
end Go.Proofs.YtedabholcldgbaaGreatDoor.Y
