/- Proved here: for every form f whose Kids lie in whatever memory (shared or not), valid or not, and every width, the call plinthlaw02.LayoutBack(f, width) returns true, and each argument reads afterwards as it read before. Conditions: those of the given first row alone: the arguments read as finite data; seven package-level variables of the library hold what the program text lays in them (tied by the given Tie text). No condition of the prover, none on size. -/
import Derived.Test.YtdehkgflokeodaaGreatDoorYFormat
import Derived.Test.YtdehkgflokeodaaGreatDoorYRound
import Derived.Test.YtdehkgflokeodaaGreatDoorOne
import Derived.Test.YtdehkgflokeodaaGreatDoorRcmp
import Derived.Test.YtdehkgflokeodaaGreatDoorOrder
import Derived.Test.YtdehkgflokeodaaGreatDoorYPure
import Derived.Test.YtdehkgflokeodaaGreatDoorShelf
import Derived.Deep.QuietTactic
import Derived.BigQuiet
import Derived.RangeFuncNested
import Derived.RangeFuncBound
import Derived.RangeFuncCalls
import Derived.RangeFuncLeaves
import Derived.Shelf.Abstract
import Derived.Shelf.RegionOpen
import Derived.WalkKit
import Derived.OwnWalkIn
import Derived.TacticsInMore
import Derived.LoopNIn
import Derived.LoopIn
import Derived.Test.YtdehkgflokeodaaGreatDoorBytes
import Derived.Deep.RegionHeld3
import Derived.RangeFuncWrites
import Derived.Test.YtdehkgflokeodaaGreatDoorRead
import Derived.Shelf.Strings.SlTrimAscii
import Derived.Test.YtdehkgflokeodaaGreatDoorCards
import Derived.Test.YtdehkgflokeodaaGreatDoorTie
import Derived.Test.YtdehkgflokeodaaGreatDoorBulk
import Derived.Test.YtdehkgflokeodaaGreatDoorOpenS
import Derived.Test.YtdehkgflokeodaaGreatDoorLaid7

/- LayoutBack: the walk, over what sane answers. -/
namespace Go.Proofs.YtdehkgflokeodaaGreatDoor.Y
open Go.RowKit Go.Deep

theorem cmpF_self (f : Fm) : cmpF f f = 0 := by have := cmpF_anti f f; omega
set_option maxHeartbeats 4000000 in
theorem lback_any (t : T) (w : World) (x : Int) (hx : I64 x) (hin : In w t) (htab : Tab w.heap.size w) (hg : Glob w) (h6 : 8 ≤ w.heap.size)
    (hsn : ∀ W, Below w.heap.size w W → Calls Tryz.prog 18 #[] W fun e w' => e = .returned (.bool true) ∧ Below W.heap.size W w') :
    Calls Tryz.prog 7 #[t.val, .int .i64 x] w fun e w' => e = .returned (.bool true) ∧ Below w.heap.size w w' := by
  have C1 := Lib.hid fun W (k : Boxed w W t) => format_any t W x hx (hin.below k.2) (htab.next k.2)
  have C3 := Lib.hid fun W (k : Below w.heap.size w W) => hsn W k
  have KK := Lib.hid (Boxed.start w t)
  by_cases hv : 20 ≤ x ∧ x ≤ 200 ∧ validF t.form = true
  · obtain ⟨wd, rfl⟩ : ∃ wd : Nat, x = wd := ⟨x.toNat, by omega⟩
    obtain ⟨L, hL⟩ : ∃ L, linF t.form 0 wd 0 = L := ⟨_, rfl⟩
    obtain ⟨d, hd⟩ : ∃ d : ByteArray, (⟨L.toArray⟩ : ByteArray) = d := ⟨_, rfl⟩
    have hdL : d.data.toList = L := by rw [← hd]
    have hln := linF_len hv.2.2 0 wd 0 (by have := valid_parts hv.2.2; omega)
    rw [hL] at hln
    have hds : d.size ≤ 100000000 := by have := ba_size hdL; omega
    rw [fmtF_yes (by omega) (by omega) hv.2.2, hL] at C1
    simp only [FmtEnd, hd] at C1
    by_cases hs : d.size ≤ 60000
    · have gs : ¬ (60000 : Int) < (d.size : Int) := by omega
      have hro : oneR d = .ok t.form := by
        unfold oneR
        rw [read_lin hv.2.2 (hdL.trans hL.symm) hs]
        rfl
      have C2 := Lib.hid fun W (k : Boxed w W t) => ((one_any d W (by unfold maxLen; omega) (hg.below k.2 h6) (Nat.le_trans h6 k.2.size)).mono fun e w' hh => (by rw [hro] at hh; exact hh : ∃ u : T, e = .returned (.tuple #[u.val, .int .i64 0]) ∧ u.form = t.form ∧ In w' u ∧ Below W.heap.size W w'))
      have C4 : Hid (∀ (u : T) W, u.form = t.form → In W u → Below w.heap.size w W → Calls Tryz.prog 28 #[t.val, u.val] W fun e w' => e = .returned (.bool true) ∧ Below W.heap.size W w') := Lib.hid fun u W hf hu k => by
        have := requal_T t u W (hin.below k) hu
        rw [hf, cmpF_self] at this
        exact this
      clear hin htab hsn hg h6 hx hv hL hd hdL hln hs hro
      go_enter Tryz.func7, Tryz.ntmps7
      go_wp2_with (first
        | (go_at_call 16; (with_reducible refine (C1.out _ KK.out).mono ?_); rintro e w1 ⟨rfl, hB⟩; obtain ⟨c0, c1, c2, c3⟩ := Box4.cells (KK.out.next hB).1; have KK := Lib.hid (KK.out.next hB); clear hB)
        | (go_at_call 27; (with_reducible refine (C2.out _ KK.out).mono ?_); rintro e w2 ⟨u, rfl, huf, hu, hB⟩; obtain ⟨d0, d1, d2, d3⟩ := Box4.cells (KK.out.next hB).1; obtain ⟨x0, x1, x2, x3⟩ := Box4.cells ((KK.out.next hB).next (bel1 _ (.cells #[.int .i64 u.kd, .int .i64 u.nn, .string u.tx, .slice u.ad u.ks.length u.cp] 29))).1; have KK := Lib.hid (KK.out.next hB); have HU := Lib.hid hu; have HUF := Lib.hid huf; clear hB hu huf)
        | (go_at_call 28; (refine (C4.out u _ HUF.out (HU.out.alloc _) (up KK.out.2 (bel1 _ _))).mono ?_); rintro e w3 ⟨rfl, hB⟩; have KB := Lib.hid (up KK.out.2 (up (bel1 _ _) hB)); clear hB)
        | (go_at_call 18; (with_reducible refine (C3.out _ KB.out).mono ?_); rintro e w4 ⟨rfl, hB⟩; have KB := Lib.hid (up KB.out hB); clear hB))
      go_ret
      exact ⟨rfl, KB.out⟩
    · have gs : (60000 : Int) < (d.size : Int) := by omega
      clear hin htab hsn hg h6 hx hv hL hd hdL hln hs
      go_enter Tryz.func7, Tryz.ntmps7
      go_wp2_with (first
        | (go_at_call 16; (with_reducible refine (C1.out _ KK.out).mono ?_); rintro e w1 ⟨rfl, hB⟩; have KB := Lib.hid (KK.out.next hB).2; clear hB)
        | (go_at_call 18; (with_reducible refine (C3.out _ KB.out).mono ?_); rintro e w4 ⟨rfl, hB⟩; have KB := Lib.hid (up KB.out hB); clear hB))
      go_ret
      exact ⟨rfl, KB.out⟩
  · rw [fmtF_no hv] at C1
    simp only [FmtEnd] at C1
    clear hin htab hsn hg h6 hx hv
    go_enter Tryz.func7, Tryz.ntmps7
    go_wp2_with (first
      | (go_at_call 16; (with_reducible refine (C1.out _ KK.out).mono ?_); rintro e w1 ⟨rfl, hB⟩; have KB := Lib.hid (KK.out.next hB).2; clear hB)
      | (go_at_call 18; (with_reducible refine (C3.out _ KB.out).mono ?_); rintro e w4 ⟨rfl, hB⟩; have KB := Lib.hid (up KB.out hB); clear hB))
    go_ret
    exact ⟨rfl, KB.out⟩
end Go.Proofs.YtdehkgflokeodaaGreatDoor.Y

/- strings.Cut at one byte: with no word on the program's variables. -/
namespace Go.Proofs.YtdehkgflokeodaaGreatDoor.Y
open Go.RowKit Go.Deep

theorem cut_no (s : ByteArray) (c : UInt8) (h : Lib.indexByte s.data.toList c = -1) (w : World) :
    Calls Tryz.prog 90 #[.string s, .string ⟨#[c]⟩] w fun e w' => e = .returned (.tuple #[.string s, .string ⟨#[]⟩, .bool false]) ∧ w = w' := by
  have H1 : Hid (∀ W, Calls Tryz.prog 131 #[.string s, .string ⟨#[c]⟩] W fun e w' => e = .returned (.tuple #[.string s, .string ⟨#[]⟩, .bool false]) ∧ W = w') := Lib.hid fun W => by
    have HI := Lib.hid (Tryz.stringslite_Index_one s c W)
    rw [h] at HI
    clear h
    go_enter Tryz.func131, Tryz.ntmps131
    go_wp2_with (go_at_call 157; (with_reducible refine HI.out.mono ?_); rintro e w3 ⟨rfl, rfl⟩)
    refine bodyPost_ret (v := .tuple #[.string s, .string ⟨#[]⟩, .bool false]) (by simp [results, Tryz.results131, go_sem]) rfl ?_
    exact ⟨rfl, rfl⟩
  clear h
  go_enter Tryz.func90, Tryz.ntmps90
  go_wp2_with (go_at_call 131; (with_reducible refine (H1.out _).mono ?_); rintro e w3 ⟨rfl, rfl⟩)
  refine bodyPost_ret (v := .tuple #[.string s, .string ⟨#[]⟩, .bool false]) (by simp [results, Tryz.results90, go_sem]) rfl ?_
  exact ⟨rfl, rfl⟩
set_option maxHeartbeats 2000000 in
theorem cut_yes (s : ByteArray) (c : UInt8) (i : Nat) (h : Lib.indexByte s.data.toList c = (i : Int)) (hi : i < s.size) (hs : s.size ≤ 1000000000) (w : World) :
    Calls Tryz.prog 90 #[.string s, .string ⟨#[c]⟩] w fun e w' => e = .returned (.tuple #[.string (s.extract 0 i), .string (s.extract (i + 1) s.size), .bool true]) ∧ ∃ n, w' = w.drewN n := by
  have H1 : Hid (∀ W, Calls Tryz.prog 131 #[.string s, .string ⟨#[c]⟩] W fun e w' => e = .returned (.tuple #[.string (s.extract 0 i), .string (s.extract (i + 1) s.size), .bool true]) ∧ ∃ n, w' = W.drewN n) := Lib.hid fun W => by
    have HI := Lib.hid (Tryz.stringslite_Index_one s c W)
    rw [h] at HI
    have g0 : (0 : Int) ≤ (i : Int) := by omega
    have g1 : (i : Int) ≤ (s.size : Int) := by omega
    have g2 : (i : Int) + 1 ≤ (s.size : Int) := by omega
    have g3 : (s.size : Int) ≤ 1000000000 := by omega
    clear h
    go_enter Tryz.func131, Tryz.ntmps131
    go_wp2_with (go_at_call 157; (with_reducible refine HI.out.mono ?_); rintro e w3 ⟨rfl, rfl⟩)
    go_quiet (fail)
    go_wp2_with fail
    refine bodyPost_ret (v := .tuple #[.string (s.extract 0 i), .string (s.extract (i + 1) s.size), .bool true]) (by simp [results, Tryz.results131, go_sem]) rfl ?_
    exact ⟨rfl, _, rfl⟩
  clear h
  go_enter Tryz.func90, Tryz.ntmps90
  go_wp2_with (go_at_call 131; (with_reducible refine (H1.out _).mono ?_); rintro e w3 ⟨rfl, n, rfl⟩)
  refine bodyPost_ret (v := .tuple #[.string (s.extract 0 i), .string (s.extract (i + 1) s.size), .bool true]) (by simp [results, Tryz.results90, go_sem]) rfl ?_
  exact ⟨rfl, n, rfl⟩
end Go.Proofs.YtdehkgflokeodaaGreatDoor.Y

/- layout.lines of a text of one line: the iterator's contract. -/
namespace Go.Proofs.YtdehkgflokeodaaGreatDoor.Y
open Go.RowKit Go.Shelf Go.Deep
attribute [local go_sem] Oper.semAt_some

def encL (s : ByteArray) (_ : Unit) : Array Value := #[.int .i64 0, .string s]
set_option linter.unusedSimpArgs false in
set_option maxRecDepth 100000 in
set_option maxHeartbeats 2000000 in
theorem lines1_in (n : Nat) (hn : 1 ≤ n) (l Bn : Nat) (s : ByteArray) (hs : Lib.indexByte s.data.toList 10 = -1) (hz : s.size ≤ 1000000000) (J Jx : List Unit → World → Prop) (Kp : World → World → Prop)
    (hY : ∀ pre x W, J pre W → pre.length < 1 → YieldAt Fence.wide (n - 1) Tryz.prog l (encL s x) W fun e W' =>
      (e = .returned (.bool true) ∧ J (pre ++ [x]) W' ∧ Kp W W') ∨ (e = .returned (.bool false) ∧ Jx (pre ++ [x]) W'))
    (W : World) (hBn : W.cell? ⟨Bn, 0, none⟩ = some (.string s)) (h0 : J [] W) :
    CallsIn Fence.wide n Tryz.prog 89 #[.func (.yield l) #[] #[], .pointer (some ⟨Bn, 0, none⟩)] W fun e W' => (∃ v, e = .returned v) ∧
      ((∃ ys, ys = [()] ∧ J ys W') ∨ (∃ pre, pre = [()] ∧ Jx pre W')) := by
  have hz1 : (s.size : Int) ≤ 1000000000 := by omega
  refine callsIn_of_wp Tryz.func89 rfl trivial ?_ rfl
  simp only [Tryz.ntmps89, List.size_toArray, List.length_cons, List.length_nil, Nat.reduceAdd, Nat.reduceSub, Array.replicate_succ, Array.replicate_zero, List.push_toArray, List.append_toArray, List.nil_append, List.cons_append]
  gi_wp2
  gi_loopw [3, 4] (fun r m wr => (r = .string s ∧ m = .bool true ∧ wr = W) ∨ (m = .bool false ∧ J [()] wr))
    (fun _ m _ => match m with | .bool true => 1 | _ => 0)
  case atStart => exact .inl ⟨rfl, rfl, rfl⟩
  case round =>
    rcases hrel with ⟨rfl, rfl, rfl⟩ | ⟨rfl, hJ⟩
    · obtain ⟨fn, tmps, assign, body, hy, hR⟩ := hY [] () wr h0 (by simp)
      dsimp only [encL] at hy
      have HC := Lib.hid (cut_no s 10 hs wr)
      gi_wp2_with (refine ⟨trivial, ?_⟩; gi_at_call 90; refine (callsIn_wide.2 HC.out).mono ?_; rintro e w' ⟨rfl, rfl⟩)
      refine hR.mono ?_
      rintro e W3 (⟨rfl, hJ3, hk3⟩ | ⟨rfl, hJx3⟩)
      · gi_wp2
        go_roundw
        case rel => exact .inr ⟨rfl, hJ3⟩
        case measure => simp
      · gi_wp2
        refine bodyPost_ret (results_none rfl _ _ _) rfl ?_
        exact ⟨⟨_, rfl⟩, .inr ⟨_, rfl, hJx3⟩⟩
    · gi_wp2
      go_end0
      exact ⟨⟨_, rfl⟩, .inl ⟨_, rfl, hJ⟩⟩
end Go.Proofs.YtdehkgflokeodaaGreatDoor.Y

/- layout's openBehind. -/
namespace Go.Proofs.YtdehkgflokeodaaGreatDoor.Y
open Go.RowKit Go.Deep

/-- How many lists are open behind a line. -/
def obF : List UInt8 → Bool → Int → Int
  | [], _, n => n
  | b :: r, q, n =>
    if b.toNat = 34 then obF r (!q) n
    else if q = true ∧ b.toNat = 92 then obF (r.drop 1) q n
    else if q = true then obF r q n
    else if b.toNat = 59 then n
    else if b.toNat = 40 then obF r q (n + 1)
    else if b.toNat = 41 then obF r q (n - 1)
    else obF r q n
termination_by l => l.length
decreasing_by all_goals (simp; try omega)
theorem drop_byte' (s : ByteArray) (k : Nat) (h : k < s.size) : s.data.toList.drop k = s[k] :: s.data.toList.drop (k + 1) := by
  have h' : k < s.data.toList.length := by simpa using h
  rw [List.drop_eq_getElem_cons h']
  rfl
theorem ob_end (s : ByteArray) (k : Nat) (q : Bool) (n : Int) (h : s.size ≤ k) : obF (s.data.toList.drop k) q n = n := by
  rw [List.drop_of_length_le (by simpa using h), obF]
set_option linter.unusedSimpArgs false in
set_option maxHeartbeats 4000000 in
set_option maxRecDepth 100000 in
theorem openBehind_any (s : ByteArray) (n : Int) (w : World) (hs : s.size ≤ 1000000000) (hn0 : -1000000000 ≤ n) (hn1 : n ≤ 1000000000) :
    Calls Tryz.prog 81 #[.string s, .int .i64 n] w fun e w' => e = .returned (.int .i64 (obF s.data.toList false n)) ∧ w = w' := by
  obtain ⟨R, hR⟩ : ∃ R, obF s.data.toList false n = R := ⟨_, rfl⟩
  rw [hR]
  have hs1 : (s.size : Int) ≤ 1000000000 := by omega
  have HR := Lib.hid hR
  clear hR
  go_enter Tryz.func81, Tryz.ntmps81
  go_wp2_with fail
  go_loopg [1, 5, 6] (s.size + 1) (fun m o q i wr => ∃ (k : Nat) (b : Bool) (x : Int), k ≤ s.size + 1 ∧ m = s.size + 1 - k ∧ i = .int .i64 k ∧ q = .bool b ∧ o = .int .i64 x ∧ R = obF (s.data.toList.drop k) b x ∧ n - k ≤ x ∧ x ≤ n + k ∧ w = wr)
  case atStart => exact ⟨0, false, n, by omega, rfl, rfl, rfl, rfl, by rw [List.drop_zero]; exact HR.out.symm, by simp, by simp, rfl⟩
  case round =>
    obtain ⟨k, b, x, hk, rfl, rfl, rfl, rfl, hr, hx0, hx1, rfl⟩ := hrel
    by_cases hlt : k < s.size
    · have gi : (k : Int) < (s.size : Int) := by omega
      have gi2 : (0 : Int) ≤ (k : Int) := by omega
      rw [drop_byte' s k hlt, obF] at hr
      by_cases h34 : s[k].toNat = 34
      · have g1 : ((s[k].toNat : Int) == 34) = true := by simp; omega
        rw [if_pos h34] at hr
        have HR2 := Lib.hid hr
        clear hr h34
        go_wp2_with fail
        go_roundg (s.size + 1 - (k + 1))
        case measure => omega
        case rel => exact ⟨k + 1, !b, x, by omega, rfl, by go_num, rfl, rfl, HR2.out, by omega, by omega, rfl⟩
      · have g1 : ((s[k].toNat : Int) == 34) = false := by simp; omega
        rw [if_neg h34] at hr
        cases b with
        | true =>
          by_cases h92 : s[k].toNat = 92
          · have g2 : ((s[k].toNat : Int) == 92) = true := by simp; omega
            rw [if_pos ⟨rfl, h92⟩, List.drop_drop] at hr
            have HR2 := Lib.hid hr
            clear hr h92 h34
            go_wp2_with fail
            go_roundg (s.size + 1 - (k + 2))
            case measure => omega
            case rel => exact ⟨k + 2, true, x, by omega, rfl, by go_num, rfl, rfl, by have := HR2.out; first | exact this | (rwa [show 1 + (k + 1) = k + 2 by omega] at this), by omega, by omega, rfl⟩
          · have g2 : ((s[k].toNat : Int) == 92) = false := by simp; omega
            rw [if_neg (fun h => h92 h.2), if_pos rfl] at hr
            have HR2 := Lib.hid hr
            clear hr h92 h34
            go_wp2_with fail
            go_roundg (s.size + 1 - (k + 1))
            case measure => omega
            case rel => exact ⟨k + 1, true, x, by omega, rfl, by go_num, rfl, rfl, HR2.out, by omega, by omega, rfl⟩
        | false =>
          rw [if_neg (fun h => Bool.noConfusion h.1), if_neg (fun h => Bool.noConfusion h)] at hr
          by_cases h59 : s[k].toNat = 59
          · have g2 : ((s[k].toNat : Int) == 59) = true := by simp; omega
            rw [if_pos h59] at hr
            have HR2 := Lib.hid hr
            clear hr h59 h34
            go_wp2_with fail
            go_ret
            exact ⟨ret_int HR2.out.symm, rfl⟩
          · have g2 : ((s[k].toNat : Int) == 59) = false := by simp; omega
            rw [if_neg h59] at hr
            by_cases h40 : s[k].toNat = 40
            · have g3 : ((s[k].toNat : Int) == 40) = true := by simp; omega
              rw [if_pos h40] at hr
              have HR2 := Lib.hid hr
              clear hr h59 h34 h40
              go_wp2_with fail
              go_roundg (s.size + 1 - (k + 1))
              case measure => omega
              case rel => exact ⟨k + 1, false, x + 1, by omega, rfl, by go_num, rfl, rfl, HR2.out, by omega, by omega, rfl⟩
            · have g3 : ((s[k].toNat : Int) == 40) = false := by simp; omega
              rw [if_neg h40] at hr
              by_cases h41 : s[k].toNat = 41
              · have g4 : ((s[k].toNat : Int) == 41) = true := by simp; omega
                rw [if_pos h41] at hr
                have HR2 := Lib.hid hr
                clear hr h59 h34 h40 h41
                go_wp2_with fail
                go_roundg (s.size + 1 - (k + 1))
                case measure => omega
                case rel => exact ⟨k + 1, false, x - 1, by omega, rfl, by go_num, rfl, rfl, HR2.out, by omega, by omega, rfl⟩
              · have g4 : ((s[k].toNat : Int) == 41) = false := by simp; omega
                rw [if_neg h41] at hr
                have HR2 := Lib.hid hr
                clear hr h59 h34 h40 h41
                go_wp2_with fail
                go_roundg (s.size + 1 - (k + 1))
                case measure => omega
                case rel => exact ⟨k + 1, false, x, by omega, rfl, by go_num, rfl, rfl, HR2.out, by omega, by omega, rfl⟩
    · have gi : ¬ (k : Int) < (s.size : Int) := by omega
      have HR2 := Lib.hid (hr.trans (ob_end s k b x (by omega)))
      clear hr
      go_wp2_with fail
      go_ret
      exact ⟨ret_int HR2.out.symm, rfl⟩
end Go.Proofs.YtdehkgflokeodaaGreatDoor.Y

/- layout.pieces of a text of one line that is no comment: the iterator's contract . What it asks of the caller beyond SeqStopsK: hKD, hJD, hJxD (its own loop's block for deferred calls). -/
namespace Go.Proofs.YtdehkgflokeodaaGreatDoor.Y
open Go.RowKit Go.Shelf Go.Deep
attribute [local go_sem] Oper.semAt_some

def encP (s : ByteArray) (_ : Unit) : Array Value := #[.string s, .string ⟨#[]⟩]
set_option maxHeartbeats 1000000 in
theorem lines_in (s : ByteArray) (n : Nat) (w : World) :
    CallsIn Fence.wide n Tryz.prog 56 #[.string s] w fun e w' => e = .returned (.func (.func 89) #[] #[.pointer (some ⟨w.heap.size, 0, none⟩)]) ∧ w' = w.alloc (.cells #[.string s] 9) := by
  refine callsIn_wide.2 ?_
  go_enter Tryz.func56, Tryz.ntmps56
  go_wp2_with fail
  go_ret
  exact ⟨rfl, rfl⟩
set_option maxHeartbeats 1000000 in
theorem pieces_in (s : ByteArray) (n : Nat) (w : World) :
    CallsIn Fence.wide n Tryz.prog 49 #[.string s] w fun e w' => e = .returned (.func (.func 78) #[] #[.pointer (some ⟨w.heap.size, 0, none⟩)]) ∧ w' = w.alloc (.cells #[.string s] 9) := by
  refine callsIn_wide.2 ?_
  go_enter Tryz.func49, Tryz.ntmps49
  go_wp2_with fail
  go_ret
  exact ⟨rfl, rfl⟩
theorem blk_later {W D : World} {o : Obj} (h : Below (W.alloc o).heap.size (W.alloc o) D) : D.heap[W.heap.size]? = some o := (h.block _ (by simp)).trans (heap_alloc_new W o)
theorem cell_of1 {w : World} {b : Nat} {v : Value} {t : TypeId} (h : w.heap[b]? = some (.cells #[v] t (0, 0))) : w.cell? ⟨b, 0, none⟩ = some v ∧ w.frozen? ⟨b, 0, none⟩ = false := by
  simp [World.cell?, World.frozen?, h]
theorem cells_later {V w : World} {a b c : Nat} {u v x : Value} (hB : Below V.heap.size V w) (h0 : V.cell? ⟨a, 0, none⟩ = some u) (h1 : V.cell? ⟨b, 0, none⟩ = some v) (h2 : V.cell? ⟨c, 0, none⟩ = some x) (h3 : V.frozen? ⟨c, 0, none⟩ = false) :
    w.cell? ⟨a, 0, none⟩ = some u ∧ w.cell? ⟨b, 0, none⟩ = some v ∧ w.cell? ⟨c, 0, none⟩ = some x ∧ w.frozen? ⟨c, 0, none⟩ = false :=
  ⟨(hB.cell (p := ⟨a, 0, none⟩) (World.block_lt_of_cell? _ _ h0)).trans h0, (hB.cell (p := ⟨b, 0, none⟩) (World.block_lt_of_cell? _ _ h1)).trans h1, (hB.cell (p := ⟨c, 0, none⟩) (World.block_lt_of_cell? _ _ h2)).trans h2,
    (World.frozen?_of_block (hB.block c (World.block_lt_of_cell? _ _ h2))).trans h3⟩
set_option linter.unusedSimpArgs false in
set_option maxRecDepth 100000 in
set_option maxHeartbeats 4000000 in
theorem pieces1_in (n : Nat) (hn : 6 ≤ n) (l Bn : Nat) (s u : ByteArray) (hs : Lib.indexByte s.data.toList 10 = -1) (hz : s.size ≤ 1000000000) (hob : obF s.data.toList false 0 = 0)
    (htr : ∀ W, Calls Tryz.prog 79 #[.string s, .string ⟨#[32, 9]⟩] W fun e w' => e = .returned (.string u) ∧ Below W.heap.size W w') (hpx : Lib.hasPrefix u.data.toList [59] = false)
    (J Jx : List Unit → World → Prop) (Kp : World → World → Prop) (W : World) (hJ : AbidesFrom W.heap.size J)
    (hY : ∀ pre x W, J pre W → pre.length < 1 → YieldAt Fence.wide (n - 1) Tryz.prog l (encP s x) W fun e W' =>
      (e = .returned (.bool true) ∧ J (pre ++ [x]) W' ∧ Kp W W') ∨ (e = .returned (.bool false) ∧ Jx (pre ++ [x]) W' ∧ Kp W W'))
    (hKD : ∀ D A B, Kp A B → W.heap.size ≤ D → A.heap[D]? = some (.deferred (some [])) → B.heap[D]? = some (.deferred (some [])))
    (hJD : ∀ D pre A, J pre A → W.heap.size ≤ D → A.heap[D]? = some (.deferred (some [])) → J pre (A.putObj D (.deferred none)))
    (hJxD : ∀ D pre A, Jx pre A → W.heap.size ≤ D → A.heap[D]? = some (.deferred (some [])) → Jx pre (A.putObj D (.deferred none)))
    (hBn : W.cell? ⟨Bn, 0, none⟩ = some (.string s)) (h0 : J [] W) :
    CallsIn Fence.wide n Tryz.prog 78 #[.func (.yield l) #[] #[], .pointer (some ⟨Bn, 0, none⟩)] W fun e W' => (∃ v, e = .returned v) ∧
      ((∃ ys, ys = [()] ∧ J ys W') ∨ (∃ pre, pre = [()] ∧ Jx pre W')) := by
  have hz1 : (s.size : Int) ≤ 1000000000 := by omega
  have h1 : 1 ≤ n := by omega
  have hlt : Bn < W.heap.size := World.block_lt_of_cell? _ _ hBn
  have hB3 : Below W.heap.size W (((W.alloc (.cells #[.func (.yield l) #[] #[]] 42)).alloc (.cells #[.int .i64 0] 3)).alloc (.cells #[.int .i64 0] 3)) := up (bel1 _ _) (up (bel1 _ _) (bel1 _ _))
  have hb3 : (((W.alloc (.cells #[.func (.yield l) #[] #[]] 42)).alloc (.cells #[.int .i64 0] 3)).alloc (.cells #[.int .i64 0] 3)).cell? ⟨Bn, 0, none⟩ = some (.string s) := (hB3.cell (p := ⟨Bn, 0, none⟩) hlt).trans hBn
  refine callsIn_of_wp_marks Tryz.func78 rfl trivial ?_ rfl
  simp only [Tryz.ntmps78, List.size_toArray, List.length_cons, List.length_nil, Nat.reduceAdd, Nat.reduceSub, Array.replicate_succ, Array.replicate_zero, List.push_toArray, List.append_toArray, List.nil_append, List.cons_append]
  gi_wp2_with (refine ⟨trivial, ?_⟩; gi_at_call 56; refine (lines_in s _ _).mono ?_; rintro e w' ⟨rfl, rfl⟩)
  have hB4 : Below W.heap.size W ((((W.alloc (.cells #[.func (.yield l) #[] #[]] 42)).alloc (.cells #[.int .i64 0] 3)).alloc (.cells #[.int .i64 0] 3)).alloc (.cells #[.string s] 9)) := up hB3 (bel1 _ _)
  have hz4 : ((((W.alloc (.cells #[.func (.yield l) #[] #[]] 42)).alloc (.cells #[.int .i64 0] 3)).alloc (.cells #[.int .i64 0] 3)).alloc (.cells #[.string s] 9)).heap.size = W.heap.size + 4 := by simp
  obtain ⟨W0, hW0⟩ : ∃ W0, (((W.alloc (.cells #[.func (.yield l) #[] #[]] 42)).alloc (.cells #[.int .i64 0] 3)).alloc (.cells #[.int .i64 0] 3)).alloc (.cells #[.string s] 9) = W0 := ⟨_, rfl⟩
  have k0 := cell_of1 (blk_later (W := W) (o := .cells #[.func (.yield l) #[] #[]] 42) (D := W0) (by rw [← hW0]; exact up (bel1 _ _) (up (bel1 _ _) (bel1 _ _))))
  have k1 := cell_of1 (blk_later (W := (W.alloc (.cells #[.func (.yield l) #[] #[]] 42))) (o := .cells #[.int .i64 0] 3) (D := W0) (by rw [← hW0]; exact up (bel1 _ _) (bel1 _ _)))
  have k2 := cell_of1 (blk_later (W := ((W.alloc (.cells #[.func (.yield l) #[] #[]] 42)).alloc (.cells #[.int .i64 0] 3))) (o := .cells #[.int .i64 0] 3) (D := W0) (by rw [← hW0]; exact bel1 _ _))
  have k3 := cell_of1 (blk_later (W := (((W.alloc (.cells #[.func (.yield l) #[] #[]] 42)).alloc (.cells #[.int .i64 0] 3)).alloc (.cells #[.int .i64 0] 3))) (o := .cells #[.string s] 9) (D := W0) (by rw [← hW0]; exact Below.refl _ _))
  simp only [World.size_alloc] at k1 k2 k3
  rw [hW0] at hB4 hz4 ⊢
  have hb4 : W0.cell? ⟨Bn, 0, none⟩ = some (.string s) := (hB4.cell (p := ⟨Bn, 0, none⟩) hlt).trans hBn
  clear hW0 hB3 hb3
  refine wpIn_rangeFunc_ownG (α := Unit) rfl h1 (gf := 89) (lb := #[.pointer (some ⟨W.heap.size + 1 + 1 + 1, 0, none⟩)]) rfl trivial (enters_of Tryz.func89 (by kernel_rfl) rfl)
    (encs := fun _ => #[.int .i64 0, .string s]) (Kp := fun _ _ => True) (S := fun ys => ys = [()]) (Sp := fun pre => pre = [()]) (N := 1) (w0 := W0)
    (fun l' J' Jx' W' hW' _ _ hY' h0' => lines1_in (n - 1) (by omega) l' (W.heap.size + 1 + 1 + 1) s hs hz J' Jx' (fun _ _ => True) hY' W' ((hW'.cell (p := ⟨W.heap.size + 1 + 1 + 1, 0, none⟩) (by show W.heap.size + 1 + 1 + 1 < W0.heap.size; omega)).trans k3.1) h0')
    (fun _ _ => trivial) (fun _ _ _ _ _ _ _ _ => trivial) (Below.refl _ _) (fun _ => rfl)
    (fun _ V => (V.cell? ⟨W.heap.size, 0, none⟩ = some (.func (.yield l) #[] #[]) ∧ V.cell? ⟨W.heap.size + 1, 0, none⟩ = some (.int .i64 0) ∧ V.cell? ⟨W.heap.size + 1 + 1, 0, none⟩ = some (.int .i64 0) ∧ V.frozen? ⟨W.heap.size + 1 + 1, 0, none⟩ = false) ∧ Below W.heap.size W V)
    (fun _ _ _ => False)
    (OwnFrom.and (Own.from (fun _ X Y row hs hg hr => ⟨cell_kept hs.1 hg hr, cell_kept hs.2.1 hg hr, cell_kept hs.2.2.1 hg hr, (frozen_kept hs.2.2.1 hg hr).trans hs.2.2.2⟩) _) (ownFrom_below (Nat.le_refl _) (by omega)))
    (fun _ _ _ _ _ hs _ _ => hs.elim)
    ⟨⟨k0.1, k1.1, k2.1, k2.2⟩, hB4⟩
    ?a1 ?assign ?body ?done ?stop
  case assign =>
    intro l' x V K hK
    gi_wp2
    exact hK
  case stop =>
    rintro D c pre V hD _ h _
    exact h.elim
  case body =>
    rintro l' pre x V ⟨⟨q0, q1, q2, q3⟩, hV⟩ _
    have h3 : 1 ≤ n - 1 - 1 := by omega
    have h4 : 1 ≤ n - 1 - 1 - 1 := by omega
    have HTR := Lib.hid (fun w => (htr w))
    have HPX := Lib.hid (fun w => Tryz.strings_HasPrefix u ⟨#[59]⟩ w)
    simp only [hpx] at HPX
    have HOB := Lib.hid (fun w => openBehind_any s 0 w hz (by omega) (by omega))
    rw [hob] at HOB
    gi_wp2_with (first
      | (refine ⟨trivial, ?_⟩; gi_at_call 79; (refine (CallsIn.inRound l' (callsIn_wide.2 (HTR.out _))).mono ?_); rintro e w5 ⟨rfl, hB⟩; obtain ⟨z0, z1, z2, z3⟩ := cells_later hB q0 q1 q2 q3; have HB := Lib.hid hB; clear hB)
      | (refine ⟨trivial, ?_⟩; gi_at_call 80; (refine (CallsIn.inRound l' (callsIn_wide.2 (HPX.out _))).mono ?_); rintro e w6 ⟨rfl, rfl⟩)
      | (refine ⟨trivial, ?_⟩; gi_at_call 81; (refine (CallsIn.inRound l' (callsIn_wide.2 (HOB.out _))).mono ?_); rintro e w6 ⟨rfl, rfl⟩))
    have hk : KeepsFrom W0.heap.size V w6 := KeepsFrom.of_grownBy (row := none) ⟨HB.out.os, HB.out.tape, HB.out.output, HB.out.size, fun k hk _ => HB.out.block k hk⟩ (fun j e => by cases e)
    exact ⟨hk.trans ((KeepsOthers.setCell _ _ _).from _), trivial, ⟨(World.cell?_setCell_other _ _ _ _ (by intro e; injection e with e; omega)).trans z0, (World.cell?_setCell_other _ _ _ _ (by intro e; injection e with e; omega)).trans z1, World.cell?_setCell_same' _ _ _ (by rw [z2]; rfl), by rw [World.frozen?_setCell]; exact z3⟩, (up hV HB.out).setCell (p := ⟨W.heap.size + 1 + 1, 0, none⟩) (by show W.heap.size ≤ W.heap.size + 1 + 1; omega) _⟩
  case done =>
    rintro D ys V hD rfl ⟨⟨q0, q1, q2, q3⟩, hV⟩ hK
    have hbV : V.cell? ⟨Bn, 0, none⟩ = some (.string s) := (hV.cell (p := ⟨Bn, 0, none⟩) hlt).trans hBn
    have hJV : J [] V.drew := hJ [] W _ none h0 ⟨hV.drew.os, hV.drew.tape, hV.drew.output, hV.drew.size, fun k hk _ => hV.drew.block k hk⟩ (fun r e => by cases e)
    obtain ⟨fn, tmps, assign, body, hy, hR⟩ := hY [] () V.drew hJV (by simp)
    dsimp only [encP] at hy
    have HR := Lib.hid (hR.mono (R' := fun e W' => ∃ bb : Bool, e = .returned (.bool bb) ∧ W'.heap[D]? = some (.deferred (some [])) ∧ ((bb = true ∧ J [()] W') ∨ (bb = false ∧ Jx [()] W'))) (by
      rintro e W3 (⟨rfl, h, k⟩ | ⟨rfl, h, k⟩)
      · exact ⟨true, rfl, hKD D _ _ k (Nat.le_trans hB4.size hD) hK, .inl ⟨rfl, h⟩⟩
      · exact ⟨false, rfl, hKD D _ _ k (Nat.le_trans hB4.size hD) hK, .inr ⟨rfl, h⟩⟩))
    clear hR
    gi_wp2
    refine Code.wpIn_mono NoPanic.imp ?_
    gi_region_with (refine HR.out.mono ?_; rintro e W3 ⟨bb, rfl, hK3, hh⟩)
    all_goals
      refine NoPanic.normal ?_
      refine ⟨by simp, .inl ⟨_, _, rfl, run_takeDeferred hK3, ?_⟩⟩
    all_goals
      refine ⟨_, results_none rfl _ _ _, ⟨_, rfl⟩, ?_⟩
      rcases hh with ⟨_, h⟩ | ⟨_, h⟩
      · exact .inl ⟨[()], rfl, hJD D _ _ h (Nat.le_trans hB4.size hD) hK3⟩
      · exact .inr ⟨[()], rfl, hJxD D _ _ h (Nat.le_trans hB4.size hD) hK3⟩
end Go.Proofs.YtdehkgflokeodaaGreatDoor.Y

/- A range over a function whose iterator turns blocks of its own between the rounds (its block for deferred calls, its own cells), while the rounds turn what the caller owns. -/
namespace Go.Proofs.YtdehkgflokeodaaGreatDoor.Y
open Go.RowKit

variable {F : Fence} {n : Nat} {P : Program}

theorem lt_of_getElem? {A : World} {k : Nat} {o : Obj} (h : A.heap[k]? = some o) : k < A.heap.size := (Array.getElem?_eq_some_iff.1 h).1

/-- Between two rounds: blocks are laid, and one that lies from B on and is not the caller's is turned. -/
def Moves (own : World → Option Nat) (B : Nat) (A A' : World) : Prop := ∃ row : Option Nat, A.grownBy A' row ∧ ∀ r, row = some r → B ≤ r ∧ own A ≠ some r
/-- A round: what lies from B on and is safe lies as it lay, but for what the caller owns; that is what it was, or is new. -/
structure Leaves (safe : Obj → Prop) (own : World → Option Nat) (B : Nat) (A A' : World) : Prop where
  size : A.heap.size ≤ A'.heap.size
  same : ∀ (r : Nat) (o : Obj), B ≤ r → own A ≠ some r → safe o → A.heap[r]? = some o → A'.heap[r]? = some o
  next : own A' = own A ∨ (∀ r, own A' = some r → A.heap.size ≤ r) ∨ ∀ r, own A' = some r → ∃ o : Obj, A'.heap[r]? = some o ∧ ¬ safe o
/-- The caller's invariant stands over what the iterator does. -/
def Stands {β : Type} (own : World → Option Nat) (B : Nat) (I : β → World → Prop) : Prop :=
  (∀ s A A', I s A → Moves own B A A' → I s A' ∧ own A' = own A) ∧ ∀ s A r, I s A → own A = some r → ∃ v t fr, A.heap[r]? = some (.cells v t fr)
theorem Stands.mono {β : Type} {own : World → Option Nat} {B C : Nat} {I : β → World → Prop} (h : Stands own B I) (hc : B ≤ C) : Stands own C I :=
  ⟨fun s A A' hi ⟨row, hg, hr⟩ => h.1 s A A' hi ⟨row, hg, fun r e => ⟨Nat.le_trans hc (hr r e).1, (hr r e).2⟩⟩, h.2⟩
theorem Stands.laid {β : Type} {own : World → Option Nat} {B : Nat} {I : β → World → Prop} (h : Stands own B I) {s : β} {A : World} (hi : I s A) (o : Obj) : I s (A.alloc o) ∧ own (A.alloc o) = own A :=
  h.1 s A _ hi ⟨none, World.grownBy_alloc A o none, fun r e => by cases e⟩
theorem Stands.not {β : Type} {own : World → Option Nat} {B : Nat} {I : β → World → Prop} (h : Stands own B I) {s : β} {A : World} (hi : I s A) {l : Nat} {o : Obj} (hl : A.heap[l]? = some o) (ho : o.isCells = false) : own A ≠ some l := by
  intro e
  obtain ⟨v, t, fr, hb⟩ := h.2 s A l hi e
  rw [hl] at hb
  cases hb
  cases ho
theorem Stands.turned {β : Type} {own : World → Option Nat} {B : Nat} {I : β → World → Prop} (h : Stands own B I) {s : β} {A : World} (hi : I s A) {l : Nat} {o : Obj} (hB : B ≤ l) (hl : A.heap[l]? = some o) (ho : o.isCells = false) (o' : Obj) : I s (A.putObj l o') ∧ own (A.putObj l o') = own A :=
  h.1 s A _ hi ⟨some l, grownBy_putObj' A l o', fun r e => by cases e; exact ⟨hB, h.not hi hl ho⟩⟩

/-- The iterator's contract. R: what it asks of memory, always; Pre: what it says of what has come so far. -/
def SeqY {α : Type} (F : Fence) (n : Nat) (P : Program) (gf : Nat) (lb : Array Value) (encs : α → Array Value) (safe : Obj → Prop) (own : World → Option Nat) (R : World → Prop) (S Sp Pre : List α → Prop) : Prop :=
  ∀ (l : Nat) (J Jx : List α → World → Prop) (W : World), Stands own W.heap.size J → Stands own W.heap.size Jx → (∀ s A, J s A → R A) →
    (∀ pre x A, J pre A → Pre (pre ++ [x]) → YieldAt F (n - 1) P l (encs x) A fun e A' =>
      (e = .returned (.bool true) ∧ J (pre ++ [x]) A' ∧ Leaves safe own W.heap.size A A') ∨ (e = .returned (.bool false) ∧ Jx (pre ++ [x]) A' ∧ Leaves safe own W.heap.size A A')) →
    J [] W →
    CallsIn F n P gf (#[.func (.yield l) #[] #[]] ++ lb) W fun e W' => (∃ v, e = .returned v) ∧ ((∃ ys, S ys ∧ J ys W') ∨ (∃ pre, Sp pre ∧ Jx pre W'))

/-- How a round may be left. -/
def EndsR {α : Type} (safe : Obj → Prop) (own : World → Option Nat) (B : Nat) (I : List α → World → Prop) (Ix : Code → List α → World → Prop) (xs : List α) (W : World) : Exit → Act → World → Prop
  | .normal, _, W' => Leaves safe own B W W' ∧ I xs W'
  | .ret, _, W' => Leaves safe own B W W' ∧ Ix .ret xs W'
  | .exit id, _, W' => Leaves safe own B W W' ∧ Ix (.exit id) xs W'
  | .goto t, _, W' => Leaves safe own B W W' ∧ Ix (.goto t) xs W'
  | .panic _, _, _ => False
  | .outgrown, _, _ => False

theorem range_own {α : Type} {g : Operand} {ps : Array Tmp} {assign body : Code} {Q : Exit → Act → World → Prop} {a : Act} {w : World}
    (hro : F.round = none) (h1 : 1 ≤ n) {gf : Nat} {lb : Array Value} (hg : a.eval g = .func (.func gf) #[] lb) (hFg : F.fn gf) (eg : ∀ args w, (callFunc gf args).run P w = .ok (.enter gf args) w)
    {encs : α → Array Value} {safe : Obj → Prop} (hsafe : ∀ o : Obj, o.isCells = false → safe o) {own : World → Option Nat} {R : World → Prop} {S Sp Pre : List α → Prop} (hseq : SeqY F (n - 1) P gf lb encs safe own R S Sp Pre) (hps : ∀ x, (encs x).size = ps.size)
    (I : List α → World → Prop) (Ix : Code → List α → World → Prop) (hI : Stands own w.heap.size I) (hIx : ∀ c, Stands own w.heap.size (Ix c)) (hR : ∀ s A, I s A → R A) (h0 : I [] w) (a₁ : α → Act)
    (hassign : ∀ (l : Nat) (x : α) (W : World) (K : Act → World → Prop), K (a₁ x) W →
      assign.wpIn (F.inRound l) (n - 1 - 1) P (Exit.then K (fun _ _ _ => False)) { tmps := (ps.zip (encs x)).foldl (fun t (p, v) => t.setIfInBounds p v) a.tmps, defers := [] } W)
    (hbody : ∀ (l : Nat) (pre : List α) (x : α) (W : World), I pre W → Pre (pre ++ [x]) → body.wpIn (F.inRound l) (n - 1 - 1) P (EndsR safe own w.heap.size I Ix (pre ++ [x]) W) (a₁ x) W)
    (hdone : ∀ (D : Nat) (xs : List α) (W : World), w.heap.size ≤ D → S xs → I xs W → W.heap[D]? = some (.deferred (some [])) → Q .normal { a with defers := { target := .collected D, args := #[] } :: a.defers } W)
    (hstop : ∀ (D : Nat) (c : Code) (pre : List α) (W : World), w.heap.size ≤ D → Sp pre → Ix c pre W → W.heap[D]? = some (.deferred (some [])) → c.wpIn F n P Q { a with defers := { target := .collected D, args := #[] } :: a.defers } W) :
    (Code.rangeFunc g ps assign body).wpIn F n P Q a w := by
  refine wpIn_rangeFunc fun fn hfn => ?_
  rw [hro]
  obtain ⟨m, hm⟩ : ∃ m, w.heap.size = m := ⟨_, rfl⟩
  obtain ⟨rd, hrd⟩ : ∃ rd : LoopState → Option Code → Loop, rd = fun st pe => { state := st, pending := pe, fn, tmps := a.tmps, params := ps, assign, body, defers := m } := ⟨_, rfl⟩
  obtain ⟨w1, hw1⟩ : ∃ w1, w.alloc (.deferred (some [])) = w1 := ⟨_, rfl⟩
  have hz1 : w1.heap.size = m + 1 := by rw [← hw1, ← hm]; simp
  obtain ⟨w2, hw2⟩ : ∃ w2, w1.alloc (.loop (rd .ready none)) = w2 := ⟨_, rfl⟩
  have hz2 : w2.heap.size = m + 2 := by rw [← hw2]; simp [hz1]
  have hD1 : w1.heap[m]? = some (.deferred (some [])) := by rw [← hw1, ← hm]; exact World.alloc_heap_new w _
  have hD2 : w2.heap[m]? = some (.deferred (some [])) := by rw [← hw2]; exact (Below.heap_alloc _ _ _ (by omega)).trans hD1
  have hL2 : w2.heap[m + 1]? = some (.loop (rd .ready none)) := by rw [← hw2, ← hz1]; exact World.alloc_heap_new w1 _
  have hI1 : I [] w1 := by rw [← hw1]; exact (hI.laid h0 _).1
  have hI2 : I [] w2 := by rw [← hw2]; exact (hI.laid hI1 _).1
  refine ⟨m + 1, [{ target := .collected m, args := #[] }], w2, { target := .fn (.func gf) lb, args := #[.func (.yield (m + 1)) #[] #[]] }, w2, gf, #[.func (.yield (m + 1)) #[] #[]] ++ lb, w2, ?_, ?_, ?_, ?_, fun _ => h1, ?_⟩
  · have := run_enterLoop_outer (P := P) (w := w) fn a.tmps ps assign body
    rw [hm, hw1] at this
    rw [this, ← hw2, hrd]
  · simp only [resolve, hg]
    simp [go_sem]
  · intro f' hf'; simp [Target.leads] at hf'; subst hf'; exact hFg
  · simp [invoke, go_sem, eg]
  rw [hm] at hI hIx hbody hdone hstop
  have far : ∀ {A A' : World} {row : Option Nat} {k : Nat} {o : Obj}, A.grownBy A' row → (∀ r, row = some r → m + 2 ≤ r ∧ own A ≠ some r) → k < m + 2 → A.heap[k]? = some o → A'.heap[k]? = some o := by
    intro A A' row k o hg hr hk ho
    exact (hg.block k (lt_of_getElem? ho) (fun e => by have := (hr k e.symm).1; omega)).trans ho
  refine (hseq (m + 1) (fun pre A => I pre A ∧ A.heap[m + 1]? = some (.loop (rd .ready none)) ∧ A.heap[m]? = some (.deferred (some [])))
    (fun pre A => ∃ c, Ix c pre A ∧ A.heap[m + 1]? = some (.loop (rd .done (some c))) ∧ A.heap[m]? = some (.deferred (some []))) w2 ⟨?_, ?_⟩ ⟨?_, ?_⟩ (fun s A h => hR s A h.1) ?_ ⟨hI2, hL2, hD2⟩).mono ?_
  · rintro s A A' ⟨hi, hl, hd⟩ ⟨row, hg, hr⟩
    rw [hz2] at hr
    have := hI.1 s A A' hi ⟨row, hg, fun r e => ⟨by have := (hr r e).1; omega, (hr r e).2⟩⟩
    exact ⟨⟨this.1, far hg hr (by omega) hl, far hg hr (by omega) hd⟩, this.2⟩
  · rintro s A r ⟨hi, _⟩ e
    exact hI.2 s A r hi e
  · rintro s A A' ⟨c, hi, hl, hd⟩ ⟨row, hg, hr⟩
    rw [hz2] at hr
    have := (hIx c).1 s A A' hi ⟨row, hg, fun r e => ⟨by have := (hr r e).1; omega, (hr r e).2⟩⟩
    exact ⟨⟨c, this.1, far hg hr (by omega) hl, far hg hr (by omega) hd⟩, this.2⟩
  · rintro s A r ⟨c, hi, _⟩ e
    exact (hIx c).2 s A r hi e
  · rintro pre x A ⟨hi, hl, hd⟩ hlen
    have hy := run_yield (P := P) (args := encs x) hl (by rw [hrd]; exact hps x)
    rw [hrd] at hy
    refine ⟨fn, _, assign, body, hy, roundIn_of_wpIn hfn (hassign _ x A _ ⟨_, run_beginRound hl (by rw [hrd]), ?_⟩)⟩
    obtain ⟨A2, hA2⟩ : ∃ A2, A.putObj (m + 1) (.loop { rd .ready none with state := .busy }) = A2 := ⟨_, rfl⟩
    have hl2 : A2.heap[m + 1]? = some (.loop { rd .ready none with state := .busy }) := by rw [← hA2]; exact World.putObj_heap_same (lt_of_getElem? hl)
    have hd2 : A2.heap[m]? = some (.deferred (some [])) := by rw [← hA2]; exact (World.putObj_heap_other (by omega)).trans hd
    have hi2 : I pre A2 ∧ own A2 = own A := by rw [← hA2]; exact hI.turned hi (by omega) hl rfl _
    have hz : A2.heap.size = A.heap.size := by rw [← hA2]; simp
    have hot : ∀ r, r ≠ m + 1 → A2.heap[r]? = A.heap[r]? := fun r hr => by rw [← hA2]; exact World.putObj_heap_other hr
    rw [hA2]
    have end2 : ∀ (jump : Option Code) (A3 : World), Leaves safe own m A2 A3 → (own A3 ≠ some (m + 1)) →
        (Instr.endRound (m + 1) jump).run P A3 = .ok (.bool jump.isNone) (A3.putObj (m + 1) (.loop (rd (if jump.isNone then .ready else .done) jump))) ∧ A3.heap[m + 1]? = some (.loop { rd .ready none with state := .busy }) ∧
        (A3.putObj (m + 1) (.loop (rd (if jump.isNone then .ready else .done) jump))).heap[m + 1]? = some (.loop (rd (if jump.isNone then .ready else .done) jump)) ∧
        (A3.putObj (m + 1) (.loop (rd (if jump.isNone then .ready else .done) jump))).heap[m]? = some (.deferred (some [])) ∧
        ∀ A4, A4 = A3.putObj (m + 1) (.loop (rd (if jump.isNone then .ready else .done) jump)) → own A4 = own A3 → Leaves safe own w2.heap.size A A4 := by
      intro jump A3 hk hn3
      have hl3 := hk.same _ _ (by omega) (hI.not hi2.1 hl2 rfl) (hsafe _ rfl) hl2
      have hd3 := hk.same _ _ (Nat.le_refl _) (hI.not hi2.1 hd2 rfl) (hsafe _ rfl) hd2
      have he := run_endRound (P := P) jump hl3
      rw [hrd] at he ⊢
      rw [hrd] at hl3
      refine ⟨he, hl3, World.putObj_heap_same (lt_of_getElem? hl3), (World.putObj_heap_other (by omega)).trans hd3, ?_⟩
      rintro A4 rfl ho4
      refine ⟨by rw [World.putObj_size, ← hz]; exact hk.size, ?_, ?_⟩
      · intro r o hr hor hsf ho
        rw [hz2] at hr
        refine (World.putObj_heap_other (by omega)).trans (hk.same r o (by omega) (by rw [hi2.2]; exact hor) hsf ?_)
        rw [hot r (by omega)]; exact ho
      · rw [ho4, ← hi2.2, ← hz]
        rcases hk.next with h | h | h
        · exact .inl h
        · exact .inr (.inl h)
        · refine .inr (.inr fun r e => ?_)
          obtain ⟨o, ho, hs⟩ := h r e
          refine ⟨o, (World.putObj_heap_other ?_).trans ho, hs⟩
          intro e2
          subst e2
          rw [hl3] at ho
          cases ho
          exact hs (hsafe _ rfl)
    refine wpIn_mono (hbody _ pre x A2 hi2.1 hlen) ?_
    rintro e a3 A3 hp
    cases e with
    | normal =>
      obtain ⟨hk, hi3⟩ := hp
      have hl3 := hk.same _ _ (by omega) (hI.not hi2.1 hl2 rfl) (hsafe _ rfl) hl2
      obtain ⟨hr, _, hl4, hd4, hle⟩ := end2 none A3 hk (hI.not hi3 hl3 rfl)
      have h4 := hI.turned hi3 (by omega) hl3 rfl (.loop (rd .ready none))
      exact ⟨_, _, hr, .inl ⟨rfl, ⟨h4.1, hl4, hd4⟩, hle _ rfl h4.2⟩⟩
    | ret =>
      obtain ⟨hk, hi3⟩ := hp
      have hl3 := hk.same _ _ (by omega) (hI.not hi2.1 hl2 rfl) (hsafe _ rfl) hl2
      obtain ⟨hr, _, hl4, hd4, hle⟩ := end2 (some .ret) A3 hk ((hIx _).not hi3 hl3 rfl)
      have h4 := (hIx _).turned hi3 (by omega) hl3 rfl (.loop (rd .done (some .ret)))
      exact ⟨_, _, hr, .inr ⟨rfl, ⟨_, h4.1, hl4, hd4⟩, hle _ rfl h4.2⟩⟩
    | exit id =>
      obtain ⟨hk, hi3⟩ := hp
      have hl3 := hk.same _ _ (by omega) (hI.not hi2.1 hl2 rfl) (hsafe _ rfl) hl2
      obtain ⟨hr, _, hl4, hd4, hle⟩ := end2 (some (.exit id)) A3 hk ((hIx _).not hi3 hl3 rfl)
      have h4 := (hIx _).turned hi3 (by omega) hl3 rfl (.loop (rd .done (some (.exit id))))
      exact ⟨_, _, hr, .inr ⟨rfl, ⟨_, h4.1, hl4, hd4⟩, hle _ rfl h4.2⟩⟩
    | goto t =>
      obtain ⟨hk, hi3⟩ := hp
      have hl3 := hk.same _ _ (by omega) (hI.not hi2.1 hl2 rfl) (hsafe _ rfl) hl2
      obtain ⟨hr, _, hl4, hd4, hle⟩ := end2 (some (.goto t)) A3 hk ((hIx _).not hi3 hl3 rfl)
      have h4 := (hIx _).turned hi3 (by omega) hl3 rfl (.loop (rd .done (some (.goto t))))
      exact ⟨_, _, hr, .inr ⟨rfl, ⟨_, h4.1, hl4, hd4⟩, hle _ rfl h4.2⟩⟩
    | panic ch => exact hp.elim
    | outgrown => exact hp.elim
  · rintro e A ⟨⟨v, rfl⟩, (⟨xs, hS, hi, hl, hd⟩ | ⟨pre, hS, c, hi, hl, hd⟩)⟩
    · have hr := run_endLoop (P := P) hl (by rw [hrd]; simp)
      rw [hrd] at hr
      exact ⟨none, _, hr, hdone _ xs _ (Nat.le_refl _) hS (hI.turned hi (by omega) hl rfl _).1 ((World.putObj_heap_other (by omega)).trans hd)⟩
    · have hr := run_endLoop (P := P) hl (by rw [hrd]; simp)
      rw [hrd] at hr
      exact ⟨some c, _, hr, hstop _ c pre _ (Nat.le_refl _) hS ((hIx c).turned hi (by omega) hl rfl _).1 ((World.putObj_heap_other (by omega)).trans hd)⟩
end Go.Proofs.YtdehkgflokeodaaGreatDoor.Y

/- layout's page: what lies in memory, and what is put behind it. -/
namespace Go.Proofs.YtdehkgflokeodaaGreatDoor.Y
open Go.RowKit Go.Deep

/-- The page in block S, with its bytes l; nothing of w0 has turned. -/
structure Pg (w0 w : World) (S : Nat) (ov : Value) (wd : Nat) (la : Int) (l : List UInt8) : Prop where
  blk : w.heap[S]? = some (.cells #[ov, .int .i64 wd, .int .i64 la] 62 (0, 0))
  own : w.ownsRow w0.heap.size 5 1 ov l.length (bytesV l)
  below : Below w0.heap.size w0 w
  hS : w0.heap.size ≤ S
  ne : ov.ownBlock ≠ some S
theorem Pg.cells {w0 w : World} {S : Nat} {ov : Value} {wd : Nat} {la : Int} {l : List UInt8} (h : Pg w0 w S ov wd la l) : w.cell? ⟨S, 0, none⟩ = some ov ∧ w.cell? ⟨S, 1, none⟩ = some (.int .i64 wd) ∧ w.cell? ⟨S, 2, none⟩ = some (.int .i64 la) ∧ w.frozen? ⟨S, 0, none⟩ = false ∧ w.frozen? ⟨S, 2, none⟩ = false := by
  refine ⟨?_, ?_, ?_, ?_, ?_⟩ <;> simp [World.cell?, World.frozen?, h.blk]
theorem Pg.next {w0 w w' : World} {S : Nat} {ov : Value} {wd : Nat} {la : Int} {l : List UInt8} (h : Pg w0 w S ov wd la l) (hb : Below w.heap.size w w') : Pg w0 w' S ov wd la l :=
  ⟨(hb.block S (lt_of_block h.blk)).trans h.blk, own_same h.own fun k hk => hb.block k (h.own.lt k hk).2, upB h.below hb (Nat.le_refl _), h.hS, h.ne⟩
theorem Pg.alloc {w0 w : World} {S : Nat} {ov : Value} {wd : Nat} {la : Int} {l : List UInt8} (h : Pg w0 w S ov wd la l) (o : Obj) : Pg w0 (w.alloc o) S ov wd la l := h.next (bel1 _ _)
theorem Pg.drew {w0 w : World} {S : Nat} {ov : Value} {wd : Nat} {la : Int} {l : List UInt8} (h : Pg w0 w S ov wd la l) : Pg w0 w.drew S ov wd la l := h.next (Below.refl _ _).drew
/-- Between an append and its store. -/
structure PgMid (w0 w w' : World) (S : Nat) (ov v' : Value) (wd : Nat) (la : Int) (l : List UInt8) : Prop where
  blk : w'.heap[S]? = some (.cells #[ov, .int .i64 wd, .int .i64 la] 62 (0, 0))
  own : w'.ownsRow w0.heap.size 5 1 v' l.length (bytesV l)
  below : Below w0.heap.size w0 w'
  hS : w0.heap.size ≤ S
  kept : Kept S w w'
theorem PgMid.cells {w0 w w' : World} {S : Nat} {ov v' : Value} {wd : Nat} {la : Int} {l : List UInt8} (h : PgMid w0 w w' S ov v' wd la l) : w'.cell? ⟨S, 0, none⟩ = some ov ∧ w'.frozen? ⟨S, 0, none⟩ = false := by
  refine ⟨?_, ?_⟩ <;> simp [World.cell?, World.frozen?, h.blk]
theorem PgMid.ne {w0 w w' : World} {S : Nat} {ov v' : Value} {wd : Nat} {la : Int} {l : List UInt8} (h : PgMid w0 w w' S ov v' wd la l) : v'.ownBlock ≠ some S := fun e => by
  obtain ⟨c, fz, hc⟩ := row_bytes h.own S e
  rw [h.blk] at hc
  injection hc with hc
  injection hc with _ hc _
  exact absurd hc (by decide)
/-- The store. -/
theorem PgMid.store {w0 w w' : World} {S : Nat} {ov v' : Value} {wd : Nat} {la : Int} {l : List UInt8} (h : PgMid w0 w w' S ov v' wd la l) : Pg w0 (w'.setCell ⟨S, 0, none⟩ v') S v' wd la l ∧ Kept S w (w'.setCell ⟨S, 0, none⟩ v') := by
  refine ⟨⟨?_, ownsRow_setCell_other h.own (by simpa using h.ne) _, h.below.setCell (p := ⟨S, 0, none⟩) h.hS _, h.hS, h.ne⟩, ⟨h.kept.others.setCell _ rfl _, by simpa using h.kept.size⟩⟩
  simpa using heap_setCell_same w' S 0 _ _ v' h.blk
theorem Pg.grown {w0 w W w' : World} {S : Nat} {ov v' : Value} {wd : Nat} {la : Int} {l l' : List UInt8} (h : Pg w0 W S ov wd la l) (hk : Kept S w W) (hg : W.grownBy w' ov.ownBlock) (ho : w'.ownsRow w0.heap.size 5 1 v' l'.length (bytesV l')) : PgMid w0 w w' S ov v' wd la l' :=
  ⟨(hg.block S (lt_of_block h.blk) fun e => h.ne e.symm).trans h.blk, ho, h.below.grown hg h.below.size fun b hb => (h.own.lt b hb).1, h.hS, hk.others.grown hg (row_bytes h.own), Nat.le_trans hk.size hg.size⟩
/-- append of bytes that were laid for the statement. -/
theorem pg_bytes {ops : Array Oper} {rest : List Oper} {o : Oper} {a : Act} {Q : Exit → Act → World → Prop} (hgd : o.guard = none) (s x : Operand) (t : TypeId)
    (ho : o.op = .call { callee := .builtin .append, args := #[s, x], argTypes := #[t, t] }) (ht : Tryz.prog.underlying t = some (.slice 5))
    {w0 w : World} {S : Nat} {ov : Value} {wd : Nat} {la : Int} {l : List UInt8} (hs : a.eval s = ov) (hb : Pg w0 w S ov wd la l) (news : List UInt8) (cs : Array Value) (hcs : cs.toList = bytesV news) (m : Nat) (hm : news.length = m) (c A : Nat)
    (hx : a.eval x = .slice (some ⟨A, 0, none⟩) m c) (hA : w.heap.size = A) (hlen : l.length + m ≤ 140737488355328)
    (h : ∀ va vn vc w', PgMid w0 w w' S ov (.slice va vn vc) wd la (l ++ news) → wpList Tryz.prog ops Q rest (a.put o.dst (.slice va vn vc)) w') : wpList Tryz.prog ops Q (o :: rest) a (w.alloc (.cells cs 5)) := by
  subst hA
  obtain ⟨i0, hi0, hz0, hz1, hz2⟩ := info_parts info5
  have hb' := hb.alloc (.cells cs 5)
  have hl : (l ++ news).length = l.length + m := by simp [hm]
  refine wpList_append_own _ hgd s x t ho w0.heap.size 5 i0 (.int .u8 0) 1 1 ht hi0 hz0 hz1 hz2 rfl (by decide) ov l.length (bytesV l) hs hb'.own ⟨w.heap.size, 0, none⟩ m c (bytesV news) hx (by simp [bytesV, hm])
    (fun j u hu => World.news_of_block (cs := cs) (t := 5) (fr := (0, 0)) (heap_alloc_new w _) j u (by rw [hcs]; exact hu)) (bytesV_one news) (by unfold maxLen; omega) (by omega) hb'.below.size ?_
  intro v' w' ho' hg _
  have hm := hb'.grown (l' := l ++ news) ((Kept.refl S w).alloc _) hg (by rw [hl, bytesV_append]; exact ho')
  obtain ⟨va, vn, vc, rfl⟩ := row_slice hm.own
  exact h va vn vc w' hm
/-- append of a string's bytes. -/
theorem pg_text {ops : Array Oper} {rest : List Oper} {o : Oper} {a : Act} {Q : Exit → Act → World → Prop} (hgd : o.guard = none) (s x : Operand) (t u : TypeId)
    (ho : o.op = .call { callee := .builtin .append, args := #[s, x], argTypes := #[t, u] }) (ht : Tryz.prog.underlying t = some (.slice 5)) (hu : Tryz.prog.underlying u = some .string)
    {w0 w : World} {S : Nat} {ov : Value} {wd : Nat} {la : Int} {l : List UInt8} (hs : a.eval s = ov) (hb : Pg w0 w S ov wd la l) (d : ByteArray) (hx : a.eval x = .string d) (hlen : l.length + d.size ≤ 140737488355328)
    (h : ∀ va vn vc w', PgMid w0 w w' S ov (.slice va vn vc) wd la (l ++ d.data.toList) → wpList Tryz.prog ops Q rest (a.put o.dst (.slice va vn vc)) w') : wpList Tryz.prog ops Q (o :: rest) a w := by
  obtain ⟨i0, hi0, hz0, hz1, hz2⟩ := info_parts info5
  have hl : (l ++ d.data.toList).length = l.length + d.size := by simp
  refine Lib.wpList_append_own_string _ hgd s x t u ho w0.heap.size 5 i0 ht hu hi0 hz0 hz1 hz2 ov l.length (bytesV l) hs hb.own d hx (by unfold maxLen; omega) (by omega) hb.below.size ?_
  intro v' w' ho' hg _
  have hm := hb.grown (l' := l ++ d.data.toList) (Kept.refl S w) hg (by rw [hl, bytesV_append]; exact ho')
  obtain ⟨va, vn, vc, rfl⟩ := row_slice hm.own
  exact h va vn vc w' hm
/-- What stands last is turned. -/
theorem Pg.setLast {w0 w : World} {S : Nat} {ov : Value} {wd : Nat} {la : Int} {l : List UInt8} (h : Pg w0 w S ov wd la l) (x : Int) : Pg w0 (w.setCell ⟨S, 2, none⟩ (.int .i64 x)) S ov wd x l ∧ Kept S w (w.setCell ⟨S, 2, none⟩ (.int .i64 x)) := by
  refine ⟨⟨?_, ownsRow_setCell_other h.own (by simpa using h.ne) _, h.below.setCell (p := ⟨S, 2, none⟩) h.hS _, h.hS, h.ne⟩, ⟨(Lib.OthersKept.refl _ (some S) w).setCell ⟨S, 2, none⟩ rfl _, by simp⟩⟩
  simpa using heap_setCell_same w S 2 _ _ (.int .i64 x) h.blk
/-- What a method of the page has done: x stands behind l, and la is last. -/
def PWrote (w0 w w' : World) (S wd : Nat) (la : Int) (l : List UInt8) (e : Ending) : Prop := e = .returned (.tuple #[]) ∧ ∃ ov', Pg w0 w' S ov' wd la l ∧ Kept S w w'

set_option linter.unusedSimpArgs false in
set_option maxHeartbeats 4000000 in
set_option maxRecDepth 100000 in
theorem add_any (d : ByteArray) (x : Int) (ap : Bool) (w0 w : World) (S : Nat) (ov : Value) (wd : Nat) (la : Int) (l : List UInt8) (h : Pg w0 w S ov wd la l) (hl : l.length ≤ 70000000000000) (hd : d.size ≤ 100000000) :
    Calls Tryz.prog 83 #[.pointer (some ⟨S, 0, none⟩), .string d, .int .i64 x, .bool ap] w fun e w' => PWrote w0 w w' S wd x (l ++ ((if ap then [10] else []) ++ (d.data.toList ++ [10]))) e := by
  obtain ⟨s0, s1, s2, s3, s4⟩ := h.cells
  have H := Lib.hid h
  clear h
  cases ap with
  | true =>
    go_enter Tryz.func83, Tryz.ntmps83
    go_wp2_with (first
      | (at_builtin; (refine pg_bytes rfl _ _ 46 rfl Tryz.underlying46 rfl H.out [10] _ (by simp [bytesV]) 1 rfl 1 _ rfl (by simp) (by omega) ?_); intro va vn vc w1 hm; obtain ⟨m0, m1⟩ := hm.cells; have HM := Lib.hid hm.store; obtain ⟨p0, p1, p2, p3, p4⟩ := hm.store.1.cells; clear hm)
      | (at_builtin; (refine pg_text rfl _ _ 46 9 rfl Tryz.underlying46 Tryz.underlying9 rfl HM.out.1 d rfl (by rw [List.length_append]; simp only [List.length_cons, List.length_nil]; omega) ?_); intro va2 vn2 vc2 w2 hm; obtain ⟨m2, m3⟩ := hm.cells; have HM2 := Lib.hid hm.store; obtain ⟨q0, q1, q2, q3, q4⟩ := hm.store.1.cells; clear hm)
      | (at_builtin; (refine pg_bytes rfl _ _ 46 rfl Tryz.underlying46 rfl HM2.out.1 [10] _ (by simp [bytesV]) 1 rfl 1 _ rfl (by simp) (by rw [List.length_append, List.length_append]; simp only [List.length_cons, List.length_nil]; simp; omega) ?_); intro va3 vn3 vc3 w3 hm; obtain ⟨m4, m5⟩ := hm.cells; have HM3 := Lib.hid hm.store; obtain ⟨r0, r1, r2, r3, r4⟩ := hm.store.1.cells; clear hm))
    go_end0
    have hz := HM3.out.1.setLast x
    exact ⟨rfl, _, by simpa using hz.1, HM.out.2.trans (HM2.out.2.trans (HM3.out.2.trans hz.2))⟩
  | false =>
    go_enter Tryz.func83, Tryz.ntmps83
    go_wp2_with (first
      | (at_builtin; (refine pg_text rfl _ _ 46 9 rfl Tryz.underlying46 Tryz.underlying9 rfl H.out d rfl (by omega) ?_); intro va2 vn2 vc2 w2 hm; obtain ⟨m2, m3⟩ := hm.cells; have HM2 := Lib.hid hm.store; obtain ⟨q0, q1, q2, q3, q4⟩ := hm.store.1.cells; clear hm)
      | (at_builtin; (refine pg_bytes rfl _ _ 46 rfl Tryz.underlying46 rfl HM2.out.1 [10] _ (by simp [bytesV]) 1 rfl 1 _ rfl (by simp) (by rw [List.length_append]; simp; omega) ?_); intro va3 vn3 vc3 w3 hm; obtain ⟨m4, m5⟩ := hm.cells; have HM3 := Lib.hid hm.store; obtain ⟨r0, r1, r2, r3, r4⟩ := hm.store.1.cells; clear hm))
    go_end0
    have hz := HM3.out.1.setLast x
    exact ⟨rfl, _, by simpa using hz.1, HM2.out.2.trans (HM3.out.2.trans hz.2)⟩
end Go.Proofs.YtdehkgflokeodaaGreatDoor.Y

/- layout's page: addForm, addComment, addSource. -/
namespace Go.Proofs.YtdehkgflokeodaaGreatDoor.Y
open Go.RowKit Go.Deep

/-- What stands last behind a form's lines. -/
def stI (x : List UInt8) : Int := if 0 ≤ Lib.indexByte x 10 then 3 else 2
/-- What a form puts on a page, where la stands last. -/
def putI (la : Int) (x : List UInt8) : List UInt8 := (if stI x = 3 ∧ la = 3 then [10] else []) ++ (x ++ [10])
theorem up' {w0 w w' : World} (h : Below w0.heap.size w0 w) (h2 : Below w.heap.size w w') : Below w0.heap.size w0 w' := up h h2
set_option linter.unusedSimpArgs false in
set_option maxHeartbeats 4000000 in
set_option maxRecDepth 100000 in
theorem addForm_any (t : T) (w0 w : World) (S : Nat) (ov : Value) (wd : Nat) (la : Int) (l : List UInt8) (h : Pg w0 w S ov wd la l) (hin : In w t) (hv : validF t.form = true) (htab : Tab w.heap.size w) (hwd : wd ≤ 200) (hl : l.length ≤ 60000000000000) :
    Calls Tryz.prog 82 #[.pointer (some ⟨S, 0, none⟩), t.val] w fun e w' => PWrote w0 w w' S wd (stI (linF t.form 0 wd 0)) (l ++ putI la (linF t.form 0 wd 0)) e := by
  have hln := linF_len hv 0 wd 0 (by have := valid_parts hv; omega)
  obtain ⟨X, hX⟩ : ∃ X, linF t.form 0 wd 0 = X := ⟨_, rfl⟩
  have HIL := inLines_any t (w.alloc (.cells #[.int .i64 t.kd, .int .i64 t.nn, .string t.tx, .slice t.ad t.ks.length t.cp] 29)).drew wd (hin.below (bel1 _ _).drew) hv (Tab.mono (htab.on (bel1 _ _).drew) (bel1 _ _).drew.size) hwd
  rw [hX] at HIL hln ⊢
  obtain ⟨D, hD⟩ : ∃ D : ByteArray, (⟨X.toArray⟩ : ByteArray) = D := ⟨_, rfl⟩
  rw [hD] at HIL
  have hDX : D.data.toList = X := by rw [← hD]
  have hDz : D.size ≤ 100000000 := by have := ba_size hDX; omega
  have hSw := lt_of_block h.blk
  have hxb : Box4 (w.alloc (.cells #[.int .i64 t.kd, .int .i64 t.nn, .string t.tx, .slice t.ad t.ks.length t.cp] 29)).drew w.heap.size t := heap_alloc_new w _
  have HX := Lib.hid hxb
  have HP0 := Lib.hid ((h.alloc (.cells #[.int .i64 t.kd, .int .i64 t.nn, .string t.tx, .slice t.ad t.ks.length t.cp] 29)).drew)
  have HB0 : Hid (Below w.heap.size w (w.alloc (.cells #[.int .i64 t.kd, .int .i64 t.nn, .string t.tx, .slice t.ad t.ks.length t.cp] 29)).drew) := Lib.hid (bel1 _ _).drew
  have HC := Lib.hid (fun W => Tryz.strings_Contains_one D 10 W)
  rw [hDX] at HC
  replace HIL := Lib.hid HIL
  have HADD : Hid (∀ W (x : Int) ap, Pg w0 W S ov wd la l → Calls Tryz.prog 83 #[.pointer (some ⟨S, 0, none⟩), .string D, .int .i64 x, .bool ap] W fun e w' => PWrote w0 W w' S wd x (l ++ ((if ap then [10] else []) ++ (X ++ [10]))) e) := Lib.hid fun W x ap hp => by
    have := add_any D x ap w0 W S ov wd la l hp (by omega) hDz
    rwa [hDX] at this
  clear hin hv htab hX hD hDX hxb h
  by_cases hc : 0 ≤ Lib.indexByte X 10
  · have dc : decide (0 ≤ Lib.indexByte X 10) = true := by simpa using hc
    have e3 : stI X = 3 := by unfold stI; rw [if_pos hc]
    rw [dc] at HC
    rw [e3]
    by_cases hla : la = 3
    · have eP : putI la X = [10] ++ (X ++ [10]) := by unfold putI; rw [if_pos ⟨e3, hla⟩]
      have gl : (la == 3) = true := by simpa using hla
      rw [eP]
      clear hc dc e3 eP hla
      go_enter Tryz.func82, Tryz.ntmps82
      go_wp2_with fail
      go_region_held3 (fun w' => w'.cell? ⟨w.heap.size, 0, none⟩ = some (.int .i64 t.kd) ∧ w'.cell? ⟨w.heap.size, 1, none⟩ = some (.int .i64 t.nn) ∧ w'.cell? ⟨w.heap.size, 2, none⟩ = some (.string t.tx) ∧ w'.cell? ⟨w.heap.size, 3, none⟩ = some (.slice t.ad t.ks.length t.cp) ∧ w'.cell? ⟨S, 1, none⟩ = some (.int .i64 wd))
        (first
          | exact ⟨HX.out.cells.1, HX.out.cells.2.1, HX.out.cells.2.2.1, HX.out.cells.2.2.2, HP0.out.cells.2.1⟩
          | exact ⟨HX2.out.cells.1, HX2.out.cells.2.1, HX2.out.cells.2.2.1, HX2.out.cells.2.2.2, HP2.out.cells.2.1⟩)
        (first
          | (go_at_call 45; (with_reducible refine HIL.out.mono ?_); rintro e w2 ⟨rfl, hB⟩; have HX2 : Hid (Box4 w2 w.heap.size t) := Lib.hid ((hB.block _ (lt_of_block HX.out)).trans HX.out); have HP2 := Lib.hid (HP0.out.next hB); obtain ⟨p0, p1, p2, p3, p4⟩ := (HP0.out.next hB).cells; have HB2 := Lib.hid hB; clear hB))
      go_wp2_with (first
        | (go_at_call 125; (with_reducible refine (HC.out _).mono ?_); rintro e w3 ⟨rfl, rfl⟩)
        | (go_at_call 83; (with_reducible refine (HADD.out _ _ _ HP2.out).mono ?_); rintro e w4 ⟨rfl, ov4, hp4, hk4⟩; have HP4 := Lib.hid hp4; have HK4 := Lib.hid hk4; clear hp4 hk4))
      go_end0
      exact ⟨rfl, ov4, by simpa using HP4.out, ((Kept.of HB0.out).below HB2.out).trans HK4.out⟩
    · have eP : putI la X = [] ++ (X ++ [10]) := by unfold putI; rw [if_neg (fun h => hla h.2)]
      have gl : (la == 3) = false := by simpa using hla
      rw [eP]
      clear hc dc e3 eP hla
      go_enter Tryz.func82, Tryz.ntmps82
      go_wp2_with fail
      go_region_held3 (fun w' => w'.cell? ⟨w.heap.size, 0, none⟩ = some (.int .i64 t.kd) ∧ w'.cell? ⟨w.heap.size, 1, none⟩ = some (.int .i64 t.nn) ∧ w'.cell? ⟨w.heap.size, 2, none⟩ = some (.string t.tx) ∧ w'.cell? ⟨w.heap.size, 3, none⟩ = some (.slice t.ad t.ks.length t.cp) ∧ w'.cell? ⟨S, 1, none⟩ = some (.int .i64 wd))
        (first
          | exact ⟨HX.out.cells.1, HX.out.cells.2.1, HX.out.cells.2.2.1, HX.out.cells.2.2.2, HP0.out.cells.2.1⟩
          | exact ⟨HX2.out.cells.1, HX2.out.cells.2.1, HX2.out.cells.2.2.1, HX2.out.cells.2.2.2, HP2.out.cells.2.1⟩)
        (first
          | (go_at_call 45; (with_reducible refine HIL.out.mono ?_); rintro e w2 ⟨rfl, hB⟩; have HX2 : Hid (Box4 w2 w.heap.size t) := Lib.hid ((hB.block _ (lt_of_block HX.out)).trans HX.out); have HP2 := Lib.hid (HP0.out.next hB); obtain ⟨p0, p1, p2, p3, p4⟩ := (HP0.out.next hB).cells; have HB2 := Lib.hid hB; clear hB))
      go_wp2_with (first
        | (go_at_call 125; (with_reducible refine (HC.out _).mono ?_); rintro e w3 ⟨rfl, rfl⟩)
        | (go_at_call 83; (with_reducible refine (HADD.out _ _ _ HP2.out).mono ?_); rintro e w4 ⟨rfl, ov4, hp4, hk4⟩; have HP4 := Lib.hid hp4; have HK4 := Lib.hid hk4; clear hp4 hk4))
      go_end0
      exact ⟨rfl, ov4, by simpa using HP4.out, ((Kept.of HB0.out).below HB2.out).trans HK4.out⟩
  · have dc : decide (0 ≤ Lib.indexByte X 10) = false := by simpa using hc
    have e3 : stI X = 2 := by unfold stI; rw [if_neg hc]
    rw [dc] at HC
    rw [e3]
    have eP : putI la X = [] ++ (X ++ [10]) := by unfold putI; rw [if_neg (fun h => by rw [e3] at h; exact absurd h.1 (by decide))]
    rw [eP]
    clear hc dc e3 eP
    go_enter Tryz.func82, Tryz.ntmps82
    go_wp2_with fail
    go_region_held3 (fun w' => w'.cell? ⟨w.heap.size, 0, none⟩ = some (.int .i64 t.kd) ∧ w'.cell? ⟨w.heap.size, 1, none⟩ = some (.int .i64 t.nn) ∧ w'.cell? ⟨w.heap.size, 2, none⟩ = some (.string t.tx) ∧ w'.cell? ⟨w.heap.size, 3, none⟩ = some (.slice t.ad t.ks.length t.cp) ∧ w'.cell? ⟨S, 1, none⟩ = some (.int .i64 wd))
      (first
        | exact ⟨HX.out.cells.1, HX.out.cells.2.1, HX.out.cells.2.2.1, HX.out.cells.2.2.2, HP0.out.cells.2.1⟩
        | exact ⟨HX2.out.cells.1, HX2.out.cells.2.1, HX2.out.cells.2.2.1, HX2.out.cells.2.2.2, HP2.out.cells.2.1⟩)
      (first
        | (go_at_call 45; (with_reducible refine HIL.out.mono ?_); rintro e w2 ⟨rfl, hB⟩; have HX2 : Hid (Box4 w2 w.heap.size t) := Lib.hid ((hB.block _ (lt_of_block HX.out)).trans HX.out); have HP2 := Lib.hid (HP0.out.next hB); obtain ⟨p0, p1, p2, p3, p4⟩ := (HP0.out.next hB).cells; have HB2 := Lib.hid hB; clear hB))
    go_wp2_with (first
      | (go_at_call 125; (with_reducible refine (HC.out _).mono ?_); rintro e w3 ⟨rfl, rfl⟩)
      | (go_at_call 83; (with_reducible refine (HADD.out _ _ _ HP2.out).mono ?_); rintro e w4 ⟨rfl, ov4, hp4, hk4⟩; have HP4 := Lib.hid hp4; have HK4 := Lib.hid hk4; clear hp4 hk4))
    go_end0
    exact ⟨rfl, ov4, by simpa using HP4.out, ((Kept.of HB0.out).below HB2.out).trans HK4.out⟩
end Go.Proofs.YtdehkgflokeodaaGreatDoor.Y

/- layout's page: addSource, of a source that reads as one form. -/
namespace Go.Proofs.YtdehkgflokeodaaGreatDoor.Y
open Go.RowKit Go.Deep

set_option linter.unusedSimpArgs false in
set_option maxHeartbeats 4000000 in
set_option maxRecDepth 100000 in
theorem addSource_one (d : ByteArray) (f : Fm) (hd : d.size ≤ maxLen) (hr : readR d = .ok [f]) (hv : validF f = true) (w0 w : World) (hg : Glob w) (h6 : 8 ≤ w.heap.size) (S : Nat) (ov : Value) (wd : Nat) (la : Int) (l : List UInt8) (h : Pg w0 w S ov wd la l) (htab : Tab w.heap.size w) (hwd : wd ≤ 200) (hl : l.length ≤ 60000000000000) :
    Calls Tryz.prog 50 #[.pointer (some ⟨S, 0, none⟩), .string d] w fun e w' => PWrote w0 w w' S wd (stI (linF f 0 wd 0)) (l ++ putI la (linF f 0 wd 0)) e := by
  have HR := Lib.hid ((read_any d w hd hg h6).mono fun e w' hh => (by rw [hr] at hh; exact hh : ∃ v, e = .returned (.tuple #[v, .int .i64 0]) ∧ Forms w.heap.size w' v [f] ∧ Below w.heap.size w w'))
  have H := Lib.hid h
  have HT := Lib.hid htab
  clear h htab hg hr
  go_enter Tryz.func50, Tryz.ntmps50
  go_wp2_with (go_at_call 48; (with_reducible refine HR.out.mono ?_); rintro e w2 ⟨v, rfl, ⟨va, vc, ts, rfl, hts, hmap, hcap, hlow⟩, hB⟩; have HTS := Lib.hid hts; have HMP := Lib.hid hmap; have HB := Lib.hid hB; have hl1 : ts.length = 1 := (by have := congrArg List.length hmap; simpa using this); clear hts hmap hcap hlow hB)
  rcases ts with _ | ⟨t, _ | ⟨t2, r⟩⟩
  · simp at hl1
  · clear hl1
    have htf : t.form = f := by have := HMP.out; simpa using this
    subst htf
    obtain ⟨⟨b, o, rfl, hx0, hx1, hx2, hx3⟩, hin⟩ := HTS.out.at 0 (by simp)
    simp only [Nat.zero_mul, Nat.add_zero, List.getElem_cons_zero] at hx0 hx1 hx2 hx3 hin
    have lb : b < w2.heap.size := World.block_lt_of_cell? _ _ hx0
    have HIN := Lib.hid hin
    have HP2 := Lib.hid (H.out.next HB.out)
    have HAF := Lib.hid (addForm_any t w0 (w2.alloc (.cells #[.int .i64 t.kd, .int .i64 t.nn, .string t.tx, .slice t.ad t.ks.length t.cp] 29)) S ov wd la l (HP2.out.alloc _) (hin.alloc _) hv ((HT.out.next HB.out).next (bel1 _ _)) hwd hl)
    clear hin
    go_loopg [15] (1) (fun m i wr => (m = 1 ∧ i = .int .i64 0 ∧ wr = w2) ∨ (m = 0 ∧ i = .int .i64 1 ∧ ∃ ov', Pg w0 wr S ov' wd (stI (linF t.form 0 wd 0)) (l ++ putI la (linF t.form 0 wd 0)) ∧ Kept S w wr))
    case atStart => exact .inl ⟨rfl, rfl, rfl⟩
    case round =>
      rcases hrel with ⟨rfl, rfl, rfl⟩ | ⟨rfl, rfl, ov', hp, hk⟩
      · go_wp2_with (go_at_call 82; (with_reducible refine HAF.out.mono ?_); rintro e w4 ⟨rfl, ov4, hp4, hk4⟩; have HP4 := Lib.hid hp4; have HK4 := Lib.hid hk4; clear hp4 hk4)
        go_roundg (0)
        case measure => omega
        case rel => exact .inr ⟨rfl, rfl, ov4, HP4.out, ((Kept.of HB.out).alloc _).trans HK4.out⟩
      · have HP := Lib.hid hp
        have HK := Lib.hid hk
        clear hp hk
        go_wp2_with fail
        go_end0
        exact ⟨rfl, ov', HP.out, HK.out⟩
  · simp at hl1
end Go.Proofs.YtdehkgflokeodaaGreatDoor.Y

/- layout.Text of a text of one line that reads as one form and is no comment. -/
namespace Go.Proofs.YtdehkgflokeodaaGreatDoor.Y
open Go.RowKit Go.Shelf Go.Deep
attribute [local go_sem] Oper.semAt_some

/-- pieces of a text of one line, to any caller. -/
theorem pieces1_seq (n : Nat) (hn : 6 ≤ n) (Bn : Nat) (s u : ByteArray) (hs : Lib.indexByte s.data.toList 10 = -1) (hz : s.size ≤ 1000000000) (hob : obF s.data.toList false 0 = 0)
    (htr : ∀ W, Calls Tryz.prog 79 #[.string s, .string ⟨#[32, 9]⟩] W fun e w' => e = .returned (.string u) ∧ Below W.heap.size W w') (hpx : Lib.hasPrefix u.data.toList [59] = false)
    (safe : Obj → Prop) (hsafe : ∀ o : Obj, o.isCells = false → safe o) (own : World → Option Nat) :
    SeqY Fence.wide n Tryz.prog 78 #[.pointer (some ⟨Bn, 0, none⟩)] (encP s) safe own (fun A => A.cell? ⟨Bn, 0, none⟩ = some (.string s)) (fun ys => ys = [()]) (fun ys => ys = [()]) (fun ys => ys = [()]) := by
  intro l J Jx W hJ hJx hR hY h0
  have nb : ∀ {K : List Unit → World → Prop}, Stands own W.heap.size K → ∀ D pre A, K pre A → W.heap.size ≤ D → A.heap[D]? = some (.deferred (some [])) → K pre (A.putObj D (.deferred none)) := fun hK D pre A hk hD hd => (hK.turned hk hD hd rfl _).1
  exact pieces1_in n hn l Bn s u hs hz hob htr hpx J Jx (fun A B => ∀ D, W.heap.size ≤ D → A.heap[D]? = some (.deferred (some [])) → B.heap[D]? = some (.deferred (some []))) W
    (fun s A B row hs hg hr => (hJ.1 s A B hs ⟨row, hg, fun r e => ⟨(hr r e).1, by obtain ⟨_, o, ho, hw⟩ := hr r e; exact hJ.not hs ho (Obj.not_cells_of_walk hw)⟩⟩).1)
    (fun pre x A hj hl => by
      obtain ⟨fn, tmps, assign, body, hy, hQ⟩ := hY pre x A hj (by have : pre = [] := List.length_eq_zero_iff.1 (by omega); subst this; rfl)
      refine ⟨fn, tmps, assign, body, hy, hQ.mono ?_⟩
      rintro e A' (⟨he, hj', hk⟩ | ⟨he, hj', hk⟩)
      · exact .inl ⟨he, hj', fun D hD hd => hk.same D _ hD (hJ.not hj hd rfl) (hsafe _ rfl) hd⟩
      · exact .inr ⟨he, hj', fun D hD hd => hk.same D _ hD (hJ.not hj hd rfl) (hsafe _ rfl) hd⟩)
    (fun D A B hk hD hd => hk D hD hd) (nb hJ) (nb hJx) (hR _ _ h0) h0

/-- The block of the page's bytes. -/
def ownP (S : Nat) (A : World) : Option Nat := (A.cell? ⟨S, 0, none⟩).bind Value.ownBlock
theorem Pg.ownP {w0 A : World} {S : Nat} {ov : Value} {wd : Nat} {la : Int} {l : List UInt8} (h : Pg w0 A S ov wd la l) : ownP S A = ov.ownBlock := by
  unfold Y.ownP; rw [h.cells.1]; rfl
theorem Pg.moved {w0 A A' : World} {S : Nat} {ov : Value} {wd : Nat} {la : Int} {l : List UInt8} (h : Pg w0 A S ov wd la l) {row : Option Nat} (hg : A.grownBy A' row) (hr : ∀ r, row = some r → S < r ∧ ov.ownBlock ≠ some r) : Pg w0 A' S ov wd la l :=
  ⟨(hg.block S (lt_of_block h.blk) fun e => by have := (hr S e.symm).1; omega).trans h.blk,
    own_same h.own fun k hk => hg.block k (h.own.lt k hk).2 fun e => (hr k e.symm).2 hk,
    h.below.grown hg h.below.size fun b hb => by have := (hr b hb).1; have := h.hS; omega, h.hS, h.ne⟩
def safeT (o : Obj) : Prop := ∀ c fz, o ≠ .cells c 5 fz
theorem safe_not {o : Obj} (h : o.isCells = false) : safeT o := fun c fz e => by rw [e] at h; cases h
/-- What a round leaves. -/
theorem leaves_kept {w0 A A' : World} {S B : Nat} {ov : Value} {wd : Nat} {la : Int} {l : List UInt8} (hS : S < B) (hk : Kept S A A') (h : Pg w0 A' S ov wd la l) : Leaves safeT (ownP S) B A A' := by
  refine ⟨hk.size, fun r o hr _ hs ho => hk.others r o ho (by intro e; injection e with e; omega) hs, .inr (.inr fun r e => ?_)⟩
  rw [h.ownP] at e
  obtain ⟨c, fz, hc⟩ := row_bytes h.own r e
  exact ⟨_, hc, fun hs => hs c fz rfl⟩

/-- The page and its variable, between two rounds. -/
def PgI {β : Type} (w0 : World) (S wd : Nat) (d : ByteArray) (Q : β → Int → List UInt8 → Prop) (s : β) (A : World) : Prop :=
  (A.heap[S + 1]? = some (.cells #[.pointer (some ⟨S, 0, none⟩)] 60 (0, 0)) ∧ A.heap[S + 2]? = some (.cells #[.string d] 9 (0, 0))) ∧ ∃ ov la l, Q s la l ∧ Pg w0 A S ov wd la l
theorem pg_stands {β : Type} {w0 : World} {S wd B : Nat} {d : ByteArray} (hB : S + 3 ≤ B) (Q : β → Int → List UInt8 → Prop) : Stands (ownP S) B (PgI w0 S wd d Q) := by
  constructor
  · rintro s A A' ⟨⟨c1, c2⟩, ov, la, l, hq, hp⟩ ⟨row, hg, hr⟩
    have hp' := hp.moved hg fun r e => ⟨by have := (hr r e).1; omega, by rw [← hp.ownP]; exact (hr r e).2⟩
    exact ⟨⟨⟨(hg.block _ (lt_of_getElem? c1) fun e => by have := (hr _ e.symm).1; omega).trans c1, (hg.block _ (lt_of_getElem? c2) fun e => by have := (hr _ e.symm).1; omega).trans c2⟩, ov, la, l, hq, hp'⟩, hp'.ownP.trans hp.ownP.symm⟩
  · rintro s A r ⟨_, ov, la, l, hq, hp⟩ e
    rw [hp.ownP] at e
    obtain ⟨c, fz, hc⟩ := row_bytes hp.own r e
    exact ⟨_, _, _, hc⟩
theorem kept_cells {S b : Nat} {A A' : World} (hk : Kept S A A') {v : Value} {t : TypeId} (hb : b ≠ S) (ht : t ≠ 5) (h : A.heap[b]? = some (.cells #[v] t (0, 0))) : A'.heap[b]? = some (.cells #[v] t (0, 0)) :=
  hk.others b _ h (by intro e; injection e with e; exact hb e) (by intro c fz e; injection e with _ e _; exact ht e)
theorem Pg.start {w w2 : World} (hb : Below w.heap.size w w2) (wd S : Nat) (hS : w2.heap.size = S) : Pg w (w2.alloc (.cells #[.slice none 0 0, .int .i64 wd, .int .i64 0] 62)) S (.slice none 0 0) wd 0 [] := by
  subst hS
  exact ⟨heap_alloc_new w2 _, World.ownsRow_nil _ _ _ _, up hb (bel1 _ _), hb.size, by simp [Value.ownBlock]⟩
theorem conv_pg {w0 w : World} {S : Nat} {ov : Value} {wd : Nat} {la : Int} {l : List UInt8} (h : Pg w0 w S ov wd la l) : (convert 46 9 ov).run Tryz.prog w = .ok (.string ⟨l.toArray⟩) w := conv_row h.own 0

set_option linter.unusedSimpArgs false in
set_option maxRecDepth 100000 in
set_option maxHeartbeats 4000000 in
theorem text_one (n : Nat) (hn : 8 ≤ n) (d u : ByteArray) (f : Fm) (wd : Nat) (hw1 : 20 ≤ wd) (hw2 : wd ≤ 200) (hd : d.size ≤ 60000) (hr : readR d = .ok [f]) (hv : validF f = true) (hs : Lib.indexByte d.data.toList 10 = -1) (hob : obF d.data.toList false 0 = 0)
    (htr : ∀ W, Calls Tryz.prog 79 #[.string d, .string ⟨#[32, 9]⟩] W fun e w' => e = .returned (.string u) ∧ Below W.heap.size W w') (hpx : Lib.hasPrefix u.data.toList [59] = false)
    (w : World) (hg : Glob w) (h6 : 8 ≤ w.heap.size) (htab : Tab w.heap.size w) :
    CallsIn Fence.wide n Tryz.prog 19 #[.string d, .int .i64 wd] w fun e w' => e = .returned (.tuple #[.string ⟨(putI 0 (linF f 0 wd 0)).toArray⟩, .int .i64 0]) ∧ Below w.heap.size w w' := by
  have h1 : 1 ≤ n := by omega
  have g1 : (20 : Int) ≤ (wd : Int) := by omega
  have g2 : (wd : Int) ≤ 200 := by omega
  have HW := Lib.hid fun W => isWidth_any (wd : Int) W
  rw [show (decide ((20 : Int) ≤ (wd : Int)) && decide ((wd : Int) ≤ 200)) = true by simp; omega] at HW
  have HR := Lib.hid fun W (k : Below w.heap.size w W) => ((read_any d W (by unfold maxLen; omega) (hg.below k h6) (Nat.le_trans h6 k.size)).mono fun e w' hh => (by rw [hr] at hh; exact hh : ∃ v, e = .returned (.tuple #[v, .int .i64 0]) ∧ Forms W.heap.size w' v [f] ∧ Below W.heap.size W w'))
  obtain ⟨L, hL⟩ : ∃ L, linF f 0 wd 0 = L := ⟨_, rfl⟩
  rw [hL]
  refine callsIn_of_wp_marks Tryz.func19 rfl trivial ?_ rfl
  simp only [Tryz.ntmps19, List.size_toArray, List.length_cons, List.length_nil, Nat.reduceAdd, Nat.reduceSub, Array.replicate_succ, Array.replicate_zero, List.push_toArray, List.append_toArray, List.nil_append, List.cons_append]
  gi_wp2_with (first
    | (refine ⟨trivial, ?_⟩; gi_at_call 44; (refine (callsIn_wide.2 (HW.out _)).mono ?_); rintro e w' ⟨rfl, rfl⟩)
    | (refine ⟨trivial, ?_⟩; gi_at_call 48; (refine (callsIn_wide.2 (HR.out _ (Below.refl _ _))).mono ?_); rintro e w2 ⟨v, rfl, _, hB⟩; have HB := Lib.hid hB; clear hB)
    | (refine ⟨trivial, ?_⟩; gi_at_call 49; refine (pieces_in d _ _).mono ?_; rintro e w' ⟨rfl, rfl⟩))
  have hS0 : w.heap.size ≤ w2.heap.size := HB.out.size
  have HPG := Pg.start HB.out wd w2.heap.size rfl
  obtain ⟨S, hS⟩ : ∃ S, w2.heap.size = S := ⟨_, rfl⟩
  rw [hS] at HPG hS0 ⊢
  obtain ⟨A1, hA1⟩ : ∃ A1, w2.alloc (.cells #[.slice none 0 0, .int .i64 wd, .int .i64 0] 62) = A1 := ⟨_, rfl⟩
  have z1 : A1.heap.size = S + 1 := by rw [← hA1, ← hS]; simp
  rw [hA1] at HPG ⊢
  obtain ⟨A2, hA2⟩ : ∃ A2, A1.alloc (.cells #[.pointer (some ⟨S, 0, none⟩)] 60) = A2 := ⟨_, rfl⟩
  have z2 : A2.heap.size = S + 2 := by rw [← hA2]; simp [z1]
  have q2 : A2.heap[S + 1]? = some (.cells #[.pointer (some ⟨S, 0, none⟩)] 60 (0, 0)) := by rw [← hA2, ← z1]; exact heap_alloc_new A1 _
  replace HPG := HPG.alloc (.cells #[.pointer (some ⟨S, 0, none⟩)] 60)
  rw [hA2] at HPG ⊢
  obtain ⟨A3, hA3⟩ : ∃ A3, A2.alloc (.cells #[.string d] 9) = A3 := ⟨_, rfl⟩
  have z3 : A3.heap.size = S + 3 := by rw [← hA3]; simp [z2]
  have q3 : A3.heap[S + 2]? = some (.cells #[.string d] 9 (0, 0)) := by rw [← hA3, ← z2]; exact heap_alloc_new A2 _
  have q4 : A3.heap[S + 1]? = some (.cells #[.pointer (some ⟨S, 0, none⟩)] 60 (0, 0)) := by rw [← hA3]; exact (Below.heap_alloc _ _ _ (by omega)).trans q2
  replace HPG := HPG.alloc (.cells #[.string d] 9)
  rw [hA3] at HPG ⊢
  refine range_own (α := Unit) rfl h1 (gf := 78) (lb := #[.pointer (some ⟨S + 1 + 1, 0, none⟩)]) rfl trivial (enters_of Tryz.func78 (by kernel_rfl) rfl)
    (encs := fun _ => #[.string d, .string ⟨#[]⟩]) (safe := safeT) (fun o h => safe_not h) (own := ownP S) (pieces1_seq (n - 1) (by omega) (S + 1 + 1) d u hs (by omega) hob htr hpx safeT (fun o h => safe_not h) (ownP S)) (fun _ => rfl)
    (PgI w S wd d fun s la l => (s = [] ∧ la = 0 ∧ l = []) ∨ (s = [()] ∧ la = stI L ∧ l = putI 0 L)) (fun _ _ _ => False) (pg_stands (by omega) _) (fun c => ⟨fun _ _ _ h => h.elim, fun _ _ _ h => h.elim⟩) (fun s A h => (cell_of1 h.1.2).1)
    ⟨⟨q4, q3⟩, _, _, _, .inl ⟨rfl, rfl, rfl⟩, HPG⟩ ?a1 ?assign ?body ?done ?stop
  case assign =>
    intro l' x V K hK
    gi_wp2
    exact hK
  case stop =>
    rintro D c pre V hD _ h _
    exact h.elim
  case body =>
    rintro l' pre x V ⟨⟨c1, c2⟩, ov, la, l, hq, hp⟩ hpre
    obtain rfl : pre = [] := by cases pre with
                              | nil => rfl
                              | cons a r => simp at hpre
    obtain ⟨rfl, rfl⟩ : la = 0 ∧ l = [] := by
      rcases hq with ⟨_, h⟩ | ⟨h, _⟩
      · exact h
      · cases h
    have HA := Lib.hid (addSource_one d f (by unfold maxLen; omega) hr hv w V (hg.below hp.below h6) (Nat.le_trans h6 hp.below.size) S ov wd 0 [] hp (htab.next hp.below) hw2 (by simp))
    rw [hL] at HA
    have h3 : 1 ≤ n - 1 - 1 := by omega
    have e1 := (cell_of1 c1).1
    have C1 := Lib.hid c1
    have C2 := Lib.hid c2
    clear c1 c2 hp hq
    gi_wp2_with ((refine ⟨trivial, ?_⟩; gi_at_call 50; (refine (CallsIn.inRound l' (callsIn_wide.2 HA.out)).mono ?_); rintro e w5 ⟨rfl, ov5, hp5, hk5⟩))
    exact ⟨leaves_kept (by omega) hk5 hp5, ⟨kept_cells hk5 (by omega) (by decide) C1.out, kept_cells hk5 (by omega) (by decide) C2.out⟩, ov5, _, _, .inr ⟨rfl, rfl, rfl⟩, by simpa using hp5⟩
  case done =>
    rintro D ys V hD rfl ⟨⟨c1, c2⟩, ov, la, l, hq, hp⟩ hK
    obtain ⟨rfl, rfl⟩ : la = stI L ∧ l = putI 0 L := by
      rcases hq with ⟨h, _⟩ | ⟨_, h⟩
      · cases h
      · exact h
    have e1 := (cell_of1 c1).1
    obtain ⟨p0, p1, p2, p3, p4⟩ := hp.cells
    have hcv := conv_pg hp
    gi_wp2
    refine ⟨by simp, .inl ⟨_, _, rfl, run_takeDeferred hK, ?_⟩⟩
    refine ⟨.tuple #[.string ⟨(putI 0 L).toArray⟩, .int .i64 0], by simp [results, Tryz.results19, go_sem], rfl, ?_⟩
    exact hp.below.grown (grownBy_putObj' V D _) hp.below.size (fun k e => by cases e; omega)
end Go.Proofs.YtdehkgflokeodaaGreatDoor.Y

/- strings.Trim at blanks and tabs. -/
namespace Go.Proofs.YtdehkgflokeodaaGreatDoor.Y
open Go.RowKit Go.Shelf Go.Deep

theorem trim_any (s : ByteArray) (hs : s.size ≤ 1000000000) (w : World) :
    Calls Tryz.prog 79 #[.string s, .string ⟨#[32, 9]⟩] w fun e w' => e = .returned (.string ⟨(Lib.trimS s.data.toList [32, 9]).toArray⟩) ∧ Below w.heap.size w w' :=
  Any.strings_Trim_laid Tryz.lays160 (by kernel_rfl) s ⟨#[32, 9]⟩ w (by omega) (by decide) (ascii_of_all (by decide))
end Go.Proofs.YtdehkgflokeodaaGreatDoor.Y

/- The chapter's example. -/
namespace Go.Proofs.YtdehkgflokeodaaGreatDoor.Y
open Go.RowKit Go.Shelf Go.Deep

def sD : ByteArray := ⟨#[40, 102, 32, 32, 32, 49, 41]⟩
def sF : Fm := .mk 3 0 ⟨#[]⟩ [.mk 1 0 ⟨#[102]⟩ [], .mk 0 1 ⟨#[]⟩ []]
theorem s_one : Lib.itoa 1 = [49] := by
  unfold Lib.itoa
  rw [if_neg (by decide)]
  show Lib.decDigits 1 = [49]
  rw [Lib.decDigits, dif_pos (by decide)]
  rfl
theorem s_fields : fieldsF sF = true ∧ fieldsF (.mk 1 0 ⟨#[102]⟩ []) = true ∧ fieldsF (.mk 0 1 ⟨#[]⟩ []) = true := by
  refine ⟨?_, ?_, ?_⟩ <;> rfl
theorem s_valid : validF sF = true := by rfl
theorem s_tx : txF sF = [40, 102, 32, 49, 41] := by
  simp [sF, txF_eq, joinB, s_one, Fm.kd, Fm.ks, Fm.tx, Fm.nn]
theorem s_read : readR sD = .ok [sF] := by
  have k2 : Kids true ([32, 32, 32] ++ (txF (.mk 0 1 ⟨#[]⟩ []) ++ [])) [.mk 0 1 ⟨#[]⟩ []] := Kids.cons (by intro c hc; simp at hc; subst hc; decide) (by simp) (reads_tx s_fields.2.2) (Kids.nil _)
  have k1 : Kids false ([] ++ (txF (.mk 1 0 ⟨#[102]⟩ []) ++ ([32, 32, 32] ++ (txF (.mk 0 1 ⟨#[]⟩ []) ++ [])))) [.mk 1 0 ⟨#[102]⟩ [], .mk 0 1 ⟨#[]⟩ []] := Kids.cons (by simp) (by simp) (reads_tx s_fields.2.1) k2
  have hl := reads_list k1
  have e : (40 : UInt8) :: ([] ++ (txF (.mk 1 0 ⟨#[102]⟩ []) ++ ([32, 32, 32] ++ (txF (.mk 0 1 ⟨#[]⟩ []) ++ []))) ++ [41]) = sD.data.toList := by
    simp [txF_eq, s_one, Fm.kd, Fm.tx, Fm.nn, sD]
  rw [e] at hl
  obtain ⟨t, h1⟩ := hl sD 0 [] [] [] ⟨by simp, Nat.zero_le _⟩ (by intro c hc; cases hc)
  simp only [Nat.zero_add, List.nil_append] at h1
  exact reach_end (top := [sF]) (t := t) h1 (by decide) (by rw [List.all_cons, s_valid]; rfl)
theorem s_lin : linF sF 0 40 0 = [40, 102, 32, 49, 41] := by
  rw [linF_eq, s_tx, if_pos (.inl (by decide))]
theorem s_ob : obF sD.data.toList false 0 = 0 := by
  simp [sD, obF]
theorem s_put : putI 0 (linF sF 0 40 0) = [40, 102, 32, 49, 41, 10] := by
  rw [s_lin]; rfl
set_option maxHeartbeats 2000000 in
theorem sane_any (w : World) (hg : Glob w) (h6 : 8 ≤ w.heap.size) (htab : Tab w.heap.size w) :
    Calls Tryz.prog 18 #[] w fun e w' => e = .returned (.bool true) ∧ Below w.heap.size w w' := by
  have HT : Hid (Calls Tryz.prog 19 #[.string ⟨#[40, 102, 32, 32, 32, 49, 41]⟩, .int .i64 40] w fun e w' => e = .returned (.tuple #[.string ⟨#[40, 102, 32, 49, 41, 10]⟩, .int .i64 0]) ∧ Below w.heap.size w w') := Lib.hid (by
    have := (callsIn_wide.1 (text_one 8 (by decide) sD ⟨(Lib.trimS sD.data.toList [32, 9]).toArray⟩ sF 40 (by decide) (by decide) (by decide) s_read s_valid (by decide) s_ob (fun W => trim_any sD (by decide) W) (by decide) w hg h6 htab))
    rw [s_put] at this
    exact this)
  clear hg htab
  go_enter Tryz.func18, Tryz.ntmps18
  go_wp2_with (go_at_call 19; (with_reducible refine HT.out.mono ?_); rintro e w1 ⟨rfl, hB⟩)
  go_ret
  exact ⟨rfl, hB⟩
end Go.Proofs.YtdehkgflokeodaaGreatDoor.Y

namespace Go.Proofs.YtdehkgflokeodaaGreatDoor.layoutBack
open Go.ChangeShapes Go.WideShapes Go.ChangeAt Go.RowKit

set_option maxRecDepth 100000 in
theorem contract (H : Type) (enc : TypeId × Value → H) (W : World) (base : Nat) (args : Array Value) (ds gs : List (DataW H)) (before : List MemPlace)
    (hval : ∀ (j : Nat) t v, Tryz.f7.params[j]? = some t → args[j]? = some v → Value.okWide Tryz.prog W .any base t v)
    (hW : DataW.Whole enc Tryz.prog Tryz.f7.params.toList Rows.layoutBackSpec.vars false W args.toList ds gs before) (hL : laidMetH Tryz.prog laid7 W) :
    Calls Tryz.prog 7 args W fun e W' => ∃ v, e = .returned v ∧ Rows.layoutBackSpec.post enc Tryz.prog Tryz.f7 false true false false W args v W' := by
  have hW' := hW
  obtain ⟨p, q, hA0, hV, rfl, hfz, hnd⟩ := hW
  have hA : DataW.TrodAll enc Tryz.prog W 0 (fun _ => true) true Tryz.f7.params.toList args.toList ds p := hA0
  rw [Tryz.params7] at hA
  obtain ⟨v0, vs0, d0, ds0, p0, q0, hargs, rfl, rfl, h0, r0⟩ := trodAll_cons hA
  obtain ⟨v1, vs1, d1, ds1, p1, q1, rfl, rfl, rfl, h1, r1⟩ := trodAll_cons r0
  obtain ⟨rfl, rfl, rfl⟩ := trodAll_nil r1
  obtain rfl : args = #[v0, v1] := by cases args; simp_all
  obtain ⟨rfl, rfl⟩ := trodVars_none hV
  obtain ⟨a0, rfl, ha0, hbk0⟩ := open_argB h0
  obtain ⟨n1, rfl, hn1⟩ := open_num (hval 1 3 v1 (by rw [Tryz.params7]; rfl) rfl) h1
  obtain ⟨hg, h6, hT⟩ := of_laid7 hL
  clear hA0
  have hlt : ∀ x ∈ p0 ++ (p1 ++ []) ++ [], x.block < W.heap.size := fun x hx => by simpa using hW'.lt x hx
  refine (Y.lback_any a0 W n1 hn1 ha0 hT hg h6 (fun W1 hb => Y.sane_any W1 (hg.below hb h6) (Nat.le_trans h6 hb.size) (hT.next hb))).mono fun e W' ⟨he, hB⟩ => ?_
  subst he
  refine ⟨_, rfl, _, _, _, [], p0 ++ (p1 ++ []), [], hW', ?_, ?_, ?_, hB.frame _, fun h => by cases h⟩
  · exact trodAll_mk1 (shut_bool Tryz.underlying4 _)
  · exact (trodAll_cons_mk (again_arg h0 hB fun x hx => hlt x (by simp [hx])) (trodAll_cons_mk (again_num h1 hB fun x hx => hlt x (by simp [hx])) trodAll_mk0))
  · rfl

abbrev zeroForm : Value := .agg #[.int .i64 0, .int .i64 0, .string ⟨#[]⟩, .slice none 0 0]
theorem reads (os : Os) {H : Type} (enc : TypeId × Value → H) : ∃ ds places, DataW.whole enc Tryz.prog ((World.laidAll Tryz.prog os laid7).forCall (fun _ _ => 0) ⟨#[], #[zeroForm, .int .i64 0], []⟩).memory Tryz.f7.params.toList Rows.layoutBackSpec.vars false #[zeroForm, .int .i64 0].toList 8 = some (ds, [], places) :=
  ⟨[.agg [.lit (.int .i64 0), .lit (.int .i64 0), .lit (.string []), .nil], .lit (.int .i64 0)], [], by kernel_rfl⟩

set_option maxRecDepth 100000 in
theorem lifted (os : Os) (started : os.Started) (H : Type) (enc : TypeId × Value → H) (F : Stop.Interp) :
    ReturnsInHanded {} Tryz.checked os 7 .any ((OpenSpec.ofChange Rows.layoutBackSpec).preRow enc Tryz.prog Tryz.f7 Rows.layoutBackRow.domain false Rows.layoutBackRow.laid) (((OpenSpec.ofChange Rows.layoutBackSpec).at F).post enc Tryz.prog Tryz.f7 false true false false) := by
  obtain ⟨ds, places, hx⟩ := reads os enc
  refine returnsInHanded_of_row (C := Tryz.checked) (s := OpenSpec.ofChange Rows.layoutBackSpec) own started (by kernel_rfl) Tryz.func7
    (witness7 (enc := enc) (C := Tryz.checked) false (World.laidAll Tryz.prog os laid7) #[zeroForm, .int .i64 0] (World.laidAll_os _ _ _) (all_shaped7 os _) (by kernel_rfl)
      (OpenSpec.preRow_of_cond 8 hx (by kernel_rfl) (fun k hk => by cases hk) (by kernel_rfl) (all_met7 os _))) ?_
  intro W base args ds gs before hval hW _ _ _ hL _ _
  exact contract H enc W base args ds gs before hval hW hL

theorem said : Rows.LayoutBackSaid :=
  OpenClaim.holds_of_cond 7 Tryz.f7 rfl rfl rfl rfl rfl rfl rfl ⟨rfl, rfl, rfl, rfl, rfl⟩ rfl rfl rfl rfl rfl (by kernel_rfl) Tryz.func7 (by kernel_rfl)
    (of_decide_eq_true (by kernel_rfl)) (by unfold Func.isWrapper; first | (rw [if_pos (by decide +kernel)]; kernel_rfl) | (rw [if_neg (by decide +kernel)]; exact ⟨rfl, rfl⟩))
    (fun os started H enc _ F => by rw [OpenClaim.pre_eq_preRow]; exact lifted os started H enc F)

/-- No parameter wants a stand-in. -/
theorem plain (f : FuncId) (fn : Func) (hf : Tryz.pinned.checked.prog.funcNamed "plinth/plinthlaw02.LayoutBack" = some f) (hfn : Tryz.pinned.checked.prog.funcs[f]? = some fn) :
    true = Tryz.pinned.checked.prog.looks [] ∧ ∀ (j : Nat) t, fn.params[j]? = some t → Tryz.pinned.checked.prog.wantsStandIn t = false := by
  obtain rfl : f = 7 := Option.some.inj ((show Tryz.prog.funcNamed "plinth/plinthlaw02.LayoutBack" = some 7 by kernel_rfl).symm.trans hf) |>.symm
  obtain rfl : fn = Tryz.f7 := (Option.some.inj (Tryz.func7.symm.trans hfn)).symm
  refine ⟨by kernel_rfl, fun j t ht => ?_⟩
  rw [Tryz.params7] at ht
  have hm := Array.mem_of_getElem? ht
  simp at hm
  rcases hm with rfl | rfl
  · exact (show Tryz.prog.wantsStandIn 29 = false by kernel_rfl)
  · exact (show Tryz.prog.wantsStandIn 3 = false by kernel_rfl)

theorem card : Rows.LayoutBackCardSaid :=
  Claim7.holds_tied_plain_at .later [] _ _ _ _ said (fun _ h => by cases h) (by kernel_rfl) (fun _ h => by cases h) layoutBack_row_tie rfl ⟨rfl, rfl⟩ (by kernel_rfl) rfl plain (by kernel_rfl)
end Go.Proofs.YtdehkgflokeodaaGreatDoor.layoutBack
