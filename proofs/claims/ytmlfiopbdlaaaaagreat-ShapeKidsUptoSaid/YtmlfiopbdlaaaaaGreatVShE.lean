/- The row of any expression. (Made by genass.py.) -/
import Derived.Test.YtmlfiopbdlaaaaaGreatShF
import Derived.Test.YtmlfiopbdlaaaaaGreatShR1
import Derived.Test.YtmlfiopbdlaaaaaGreatVShR2
import Derived.Test.YtmlfiopbdlaaaaaGreatVShR3
import Derived.Test.YtmlfiopbdlaaaaaGreatJ4
import Derived.Test.YtmlfiopbdlaaaaaGreatShR6
import Derived.Test.YtmlfiopbdlaaaaaGreatShB1
import Derived.Test.YtmlfiopbdlaaaaaGreatVShB4
import Derived.Test.YtmlfiopbdlaaaaaGreatShU6
namespace Go.Proofs.YtmlfiopbdlaaaaaGreat
open Go.RowKit Go.Deep
variable {S : Nat → Prop}
theorem binderRow_any (n : Nat) (t : T) (w : World) (E : Fm → Bool) (hS : ∀ b, S b → b < w.heap.size) (hE : HAsk n E) (hin : In w t) : Calls Tryz.prog 99 #[t.val] w (fun e w' => RowOr n S w w' (bindR E t.form) e) := by
  have hh : ∀ W, Below w.heap.size w W → Calls Tryz.prog 50 #[t.val] W fun e w' => e = .returned (.string (headF t.form)) ∧ Below W.heap.size W w' := fun W h => head_any t W (hin.below h)
  cases h1 : hdIn t.form [[108, 101, 116], [101, 118, 101, 114, 121], [97, 110, 121]] with
  | true =>
    have e : bindR E t.form = some ⟨[bindP [exprP E], exprP E], none, []⟩ := by
      unfold bindR
      rw [if_pos h1]
    rw [e]
    rcases hdIn_yes h1 with q | h1
    · exact bind_let n t (headF t.form) w E hS hE hh q
    rcases hdIn_yes h1 with q | h1
    · exact bind_every n t (headF t.form) w E hS hE hh q
    rcases hdIn_yes h1 with q | h1
    · exact bind_any n t (headF t.form) w E hS hE hh q
    exact (hdIn_nil h1).elim
  | false =>
  obtain ⟨g0, k1⟩ := hdIn_no h1
  obtain ⟨g1, k1⟩ := hdIn_no k1
  obtain ⟨g2, k1⟩ := hdIn_no k1
  cases h2 : hdIn t.form [[97, 108, 108], [115, 111, 109, 101]] with
  | true =>
    have e : bindR E t.form = some ⟨[bindP [exprP E, exprP E], exprP E], none, []⟩ := by
      unfold bindR
      rw [if_neg (by rw [h1]; simp), if_pos h2]
    rw [e]
    rcases hdIn_yes h2 with q | h2
    · exact bind_all n t (headF t.form) w E hS hE hh q
    rcases hdIn_yes h2 with q | h2
    · exact bind_some n t (headF t.form) w E hS hE hh q
    exact (hdIn_nil h2).elim
  | false =>
  obtain ⟨g3, k2⟩ := hdIn_no h2
  obtain ⟨g4, k2⟩ := hdIn_no k2
  cases h3 : hdIn t.form [[112, 105, 99, 107]] with
  | true =>
    have e : bindR E t.form = some ⟨[bindP [exprP E, exprP E], exprP E, exprP E], none, []⟩ := by
      unfold bindR
      rw [if_neg (by rw [h1]; simp), if_neg (by rw [h2]; simp), if_pos h3]
    rw [e]
    rcases hdIn_yes h3 with q | h3
    · exact bind_pick n t (headF t.form) w E hS hE hh q
    exact (hdIn_nil h3).elim
  | false =>
  obtain ⟨g5, h3'⟩ := hdIn_no h3
  clear h3'
  cases h4 : hdIn t.form [[109, 97, 116, 99, 104]] with
  | true =>
    have e : bindR E t.form = some ⟨[exprP E, listP ⟨[nameP, namesP, exprP E], none, []⟩ (fun _ => true)], some (listP ⟨[nameP, namesP, exprP E], none, []⟩ (fun _ => true)), []⟩ := by
      unfold bindR
      rw [if_neg (by rw [h1]; simp), if_neg (by rw [h2]; simp), if_neg (by rw [h3]; simp), if_pos h4]
    rw [e]
    rcases hdIn_yes h4 with q | h4
    · exact bind_match n t (headF t.form) w E hS hE hh q
    exact (hdIn_nil h4).elim
  | false =>
  obtain ⟨g6, h4'⟩ := hdIn_no h4
  clear h4'
  cases h5 : hdIn t.form [[102, 110]] with
  | true =>
    have e : bindR E t.form = some ⟨[paramsP, exprP E], none, []⟩ := by
      unfold bindR
      rw [if_neg (by rw [h1]; simp), if_neg (by rw [h2]; simp), if_neg (by rw [h3]; simp), if_neg (by rw [h4]; simp), if_pos h5]
    rw [e]
    rcases hdIn_yes h5 with q | h5
    · exact bind_fn n t (headF t.form) w E hS hE hh q
    exact (hdIn_nil h5).elim
  | false =>
  obtain ⟨g7, h5'⟩ := hdIn_no h5
  clear h5'
  cases h6 : hdIn t.form [[102, 111, 114, 97, 108, 108], [101, 120, 105, 115, 116, 115]] with
  | true =>
    have e : bindR E t.form = some ⟨[(listP ⟨[typedP], some typedP, []⟩ differB)], some (behindP trigW ⟨[exprP E], some (exprP E), []⟩), [exprP E]⟩ := by
      unfold bindR
      rw [if_neg (by rw [h1]; simp), if_neg (by rw [h2]; simp), if_neg (by rw [h3]; simp), if_neg (by rw [h4]; simp), if_neg (by rw [h5]; simp), if_pos h6]
    rw [e]
    rcases hdIn_yes h6 with q | h6
    · exact bind_quant n t (headF t.form) w E hS hE hh (.inl q)
    rcases hdIn_yes h6 with q | h6
    · exact bind_quant n t (headF t.form) w E hS hE hh (.inr q)
    exact (hdIn_nil h6).elim
  | false =>
  obtain ⟨g8, k6⟩ := hdIn_no h6
  obtain ⟨g9, k6⟩ := hdIn_no k6
  have e : bindR E t.form = none := by
    unfold bindR
    rw [if_neg (by rw [h1]; simp), if_neg (by rw [h2]; simp), if_neg (by rw [h3]; simp), if_neg (by rw [h4]; simp), if_neg (by rw [h5]; simp), if_neg (by rw [h6]; simp)]
  rw [e]
  exact bind_none n t (headF t.form) w E hS hE hh g0 g1 g2 g3 g4 g5 g6 g7 g8 g9
theorem old_any (n : Nat) (t : T) (hd : ByteArray) (w : World) (E : Fm → Bool) (hS : ∀ b, S b → b < w.heap.size) (hE : HAsk n E) (hh : ∀ W, Below w.heap.size w W → Calls Tryz.prog 50 #[t.val] W fun e w' => e = .returned (.string hd) ∧ Below W.heap.size W w') (hin : In w t) (hq : hd.toList = [111, 108, 100]) : Calls Tryz.prog 58 #[t.val] w (fun e w' => RowEnd n S w w' (if 2 < t.form.ks.length then ⟨[nameP, exprP E], none, []⟩ else ⟨[exprP E], none, []⟩) e) := by
  have hk : t.form.ks.length = t.ks.length := by rw [T.form_ks, List.length_map]
  rw [hk]
  by_cases h : 2 < t.ks.length
  · rw [if_pos h]; exact row_old2 n t hd w E hS hE hh hin h hq
  · rw [if_neg h]; exact row_old1 n t hd w E hS hE hh hin h hq
theorem exprRow_any (n : Nat) (t : T) (w : World) (E : Fm → Bool) (hS : ∀ b, S b → b < w.heap.size) (hE : HAsk n E) (hin : In w t) : Calls Tryz.prog 58 #[t.val] w (fun e w' => RowOr n S w w' (exprR E t.form) e) := by
  have hh : ∀ W, Below w.heap.size w W → Calls Tryz.prog 50 #[t.val] W fun e w' => e = .returned (.string (headF t.form)) ∧ Below W.heap.size W w' := fun W h => head_any t W (hin.below h)
  cases h1 : hdIn t.form [[110, 101, 103], [110, 111, 116], [98, 110, 117, 109], [108, 101, 110], [99, 97, 114, 100], [107, 101, 121, 115], [102, 114, 101, 115, 104]] with
  | true =>
    have e : exprR E t.form = some ⟨[exprP E], none, []⟩ := by
      unfold exprR
      rw [if_pos h1]
    rw [e]
    rcases hdIn_yes h1 with q | h1
    · exact row_neg n t (headF t.form) w E hS hE hh q
    rcases hdIn_yes h1 with q | h1
    · exact row_not n t (headF t.form) w E hS hE hh q
    rcases hdIn_yes h1 with q | h1
    · exact row_bnum n t (headF t.form) w E hS hE hh q
    rcases hdIn_yes h1 with q | h1
    · exact row_len n t (headF t.form) w E hS hE hh q
    rcases hdIn_yes h1 with q | h1
    · exact row_card n t (headF t.form) w E hS hE hh q
    rcases hdIn_yes h1 with q | h1
    · exact row_keys n t (headF t.form) w E hS hE hh q
    rcases hdIn_yes h1 with q | h1
    · exact row_fresh n t (headF t.form) w E hS hE hh q
    exact (hdIn_nil h1).elim
  | false =>
  obtain ⟨g0, k1⟩ := hdIn_no h1
  obtain ⟨g1, k1⟩ := hdIn_no k1
  obtain ⟨g2, k1⟩ := hdIn_no k1
  obtain ⟨g3, k1⟩ := hdIn_no k1
  obtain ⟨g4, k1⟩ := hdIn_no k1
  obtain ⟨g5, k1⟩ := hdIn_no k1
  obtain ⟨g6, k1⟩ := hdIn_no k1
  cases h2 : hdIn t.form [[43], [45], [42], [100, 105, 118], [109, 111, 100], [60], [60, 61], [61], [61, 62], [105, 102, 102], [98, 97, 110, 100], [98, 111, 114], [98, 120, 111, 114], [98, 97, 100, 100], [97, 116], [99, 97, 116], [105, 110], [106, 111, 105, 110], [109, 101, 101, 116], [108, 101, 115, 115], [99, 111, 117, 110, 116], [108, 111, 111, 107]] with
  | true =>
    have e : exprR E t.form = some ⟨[exprP E, exprP E], none, []⟩ := by
      unfold exprR
      rw [if_neg (by rw [h1]; simp), if_pos h2]
    rw [e]
    rcases hdIn_yes h2 with q | h2
    · exact row_add n t (headF t.form) w E hS hE hh q
    rcases hdIn_yes h2 with q | h2
    · exact row_sub n t (headF t.form) w E hS hE hh q
    rcases hdIn_yes h2 with q | h2
    · exact row_mul n t (headF t.form) w E hS hE hh q
    rcases hdIn_yes h2 with q | h2
    · exact row_div n t (headF t.form) w E hS hE hh q
    rcases hdIn_yes h2 with q | h2
    · exact row_mod n t (headF t.form) w E hS hE hh q
    rcases hdIn_yes h2 with q | h2
    · exact row_lt n t (headF t.form) w E hS hE hh q
    rcases hdIn_yes h2 with q | h2
    · exact row_le n t (headF t.form) w E hS hE hh q
    rcases hdIn_yes h2 with q | h2
    · exact row_eq n t (headF t.form) w E hS hE hh q
    rcases hdIn_yes h2 with q | h2
    · exact row_imp n t (headF t.form) w E hS hE hh q
    rcases hdIn_yes h2 with q | h2
    · exact row_iff n t (headF t.form) w E hS hE hh q
    rcases hdIn_yes h2 with q | h2
    · exact row_band n t (headF t.form) w E hS hE hh q
    rcases hdIn_yes h2 with q | h2
    · exact row_bor n t (headF t.form) w E hS hE hh q
    rcases hdIn_yes h2 with q | h2
    · exact row_bxor n t (headF t.form) w E hS hE hh q
    rcases hdIn_yes h2 with q | h2
    · exact row_badd n t (headF t.form) w E hS hE hh q
    rcases hdIn_yes h2 with q | h2
    · exact row_at n t (headF t.form) w E hS hE hh q
    rcases hdIn_yes h2 with q | h2
    · exact row_cat n t (headF t.form) w E hS hE hh q
    rcases hdIn_yes h2 with q | h2
    · exact row_in n t (headF t.form) w E hS hE hh q
    rcases hdIn_yes h2 with q | h2
    · exact row_join n t (headF t.form) w E hS hE hh q
    rcases hdIn_yes h2 with q | h2
    · exact row_meet n t (headF t.form) w E hS hE hh q
    rcases hdIn_yes h2 with q | h2
    · exact row_less n t (headF t.form) w E hS hE hh q
    rcases hdIn_yes h2 with q | h2
    · exact row_count n t (headF t.form) w E hS hE hh q
    rcases hdIn_yes h2 with q | h2
    · exact row_look n t (headF t.form) w E hS hE hh q
    exact (hdIn_nil h2).elim
  | false =>
  obtain ⟨g7, k2⟩ := hdIn_no h2
  obtain ⟨g8, k2⟩ := hdIn_no k2
  obtain ⟨g9, k2⟩ := hdIn_no k2
  obtain ⟨g10, k2⟩ := hdIn_no k2
  obtain ⟨g11, k2⟩ := hdIn_no k2
  obtain ⟨g12, k2⟩ := hdIn_no k2
  obtain ⟨g13, k2⟩ := hdIn_no k2
  obtain ⟨g14, k2⟩ := hdIn_no k2
  obtain ⟨g15, k2⟩ := hdIn_no k2
  obtain ⟨g16, k2⟩ := hdIn_no k2
  obtain ⟨g17, k2⟩ := hdIn_no k2
  obtain ⟨g18, k2⟩ := hdIn_no k2
  obtain ⟨g19, k2⟩ := hdIn_no k2
  obtain ⟨g20, k2⟩ := hdIn_no k2
  obtain ⟨g21, k2⟩ := hdIn_no k2
  obtain ⟨g22, k2⟩ := hdIn_no k2
  obtain ⟨g23, k2⟩ := hdIn_no k2
  obtain ⟨g24, k2⟩ := hdIn_no k2
  obtain ⟨g25, k2⟩ := hdIn_no k2
  obtain ⟨g26, k2⟩ := hdIn_no k2
  obtain ⟨g27, k2⟩ := hdIn_no k2
  obtain ⟨g28, k2⟩ := hdIn_no k2
  cases h3 : hdIn t.form [[105, 102], [99, 117, 116], [112, 117, 116]] with
  | true =>
    have e : exprR E t.form = some ⟨[exprP E, exprP E, exprP E], none, []⟩ := by
      unfold exprR
      rw [if_neg (by rw [h1]; simp), if_neg (by rw [h2]; simp), if_pos h3]
    rw [e]
    rcases hdIn_yes h3 with q | h3
    · exact row_if n t (headF t.form) w E hS hE hh q
    rcases hdIn_yes h3 with q | h3
    · exact row_cut n t (headF t.form) w E hS hE hh q
    rcases hdIn_yes h3 with q | h3
    · exact row_put n t (headF t.form) w E hS hE hh q
    exact (hdIn_nil h3).elim
  | false =>
  obtain ⟨g29, k3⟩ := hdIn_no h3
  obtain ⟨g30, k3⟩ := hdIn_no k3
  obtain ⟨g31, k3⟩ := hdIn_no k3
  cases h4 : hdIn t.form [[97, 110, 100], [111, 114], [115, 101, 113], [115, 101, 116], [98, 97, 103]] with
  | true =>
    have e : exprR E t.form = some ⟨[], some (exprP E), []⟩ := by
      unfold exprR
      rw [if_neg (by rw [h1]; simp), if_neg (by rw [h2]; simp), if_neg (by rw [h3]; simp), if_pos h4]
    rw [e]
    rcases hdIn_yes h4 with q | h4
    · exact row_and n t (headF t.form) w E hS hE hh q
    rcases hdIn_yes h4 with q | h4
    · exact row_or n t (headF t.form) w E hS hE hh q
    rcases hdIn_yes h4 with q | h4
    · exact row_seq n t (headF t.form) w E hS hE hh q
    rcases hdIn_yes h4 with q | h4
    · exact row_set n t (headF t.form) w E hS hE hh q
    rcases hdIn_yes h4 with q | h4
    · exact row_bag n t (headF t.form) w E hS hE hh q
    exact (hdIn_nil h4).elim
  | false =>
  obtain ⟨g32, k4⟩ := hdIn_no h4
  obtain ⟨g33, k4⟩ := hdIn_no k4
  obtain ⟨g34, k4⟩ := hdIn_no k4
  obtain ⟨g35, k4⟩ := hdIn_no k4
  obtain ⟨g36, k4⟩ := hdIn_no k4
  cases h5 : hdIn t.form [[109, 97, 112]] with
  | true =>
    have e : exprR E t.form = some ⟨[], some (listP ⟨[exprP E, exprP E], none, []⟩ (fun _ => true)), []⟩ := by
      unfold exprR
      rw [if_neg (by rw [h1]; simp), if_neg (by rw [h2]; simp), if_neg (by rw [h3]; simp), if_neg (by rw [h4]; simp), if_pos h5]
    rw [e]
    rcases hdIn_yes h5 with q | h5
    · exact row_map n t (headF t.form) w E hS hE hh q
    exact (hdIn_nil h5).elim
  | false =>
  obtain ⟨g37, h5'⟩ := hdIn_no h5
  clear h5'
  cases h6 : hdIn t.form [[98, 105, 116, 115]] with
  | true =>
    have e : exprR E t.form = some ⟨[numP 1 16, numP 0 1152921504606846976], none, []⟩ := by
      unfold exprR
      rw [if_neg (by rw [h1]; simp), if_neg (by rw [h2]; simp), if_neg (by rw [h3]; simp), if_neg (by rw [h4]; simp), if_neg (by rw [h5]; simp), if_pos h6]
    rw [e]
    rcases hdIn_yes h6 with q | h6
    · exact row_bits n t (headF t.form) w E hS hE hh q
    exact (hdIn_nil h6).elim
  | false =>
  obtain ⟨g38, h6'⟩ := hdIn_no h6
  clear h6'
  cases h7 : hdIn t.form [[101, 109, 112, 116, 121]] with
  | true =>
    have e : exprR E t.form = some ⟨[typeP], none, []⟩ := by
      unfold exprR
      rw [if_neg (by rw [h1]; simp), if_neg (by rw [h2]; simp), if_neg (by rw [h3]; simp), if_neg (by rw [h4]; simp), if_neg (by rw [h5]; simp), if_neg (by rw [h6]; simp), if_pos h7]
    rw [e]
    rcases hdIn_yes h7 with q | h7
    · exact row_empty n t (headF t.form) w E hS hE hh q
    exact (hdIn_nil h7).elim
  | false =>
  obtain ⟨g39, h7'⟩ := hdIn_no h7
  clear h7'
  cases h8 : hdIn t.form [[105, 109, 97, 112]] with
  | true =>
    have e : exprR E t.form = some ⟨[exprP E, typeP], none, []⟩ := by
      unfold exprR
      rw [if_neg (by rw [h1]; simp), if_neg (by rw [h2]; simp), if_neg (by rw [h3]; simp), if_neg (by rw [h4]; simp), if_neg (by rw [h5]; simp), if_neg (by rw [h6]; simp), if_neg (by rw [h7]; simp), if_pos h8]
    rw [e]
    rcases hdIn_yes h8 with q | h8
    · exact row_imap n t (headF t.form) w E hS hE hh q
    exact (hdIn_nil h8).elim
  | false =>
  obtain ⟨g40, h8'⟩ := hdIn_no h8
  clear h8'
  cases h9 : hdIn t.form [[97, 112, 112]] with
  | true =>
    have e : exprR E t.form = some ⟨[exprP E], some (exprP E), []⟩ := by
      unfold exprR
      rw [if_neg (by rw [h1]; simp), if_neg (by rw [h2]; simp), if_neg (by rw [h3]; simp), if_neg (by rw [h4]; simp), if_neg (by rw [h5]; simp), if_neg (by rw [h6]; simp), if_neg (by rw [h7]; simp), if_neg (by rw [h8]; simp), if_pos h9]
    rw [e]
    rcases hdIn_yes h9 with q | h9
    · exact row_app n t (headF t.form) w E hS hE hh q
    exact (hdIn_nil h9).elim
  | false =>
  obtain ⟨g41, h9'⟩ := hdIn_no h9
  clear h9'
  cases h10 : hdIn t.form [[105, 115], [103, 101, 116]] with
  | true =>
    have e : exprR E t.form = some ⟨[nameP, exprP E], none, []⟩ := by
      unfold exprR
      rw [if_neg (by rw [h1]; simp), if_neg (by rw [h2]; simp), if_neg (by rw [h3]; simp), if_neg (by rw [h4]; simp), if_neg (by rw [h5]; simp), if_neg (by rw [h6]; simp), if_neg (by rw [h7]; simp), if_neg (by rw [h8]; simp), if_neg (by rw [h9]; simp), if_pos h10]
    rw [e]
    rcases hdIn_yes h10 with q | h10
    · exact row_is n t (headF t.form) w E hS hE hh q
    rcases hdIn_yes h10 with q | h10
    · exact row_get n t (headF t.form) w E hS hE hh q
    exact (hdIn_nil h10).elim
  | false =>
  obtain ⟨g42, k10⟩ := hdIn_no h10
  obtain ⟨g43, k10⟩ := hdIn_no k10
  cases h11 : hdIn t.form [[99, 97, 108, 108], [109, 97, 107, 101]] with
  | true =>
    have e : exprR E t.form = some (callR E t.form) := by
      unfold exprR
      rw [if_neg (by rw [h1]; simp), if_neg (by rw [h2]; simp), if_neg (by rw [h3]; simp), if_neg (by rw [h4]; simp), if_neg (by rw [h5]; simp), if_neg (by rw [h6]; simp), if_neg (by rw [h7]; simp), if_neg (by rw [h8]; simp), if_neg (by rw [h9]; simp), if_neg (by rw [h10]; simp), if_pos h11]
    rw [e]
    rcases hdIn_yes h11 with q | h11
    · exact row_call n t (headF t.form) w E hS hE hh hin q
    rcases hdIn_yes h11 with q | h11
    · exact row_make n t (headF t.form) w E hS hE hh hin q
    exact (hdIn_nil h11).elim
  | false =>
  obtain ⟨g44, k11⟩ := hdIn_no h11
  obtain ⟨g45, k11⟩ := hdIn_no k11
  cases h12 : hdIn t.form [[112, 114, 101, 102, 105, 120]] with
  | true =>
    have e : exprR E t.form = some ⟨[nameP, exprP E], some (exprP E), []⟩ := by
      unfold exprR
      rw [if_neg (by rw [h1]; simp), if_neg (by rw [h2]; simp), if_neg (by rw [h3]; simp), if_neg (by rw [h4]; simp), if_neg (by rw [h5]; simp), if_neg (by rw [h6]; simp), if_neg (by rw [h7]; simp), if_neg (by rw [h8]; simp), if_neg (by rw [h9]; simp), if_neg (by rw [h10]; simp), if_neg (by rw [h11]; simp), if_pos h12]
    rw [e]
    rcases hdIn_yes h12 with q | h12
    · exact row_prefix n t (headF t.form) w E hS hE hh q
    exact (hdIn_nil h12).elim
  | false =>
  obtain ⟨g46, h12'⟩ := hdIn_no h12
  clear h12'
  cases h13 : hdIn t.form [[102, 117, 101, 108]] with
  | true =>
    have e : exprR E t.form = some ⟨[numP 0 9, nameP, exprP E], none, []⟩ := by
      unfold exprR
      rw [if_neg (by rw [h1]; simp), if_neg (by rw [h2]; simp), if_neg (by rw [h3]; simp), if_neg (by rw [h4]; simp), if_neg (by rw [h5]; simp), if_neg (by rw [h6]; simp), if_neg (by rw [h7]; simp), if_neg (by rw [h8]; simp), if_neg (by rw [h9]; simp), if_neg (by rw [h10]; simp), if_neg (by rw [h11]; simp), if_neg (by rw [h12]; simp), if_pos h13]
    rw [e]
    rcases hdIn_yes h13 with q | h13
    · exact row_fuel n t (headF t.form) w E hS hE hh q
    exact (hdIn_nil h13).elim
  | false =>
  obtain ⟨g47, h13'⟩ := hdIn_no h13
  clear h13'
  cases h14 : hdIn t.form [[111, 108, 100]] with
  | true =>
    have e : exprR E t.form = some (if 2 < t.form.ks.length then ⟨[nameP, exprP E], none, []⟩ else ⟨[exprP E], none, []⟩) := by
      unfold exprR
      rw [if_neg (by rw [h1]; simp), if_neg (by rw [h2]; simp), if_neg (by rw [h3]; simp), if_neg (by rw [h4]; simp), if_neg (by rw [h5]; simp), if_neg (by rw [h6]; simp), if_neg (by rw [h7]; simp), if_neg (by rw [h8]; simp), if_neg (by rw [h9]; simp), if_neg (by rw [h10]; simp), if_neg (by rw [h11]; simp), if_neg (by rw [h12]; simp), if_neg (by rw [h13]; simp), if_pos h14]
    rw [e]
    rcases hdIn_yes h14 with q | h14
    · exact old_any n t (headF t.form) w E hS hE hh hin q
    exact (hdIn_nil h14).elim
  | false =>
  obtain ⟨g48, h14'⟩ := hdIn_no h14
  clear h14'
  have e : exprR E t.form = bindR E t.form := by
    unfold exprR
    rw [if_neg (by rw [h1]; simp), if_neg (by rw [h2]; simp), if_neg (by rw [h3]; simp), if_neg (by rw [h4]; simp), if_neg (by rw [h5]; simp), if_neg (by rw [h6]; simp), if_neg (by rw [h7]; simp), if_neg (by rw [h8]; simp), if_neg (by rw [h9]; simp), if_neg (by rw [h10]; simp), if_neg (by rw [h11]; simp), if_neg (by rw [h12]; simp), if_neg (by rw [h13]; simp), if_neg (by rw [h14]; simp)]
  rw [e]
  have hb : ∀ S W, Below w.heap.size w W → (∀ b, S b → b < W.heap.size) → Calls Tryz.prog 99 #[t.val] W (fun e w' => RowOr n S W w' (bindR E t.form) e) := fun S W h hs => binderRow_any (S := S) n t W E hs hE (hin.below h)
  cases hr : bindR E t.form with
  | some R => rw [hr] at hb; exact row_bind1 n t (headF t.form) w E hS hE hh R hb g0 g1 g2 g3 g4 g5 g6 g7 g8 g9 g10 g11 g12 g13 g14 g15 g16 g17 g18 g19 g20 g21 g22 g23 g24 g25 g26 g27 g28 g29 g30 g31 g32 g33 g34 g35 g36 g37 g38 g39 g40 g41 g42 g43 g44 g45 g46 g47 g48
  | none => rw [hr] at hb; exact row_bind0 n t (headF t.form) w E hS hE hh hb g0 g1 g2 g3 g4 g5 g6 g7 g8 g9 g10 g11 g12 g13 g14 g15 g16 g17 g18 g19 g20 g21 g22 g23 g24 g25 g26 g27 g28 g29 g30 g31 g32 g33 g34 g35 g36 g37 g38 g39 g40 g41 g42 g43 g44 g45 g46 g47 g48
end Go.Proofs.YtmlfiopbdlaaaaaGreat
