/- reader.appendForm: a form as it is written. -/
import Derived.Test.YtedabholcldgbaaGreatDoorAppText
import Derived.Test.YtedabholcldgbaaGreatDoorBlk
namespace Go.Proofs.YtedabholcldgbaaGreatDoor
open Go.RowKit Go.Deep

theorem byteCells_eq (l : List UInt8) : Lib.byteCells l = bytesV l := rfl
/-- The library's table, however the call goes on. -/
abbrev Tab (B : Nat) (w : World) : Prop := Lib.TabBelow Tryz.prog B w "internal/strconv.uint64pow10" .u64 Lib.pow10Tab
theorem appendInt_any (B : Nat) (n : Int) (h : I64 n) (v : Value) (l : List UInt8) (hl : l.length ≤ 1000000000) (w : World) (hb : Buf B w w v l) (ht : Tab B w) :
    Calls Tryz.prog 60 #[v, .int .i64 n, .int .i64 10] w fun e w' => BufEnd B w w' (l ++ Lib.itoa n) e :=
  (Tryz.strconv_AppendInt_10 B l.length n h.1 h.2 v (bytesV l) w hb.own hb.le (by omega) ht).mono fun e w' ⟨v', he, ho, hB, hK⟩ => ⟨v', he, by
    refine ⟨?_, hB, hK, Nat.le_trans hb.le hB.size⟩
    rw [List.length_append, bytesV_append]
    exact ho⟩
theorem In.low {B : Nat} {w w' : World} {t : T} (h : In w t) (hl : ∀ b, On t b → b < B) (hb : Below B w w') : In w' t := h.same _ (Nat.lt_succ_self _) fun b ho => hb.block b (hl b ho)
theorem box_kept {B : Nat} {w w1 : World} {t : T} {v : Value} {l : List UInt8} (h : Buf B (w.alloc (.cells #[.int .i64 t.kd, .int .i64 t.nn, .string t.tx, .slice t.ad t.ks.length t.cp] 29)) w1 v l) : Box4 w1 w.heap.size t :=
  h.kept _ _ (heap_alloc_new w _) (by simp) (by intro c fz e; injection e with _ e _; exact absurd e (by decide))
/-- The bytes ahead of Kid k. -/
def upTo (l : List UInt8) (ks : List T) (k : Nat) : List UInt8 := l ++ 40 :: joinB ((ks.take k).map fun t => txF t.form)
theorem upTo_next (l : List UInt8) (ks : List T) (k : Nat) (h : k < ks.length) : upTo l ks (k + 1) = upTo l ks k ++ ((if k = 0 then [] else [32]) ++ txF ks[k].form) := by
  unfold upTo
  rw [List.take_succ_eq_append_getElem h, List.map_append]
  simp only [List.map_cons, List.map_nil]
  rw [joinB_snoc, List.length_map, List.length_take, Nat.min_eq_left (by omega)]
  simp
theorem upTo_done (l : List UInt8) (t : T) (k : Nat) (h : t.ks.length ≤ k) (h0 : t.kd ≠ 0) (h1 : t.kd ≠ 1) (h2 : t.kd ≠ 2) : upTo l t.ks k ++ [41] = l ++ txF t.form := by
  unfold upTo
  rw [List.take_of_length_le h, txF_eq, T.form_kd, T.form_ks, if_neg h0, if_neg h1, if_neg h2, List.map_map]
  simp [Function.comp_def]
theorem joinB_take (ks : List T) (k : Nat) (hf : ∀ t ∈ ks, fieldsF t.form = true) : (joinB ((ks.take k).map fun t => txF t.form)).length ≤ 4010 * szL ((ks.take k).map T.form) := by
  have := joinB_len ((ks.take k).map T.form) fun f hm => by
    obtain ⟨t, ht, rfl⟩ := List.mem_map.1 hm
    exact txF_len (hf t (List.mem_of_mem_take ht))
  rw [List.map_map] at this
  simp only [Function.comp_def] at this
  omega
theorem szL_take_le : ∀ (l : List Fm) (k : Nat) (h : k < l.length), szL (l.take k) + szF l[k] ≤ szL l
  | f :: fs, 0, _ => by simp [szL]
  | f :: fs, k + 1, h => by
    have := szL_take_le fs k (by simpa using h)
    simp only [List.take_succ_cons, szL, List.getElem_cons_succ]
    omega
theorem szL_takes (l : List Fm) (k : Nat) : szL (l.take k) ≤ szL l := by
  induction l generalizing k with
  | nil => simp [szL]
  | cons f fs ih => cases k with
    | zero => simp [szL]
    | succ k => have := ih k; simp only [List.take_succ_cons, szL]; omega

set_option maxHeartbeats 4000000 in
set_option maxRecDepth 100000 in
theorem appendForm_any (B : Nat) (n : Nat) : ∀ t : T, SizeOf.sizeOf t < n → ∀ (v : Value) (l : List UInt8) (w : World), In w t → (∀ b, On t b → b < B) → Buf B w w v l → Tab B w → fieldsF t.form = true → l.length + 4010 * szF t.form ≤ 1000000000 →
    Calls Tryz.prog 31 #[v, t.val] w fun e w' => BufEnd B w w' (l ++ txF t.form) e := by
  induction n with
  | zero => intro t h; omega
  | succ n ih =>
    intro t hn v l w hin hon hb htab hf hlen
    have HB := Lib.hid hb
    have HF := Lib.hid hf
    have HT := Lib.hid htab
    rw [fieldsF_eq, Bool.and_eq_true] at hf
    have hal := alone_cases hf.1
    have hle := hb.le
    have hpos : 1 ≤ szF t.form := by rw [szF_eq]; omega
    rw [txF_eq]
    simp only [T.form_kd, T.form_nn, T.form_tx] at hal ⊢
    by_cases k0 : t.kd = 0
    · rw [if_pos k0]
      have b0 : (t.kd == 0) = true := by simpa using k0
      have HA := Lib.hid fun (W : World) (h : Buf B W W v l) (h2 : Tab B W) => appendInt_any B t.nn hin.ok.nn v l (by omega) W h h2
      clear hal ih k0 hf hb htab
      go_enter Tryz.func31, Tryz.ntmps31
      go_wp2_with (go_at_call 60; refine (HA.out _ ((HB.out.alloc _).back) (HT.out.on ((Below.refl _ _).alloc hle _))).mono ?_; rintro e w2 ⟨v2, rfl, hb2⟩; have HB2 := Lib.hid hb2; clear hb2)
      go_ret
      exact ⟨_, rfl, (HB.out.alloc _).trans HB2.out⟩
    · rw [if_neg k0]
      have b0 : (t.kd == 0) = false := by simpa using k0
      by_cases k1 : t.kd = 1
      · rw [if_pos k1]
        have b1 : (t.kd == 1) = true := by simpa using k1
        have hw : t.tx.size ≤ 30 := by
          rcases hal with h | h | h | h
          · omega
          · exact (word_size h.2.2.2).2
          · omega
          · omega
        clear hal ih k0 k1 hf hb htab
        go_enter Tryz.func31, Tryz.ntmps31
        go_wp2_with (at_builtin; refine buf_text rfl _ _ 46 9 rfl Tryz.underlying46 Tryz.underlying9 rfl (HB.out.alloc _) t.tx rfl (by omega) ?_; intro v2 w2 hb2; have HB2 := Lib.hid hb2; clear hb2)
        go_ret
        exact ⟨_, rfl, HB2.out⟩
      · rw [if_neg k1]
        have b1 : (t.kd == 1) = false := by simpa using k1
        by_cases k2 : t.kd = 2
        · rw [if_pos k2]
          have b2 : (t.kd == 2) = true := by simpa using k2
          have hw : t.tx.size ≤ 2000 := by
            rcases hal with h | h | h | h
            · omega
            · omega
            · exact text_size h.2.2.2
            · omega
          have HA := Lib.hid fun (W : World) (h : Buf B W W v l) => appendText_any B t.tx hw v l (by omega) W h
          clear hal ih k0 k1 k2 hf hb htab
          go_enter Tryz.func31, Tryz.ntmps31
          go_wp2_with (go_at_call 61; refine (HA.out _ ((HB.out.alloc _).back)).mono ?_; rintro e w2 ⟨v2, rfl, hb2⟩; have HB2 := Lib.hid hb2; clear hb2)
          go_ret
          exact ⟨_, rfl, (HB.out.alloc _).trans HB2.out⟩
        · rw [if_neg k2]
          have b2 : (t.kd == 2) = false := by simpa using k2
          have k3 : t.kd = 3 := by
            rcases hal with h | h | h | h
            · omega
            · omega
            · omega
            · exact h.1
          have hks : t.form.kids = t.ks.map T.form := by unfold Fm.kids; rw [T.form_kd, if_pos k3, T.form_ks]
          have hfk : ∀ x ∈ t.ks, fieldsF x.form = true := fun x hx => fieldsL_mem hf.2 (by rw [hks]; exact List.mem_map_of_mem hx)
          have hsz : szF t.form = 1 + szL (t.ks.map T.form) := by rw [szF_eq, hks]
          have n1 := Nat.le_trans hin.ok.le hin.ok.cp
          unfold maxLen at n1
          have HI := Lib.hid hin
          have HO := Lib.hid hon
          obtain ⟨a, ha⟩ : ∃ a, t.ad = a := ⟨_, rfl⟩
          have HK : Hid (∀ W, Below B w W → InL W a 0 t.ks) := Lib.hid fun W h => by rw [← ha]; exact (hin.low hon h).inL
          have HAD := Lib.hid ha
          clear ha
          have HD := Lib.hid fun (k : Nat) (h : t.ks.length ≤ k) => upTo_done l t k h k0 k1 k2
          have HFK := Lib.hid hfk
          have IH := Lib.hid ih
          have HL : Hid (∀ k, k ≤ t.ks.length → (upTo l t.ks k).length ≤ l.length + 1 + 4010 * szL ((t.ks.map T.form).take k)) := Lib.hid fun k _ => by
            have := joinB_take t.ks k hfk
            rw [← List.map_take]
            simp only [upTo, List.length_append, List.length_cons]
            omega
          have HS : Hid (∀ k (h : k < t.ks.length), szL ((t.ks.map T.form).take k) + szF t.ks[k].form ≤ szL (t.ks.map T.form)) := Lib.hid fun k h => by
            have := szL_take_le (t.ks.map T.form) k (by simpa using h)
            simpa using this
          have HS2 : Hid (∀ k, szL ((t.ks.map T.form).take k) ≤ szL (t.ks.map T.form)) := Lib.hid fun k => szL_takes _ _
          have heq : l ++ 40 :: (joinB (t.form.ks.map txF) ++ [41]) = l ++ txF t.form := by
            rw [txF_eq, T.form_kd, if_neg k0, if_neg k1, if_neg k2]
          rw [heq]
          clear hal ih k0 k1 k2 k3 hf hb htab hks hfk hin hon heq
          go_enter Tryz.func31, Tryz.ntmps31
          go_wp2_with (at_builtin; (refine buf_bytes rfl _ _ 46 rfl Tryz.underlying46 rfl (HB.out.alloc _).back [40] _ (by simp [bytesV]) 1 rfl 1 _ rfl (by simp) (by omega) ?_; intro v1 w1 hb1; obtain ⟨c0, c1, c2, c3⟩ := (box_kept hb1).cells; rw [HAD.out] at c3; have HB1 := Lib.hid ((HB.out.alloc _).trans hb1); clear hb1))
          go_loopg [0, 33] (t.ks.length) (fun m o i wr => ∃ k : Nat, k ≤ t.ks.length ∧ m = t.ks.length - k ∧ i = .int .i64 k ∧ Buf B w wr o (upTo l t.ks k))
          case atStart => exact ⟨0, by omega, rfl, rfl, by simpa [upTo, joinB] using HB1.out⟩
          case round =>
            obtain ⟨k, hk, rfl, rfl, hbk⟩ := hrel
            have HBK := Lib.hid hbk
            have hlk := HL.out k hk
            have hs2 := HS2.out k
            clear hbk
            by_cases hlt : k < t.ks.length
            · have hsk := HS.out k hlt
              obtain ⟨⟨b, o, rfl, hx0, hx1, hx2, hx3⟩, hink⟩ := (HK.out _ HBK.out.below).at k hlt
              have HX := Lib.hid (upTo_next l t.ks k hlt)
              have hmk := List.getElem_mem hlt
              have HR := Lib.hid fun (v' : Value) (l' : List UInt8) (W : World) (h : Buf B w W v' l') (hl' : l'.length + 4010 * szF t.ks[k].form ≤ 1000000000) =>
                IH.out t.ks[k] (by have := T.kid_lt hmk; omega) v' l' W ((HI.out.low HO.out h.below).kid k hlt) (fun b hb => HO.out b (.kid hmk hb)) h.back (HT.out.on h.below) (HFK.out _ hmk) hl'
              have lb : b < wr.heap.size := World.block_lt_of_cell? _ _ hx0
              clear hink
              by_cases hk0 : k = 0
              · subst hk0
                rw [if_pos rfl] at HX
                simp only [List.nil_append] at HX
                simp only [Nat.zero_mul, Nat.add_zero] at hx0 hx1 hx2 hx3
                go_wp2_with (go_at_call 31; refine (HR.out _ _ _ (HBK.out.alloc _) (by omega)).mono ?_; rintro e w2 ⟨v2, rfl, hb2⟩; have HB2 := Lib.hid hb2; clear hb2)
                go_roundg (t.ks.length - 1)
                case measure => omega
                case rel => exact ⟨1, by omega, rfl, by go_num, by rw [HX.out]; exact (HBK.out.alloc _).trans HB2.out⟩
              · rw [if_neg hk0] at HX
                have hkp : (0 : Int) < (k : Int) := by omega
                go_wp2_with (first
                  | (at_builtin; refine buf_bytes rfl _ _ 46 rfl Tryz.underlying46 rfl (HBK.out.alloc _).back [32] _ (by simp [bytesV]) 1 rfl 1 _ rfl (by simp) (by omega) ?_; intro v1 w1 hb1; obtain ⟨k0, k1, k2, k3⟩ := (box_kept hb1).cells; have HBM := Lib.hid ((HBK.out.alloc _).trans hb1); clear hb1)
                  | (go_at_call 31; refine (HR.out _ _ _ HBM.out (by simp only [List.length_append, List.length_cons, List.length_nil]; omega)).mono ?_; rintro e w2 ⟨v2, rfl, hb2⟩; have HB2 := Lib.hid hb2; clear hb2))
                go_roundg (t.ks.length - (k + 1))
                case measure => omega
                case rel => exact ⟨k + 1, by omega, rfl, by go_num, by rw [HX.out, ← List.append_assoc]; exact HBM.out.trans HB2.out⟩
            · have HX := Lib.hid (HD.out k (by omega))
              go_wp2_with (at_builtin; refine buf_bytes rfl _ _ 46 rfl Tryz.underlying46 rfl HBK.out [41] _ (by simp [bytesV]) 1 rfl 1 _ rfl (by simp) (by omega) ?_; intro v2 w2 hb2; have HB2 := Lib.hid hb2; clear hb2)
              go_ret
              exact ⟨_, rfl, by rw [← HX.out]; exact HB2.out⟩
theorem appendForm_T (B : Nat) (t : T) (v : Value) (l : List UInt8) (w : World) (hin : In w t) (hon : ∀ b, On t b → b < B) (hb : Buf B w w v l) (ht : Tab B w) (hf : fieldsF t.form = true) (hl : l.length + 4010 * szF t.form ≤ 1000000000) :
    Calls Tryz.prog 31 #[v, t.val] w fun e w' => BufEnd B w w' (l ++ txF t.form) e :=
  appendForm_any B _ t (Nat.lt_succ_self _) v l w hin hon hb ht hf hl
end Go.Proofs.YtedabholcldgbaaGreatDoor
