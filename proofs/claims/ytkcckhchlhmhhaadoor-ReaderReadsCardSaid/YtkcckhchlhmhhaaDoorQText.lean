/- The document's own reader's quoted: the walk. -/
import Derived.Test.YtkcckhchlhmhhaaDoorQTok
namespace Go.Proofs.YtkcckhchlhmhhaaDoor.Q
open Go.RowKit Go.Deep

theorem chg_set {R : Nat} {w w' : World} (h : Only R w w') (o : Nat) (u : Value) : Only R w (w'.setCell ⟨R, o, none⟩ u) :=
  h.trans ⟨rfl, rfl, rfl, by simp [World.setCell], fun k _ hne => Below.heap_setCell _ _ _ _ (by intro e; exact hne (by rw [e]))⟩
theorem chg_drewN {R : Nat} {w w' : World} (h : Only R w w') (n : Nat) : Only R w (w'.drewN n) := h.trans (Only.of (below_drewN (Below.refl _ _) n))
theorem chg_drew {R : Nat} {w w' : World} (h : Only R w w') : Only R w w'.drew := h.trans (Only.of (Below.refl _ _).drew)
/-- How the reading of a text ends. -/
def TxtQ (base : Nat) (w w' : World) (R : Nat) (s : ByteArray) (pos : Nat) (ov : Value) (L : List Lv) (ts : List T) (nb : Bool) : Prop :=
  match txtL (s.data.toList.drop (pos + 1)) with
  | .err c => Bad w' R s c ∧ Below base w w'
  | .done bs n => if 2000 < (⟨bs.toArray⟩ : ByteArray).size then Bad w' R s 4 ∧ Below base w w' else Added base w w' R s (pos + n + 1) ov L (ts ++ [T.leaf 2 0 ⟨bs.toArray⟩]) (nb, 0)
/-- What holds at the head of each round. -/
structure TRel (base : Nat) (w wr : World) (R : Nat) (s : ByteArray) (pos : Nat) (ov : Value) (L : List Lv) (nb : Bool) (iv : Value) (q : Nat) (acc : List UInt8) : Prop where
  lt : pos < q
  le : q ≤ s.size
  txt : txtL (s.data.toList.drop (pos + 1)) = (txtL (s.data.toList.drop q)).pre acc (q - (pos + 1))
  own : wr.ownsRow w.heap.size 5 1 iv acc.length (bytesV acc)
  scan : Scan base wr R s q ov L (nb, 0)
  below : Below base w wr
  size : w.heap.size ≤ wr.heap.size
  len : acc.length ≤ q
theorem TRel.err {base : Nat} {w wr w' : World} {R : Nat} {s : ByteArray} {pos q : Nat} {ov : Value} {L : List Lv} {v : Value} {ts : List T} {nb : Bool} {iv : Value} {acc : List UInt8} {c : Int}
    (h : TRel base w wr R s pos ov (L ++ [(v, ts)]) nb iv q acc) (hc : txtL (s.data.toList.drop q) = .err c) (hk : Bad w' R s c) (hb : Below base wr w') : TxtQ base w w' R s pos ov L ts nb := by
  unfold TxtQ
  rw [h.txt, hc]
  exact ⟨hk, h.below.trans hb⟩
theorem TRel.fin {base : Nat} {w wr w2 w' : World} {R : Nat} {s : ByteArray} {pos q : Nat} {ov : Value} {L : List Lv} {v : Value} {ts : List T} {nb : Bool} {iv : Value} {acc : List UInt8}
    (h : TRel base w wr R s pos ov (L ++ [(v, ts)]) nb iv q acc) (hc : txtL (s.data.toList.drop q) = .done [] 1) (hd : ¬ 2000 < (⟨acc.toArray⟩ : ByteArray).size) (hb : Below base wr w2) (ha : Added base w2 w' R s (q + 1) ov L (ts ++ [T.leaf 2 0 ⟨acc.toArray⟩]) (nb, 0)) : TxtQ base w w' R s pos ov L ts nb := by
  unfold TxtQ
  rw [h.txt, hc]
  simp only [TX.pre, List.append_nil]
  rw [show pos + (q - (pos + 1) + 1) = q by have := h.lt; omega, if_neg hd]
  exact ⟨(h.below.trans hb).trans ha.1, ha.2⟩
theorem TRel.long {base : Nat} {w wr w2 w' : World} {R : Nat} {s : ByteArray} {pos q q' : Nat} {ov : Value} {L : List Lv} {v : Value} {ts us : List T} {nb : Bool} {iv : Value} {acc : List UInt8}
    (h : TRel base w wr R s pos ov (L ++ [(v, ts)]) nb iv q acc) (hc : txtL (s.data.toList.drop q) = .done [] 1) (hd : 2000 < (⟨acc.toArray⟩ : ByteArray).size) (hb : Below base wr w2) (ha : Added base w2 w' R s q' ov L us (nb, 4)) : TxtQ base w w' R s pos ov L ts nb := by
  unfold TxtQ
  rw [h.txt, hc]
  simp only [TX.pre, List.append_nil]
  rw [if_pos hd]
  obtain ⟨hB, v', hS⟩ := ha
  exact ⟨hS.bad, (h.below.trans hb).trans hB⟩
/-- A byte more: the place was set ahead of the append. -/
theorem TRel.next {base : Nat} {w wr W w1 : World} {R : Nat} {s : ByteArray} {pos : Nat} {ov : Value} {L : List Lv} {nb : Bool} {iv : Value} {q : Nat} {acc : List UInt8} {m : UInt8} {k g c : Nat}
    (h : TRel base w wr R s pos ov L nb iv q acc) (hbw : base ≤ w.heap.size) (hlow : Low R ov L w.heap.size) (hk : q + k ≤ s.size) (hk0 : 1 ≤ k) (ht : txtL (s.data.toList.drop q) = (txtL (s.data.toList.drop (q + k))).pre [m] k)
    (hS : Scan base W R s (q + k) ov L (nb, 0)) (hW : Below base wr W) (hWs : w.heap.size ≤ W.heap.size) (hgrow : W.grownBy w1 iv.ownBlock)
    (hown : w1.ownsRow w.heap.size 5 1 (.slice (some ⟨g, 0, none⟩) (acc.length + 1) c) (acc.length + 1) (bytesV acc ++ [.int .u8 (m.toNat : Int)])) :
    TRel base w w1 R s pos ov L nb (.slice (some ⟨g, 0, none⟩) (acc.length + 1) c) (q + k) (acc ++ [m]) := by
  have hB : Below w.heap.size W w1 := (Below.refl _ _).grown hgrow hWs fun b hb => (h.own.lt b hb).1
  refine ⟨by have := h.lt; omega, hk, ?_, ?_, hS.belowB hlow hB, (h.below.trans hW).trans (hB.mono hbw), Nat.le_trans hWs hB.size, by have := h.len; simp; omega⟩
  · rw [h.txt, ht, TX.pre_pre, show q - (pos + 1) + k = q + k - (pos + 1) by have := h.lt; omega]
  · simpa [bytesV] using hown
theorem TRel.row {base : Nat} {w wr W : World} {R : Nat} {s : ByteArray} {pos : Nat} {ov : Value} {L : List Lv} {nb : Bool} {iv : Value} {q : Nat} {acc : List UInt8}
    (h : TRel base w wr R s pos ov L nb iv q acc) (hR : R < w.heap.size) (ho : Only R wr W) : W.ownsRow w.heap.size 5 1 iv acc.length (bytesV acc) :=
  own_same h.own fun k hk => ho.block k (h.own.lt k hk).2 fun e => by
    have e' : k = R := by simpa using e
    have := (h.own.lt k hk).1
    omega
theorem only_below {base R : Nat} {wr W : World} (ho : Only R wr W) (hR : base ≤ R) (hw : base ≤ wr.heap.size) : Below base wr W := ho.below hR hw

theorem heap_new_at (W : World) {n : Nat} (h : W.heap.size = n) (o : Obj) : (W.alloc o).heap[n]? = some o := by
  subst h; exact heap_alloc_new W o

set_option linter.unusedSimpArgs false in
set_option maxHeartbeats 8000000 in
set_option maxRecDepth 100000 in
theorem quoted_any (base : Nat) (w : World) (R : Nat) (s : ByteArray) (pos : Nat) (ov : Value) (L : List Lv) (v : Value) (ts : List T) (nb : Bool)
    (h : Scan base w R s pos ov (L ++ [(v, ts)]) (nb, 0)) (hpos : pos < s.size) (hs : s.size ≤ 60000) (hlen : ts.length + L.length ≤ 1000000) :
    Calls Tryd.prog 67 #[.pointer (some ⟨R, 0, none⟩)] w fun e w' => e = .returned (.tuple #[]) ∧ TxtQ base w w' R s pos ov L ts nb := by
  obtain ⟨i0, hi0, hz0, hz1, hz2⟩ := info_parts info5
  obtain ⟨c0, c1, c2, c3, c4, f1, f2, f3, f4⟩ := h.cells
  have H := Lib.hid h
  have hbR := h.hR
  have hbw := h.hw
  have HLow := Lib.hid h.low
  have hRw := lt_of_block h.blk
  have HP : Hid (∀ (t : ByteArray) (q : Nat) (c : Int) W, t.size ≤ maxLen → Scan base W R s q ov (L ++ [(v, ts)]) (nb, c) → Calls Tryd.prog 66 #[.pointer (some ⟨R, 0, none⟩), .agg #[.int .i64 2, .int .i64 0, .string t, .slice none 0 0]] W
      fun e w' => e = .returned (.tuple #[]) ∧ Added base W w' R s q ov L (ts ++ [T.leaf 2 0 t]) (nb, c)) :=
    Lib.hid fun t q c W o3 hS => put_any base W R s q ov L v ts (nb, c) (T.leaf 2 0 t) hS (leaf_in W 2 0 t (by unfold I64; omega) (by unfold I64; omega) o3) (fun b hb => absurd hb (leaf_on 2 0 t b)) (fun b hb => absurd hb (leaf_on 2 0 t b)) hlen
  clear h hlen
  go_enter Tryd.func67, Tryd.ntmps67
  go_wp2_with fail
  clear c0 c1 c2 c3 c4 f1 f2 f3 f4
  go_loopg [2] (s.size - pos) (fun m x wr => ∃ (iv : Value) (q : Nat) (acc : List UInt8), iv = x ∧ s.size - q ≤ m ∧ TRel base w wr R s pos ov (L ++ [(v, ts)]) nb iv q acc)
  case atStart => exact ⟨.slice none 0 0, pos + 1, [], rfl, by omega, by omega, by omega, by rw [Nat.sub_self, TX.pre_nil], World.ownsRow_nil _ _ _ _, H.out.setPos (pos + 1), below_setR (Below.refl _ _) hbR _, by simp, Nat.zero_le _⟩
  case round =>
    obtain ⟨iv, q, acc, hiv, hm, hT⟩ := hrel
    subst hiv
    obtain ⟨c0, c1, c2, c3, c4, f1, f2, f3, f4⟩ := hT.scan.cells
    have HT := Lib.hid hT
    have hq0 := hT.lt
    have hq1 := hT.le
    have hn := hT.len
    have hsz := hT.size
    have hRlt := lt_of_block hT.scan.blk
    have hq2 : (0 : Int) ≤ (q : Int) := by omega
    clear hT c2 c3 f2 f3
    by_cases hlt : q < s.size
    · have hd : decide (q < s.size) = true := by simpa using hlt
      have hq3 : (q : Int) < (s.size : Int) := by omega
      have HD := Lib.hid (drop_byte hlt)
      by_cases b34 : s[q].toNat = 34
      · have g34 : ((s[q].toNat : Int) != 34) = false := by simp; omega
        have gqe : ((q : Int) == (s.size : Int)) = false := by simp; omega
        have HTX : Hid (txtL (s.data.toList.drop q) = .done [] 1) := Lib.hid (by rw [HD.out, txtL_cons, if_pos b34])
        have HCV : Hid (∀ W, Only R wr W → (convert 55 9 iv).run Tryd.prog W = .ok (.string ⟨acc.toArray⟩) W) := Lib.hid fun W ho => conv_row (HT.out.row hRw ho) 0
        have hcv1 : ∀ (a : Nat) (x : Value), (convert 55 9 iv).run Tryd.prog ((wr.drewN a).setCell ⟨R, 1, none⟩ x) = .ok (.string ⟨acc.toArray⟩) ((wr.drewN a).setCell ⟨R, 1, none⟩ x) := fun a x => HCV.out _ (chg_set (chg_drewN (Only.refl _ _) _) _ _)
        have hcv2 : ∀ (a : Nat) (x y : Value), (convert 55 9 iv).run Tryd.prog (((wr.drewN a).setCell ⟨R, 1, none⟩ x).setCell ⟨R, 4, none⟩ y) = .ok (.string ⟨acc.toArray⟩) (((wr.drewN a).setCell ⟨R, 1, none⟩ x).setCell ⟨R, 4, none⟩ y) := fun a x y => HCV.out _ (chg_set (chg_set (chg_drewN (Only.refl _ _) _) _ _) _ _)
        have haz : (⟨acc.toArray⟩ : ByteArray).size = acc.length := by show acc.toArray.size = _; simp
        obtain ⟨va, vc, hiv⟩ : ∃ va vc, iv = .slice va acc.length vc := by
          rcases HT.out.own.2 with ⟨e, e'⟩ | ⟨g', c', cur, e, _⟩
          · have e1 : iv = .slice none 0 0 := e
            have e2 : acc.length = 0 := e'
            exact ⟨none, 0, by rw [e1, e2]⟩
          · exact ⟨_, _, e⟩
        subst hiv
        have ham : acc.length ≤ 60000 := by omega
        clear b34
        by_cases hlong : 2000 < acc.length
        · have hl1 : (2000 : Int) < (acc.length : Int) := by omega
          have HLG : Hid (2000 < (⟨acc.toArray⟩ : ByteArray).size) := Lib.hid (by rw [haz]; exact hlong)
          have HM : Hid ((⟨acc.toArray⟩ : ByteArray).size ≤ maxLen) := Lib.hid (by rw [haz]; unfold maxLen; omega)
          clear haz hlong
          go_wp2_with fail
          go_quiet (fail)
          go_wp2_with fail
          go_quiet (fail)
          go_wp2_with (go_at_call 66; refine (HP.out _ (q + 1) 4 _ HM.out (((HT.out.scan.drewN _).setPos (q + 1)).setE 4)).mono ?_; rintro e w4 ⟨rfl, hA⟩; have HA := Lib.hid hA; clear hA)
          go_end0
          exact ⟨rfl, HT.out.long HTX.out HLG.out (below_setR (below_setR (below_drewN (Below.refl _ _) _) hbR _) hbR _) HA.out⟩
        · have hl1 : ¬ (2000 : Int) < (acc.length : Int) := by omega
          have HLG : Hid (¬ 2000 < (⟨acc.toArray⟩ : ByteArray).size) := Lib.hid (by rw [haz]; exact hlong)
          have HM : Hid ((⟨acc.toArray⟩ : ByteArray).size ≤ maxLen) := Lib.hid (by rw [haz]; unfold maxLen; omega)
          clear haz hlong
          go_wp2_with fail
          go_quiet (fail)
          go_wp2_with fail
          go_quiet (fail)
          go_wp2_with (go_at_call 66; refine (HP.out _ (q + 1) 0 _ HM.out ((HT.out.scan.drewN _).setPos (q + 1))).mono ?_; rintro e w4 ⟨rfl, hA⟩; have HA := Lib.hid hA; clear hA)
          go_end0
          exact ⟨rfl, HT.out.fin HTX.out HLG.out (below_setR (below_drewN (Below.refl _ _) _) hbR _) HA.out⟩
      · have g34 : ((s[q].toNat : Int) != 34) = true := by simp; omega
        have HS1 := Lib.hid (HT.out.scan.setPos (q + 1))
        have hq5 : (0 : Int) ≤ (q : Int) + 1 := by omega
        by_cases b92 : s[q].toNat = 92
        · have g92 : ((s[q].toNat : Int) == 92) = true := by simp; omega
          by_cases hend : q + 1 = s.size
          · have HTX : Hid (txtL (s.data.toList.drop q) = .err 12) := Lib.hid (by
              rw [HD.out, txtL_cons, if_neg b34, if_pos b92, List.drop_of_length_le (by simp; omega)])
            have g1 : ((q : Int) + 1 == (s.size : Int)) = true := by simp; omega
            clear b34 b92 hend
            go_wp2_with fail
            go_quiet (fail)
            go_wp2_with fail
            go_quiet (fail)
            go_wp2_with fail
            go_quiet (fail)
            go_wp2_with fail
            go_quiet (fail)
            go_wp2_with fail
            refine bodyPost_ret (results_none (by rfl) _ _ _) rfl ?_
            exact ⟨rfl, HT.out.err HTX.out ((((HT.out.scan.drewN _).setPos (q + 1)).drewN _).setE 12).bad (below_setR (below_drewN (below_setR (below_drewN (Below.refl _ _) _) hbR _) _) hbR _)⟩
          · have hlt2 : q + 1 < s.size := by omega
            have g1 : ((q : Int) + 1 == (s.size : Int)) = false := by simp; omega
            have hq6 : (q : Int) + 1 < (s.size : Int) := by omega
            have HD2 := Lib.hid (drop_byte hlt2)
            by_cases n110 : s[q + 1].toNat = 110
            · have HTX : Hid (txtL (s.data.toList.drop q) = (txtL (s.data.toList.drop (q + 2))).pre [10] 2) := Lib.hid (by
                have e : s[q + 1] = 110 := by rw [← UInt8.toNat_inj]; simpa using n110
                rw [HD.out, txtL_cons, if_neg b34, if_pos b92, HD2.out]
                simp only [e]
                rfl)
              have g110 : ((s[q + 1].toNat : Int) == 110) = true := by simp; omega
              clear b34 b92 hend n110
              go_wp2_with fail
              go_quiet (fail)
              go_wp2_with fail
              go_quiet (fail)
              go_wp2_with fail
              go_quiet (fail)
              go_wp2_with fail
              go_quiet (fail)
              go_wp2_with (at_builtin; refine wpList_append_lies _ rfl _ _ _ rfl w.heap.size 5 i0 _ 1 1 Tryd.underlying55 hi0 hz0 hz1 hz2 rfl (by omega) iv acc.length (bytesV acc) (by rfl) (HT.out.row hRw ?_) ⟨wr.heap.size, 0, none⟩ 1 1 [.int .u8 10] (by rfl) (by rfl) (World.news_of_block (cs := #[.int .u8 10]) (t := 5) (fr := (0, 0)) ?_) (by simp [Value.oneCell']) (by omega) (by unfold maxLen; omega) (by omega) (by simp; omega) (wr.heap.size + 1) (by simp) ?_; (· (repeat first | refine chg_set ?_ _ _ | refine chg_drewN ?_ _ | refine Only.alloc ?_ _); exact Only.refl _ _); (· exact heap_new_at _ (by simp) _); intro gg cap1 w1 hown1 hgrow _ _; have HN := Lib.hid (HT.out.next (m := 10) (k := 2) hbw HLow.out (by omega) (by omega) HTX.out ((((((HT.out.scan.drewN _).setPos (q + 1)).drewN _).setPos (q + 2))).below (bel1 _ _)) (((below_setR (below_drewN (below_setR (below_drewN (Below.refl _ _) _) hbR _) _) hbR _)).alloc (by simp; omega) _) (by simp; omega) hgrow hown1); clear hown1 hgrow)
              go_roundg (s.size - (q + 2))
              case measure => omega
              case rel => exact ⟨_, q + 2, acc ++ [10], rfl, by omega, HN.out⟩
            · have g110 : ((s[q + 1].toNat : Int) == 110) = false := by simp; omega
              by_cases hok : s[q + 1].toNat = 34 ∨ s[q + 1].toNat = 92
              · have HTX : Hid (txtL (s.data.toList.drop q) = (txtL (s.data.toList.drop (q + 2))).pre [s[q + 1]] 2) := Lib.hid (by
                  have e1 : unOk (s[q + 1].toNat : Int) = true := by unfold unOk; rcases hok with h | h <;> rw [h] <;> rfl
                  have e2 : unB s[q + 1] = s[q + 1] := by unfold unB; rw [if_neg (fun e => n110 (by rw [e]; rfl))]
                  rw [HD.out, txtL_cons, if_neg b34, if_pos b92, HD2.out]
                  simp only [e1, if_true, e2])
                have hx : (((s[q + 1].toNat : Int) == 34) = true) ∨ (((s[q + 1].toNat : Int) == 34) = false ∧ ((s[q + 1].toNat : Int) == 92) = true) := by
                  simp only [beq_iff_eq, beq_eq_false_iff_ne, ne_eq]; omega
                clear b34 b92 hend n110 hok
                rcases hx with g1 | ⟨g1, g2⟩
                all_goals
                  go_wp2_with fail
                  go_quiet (fail)
                  go_wp2_with fail
                  go_quiet (fail)
                  go_wp2_with fail
                  go_quiet (fail)
                  go_wp2_with fail
                  go_quiet (fail)
                  go_wp2_with (at_builtin; refine wpList_append_lies _ rfl _ _ _ rfl w.heap.size 5 i0 _ 1 1 Tryd.underlying55 hi0 hz0 hz1 hz2 rfl (by omega) iv acc.length (bytesV acc) (by rfl) (HT.out.row hRw ?_) ⟨wr.heap.size, 0, none⟩ 1 1 [.int .u8 (s[q + 1].toNat : Int)] (by rfl) (by rfl) (World.news_of_block (cs := #[.int .u8 (s[q + 1].toNat : Int)]) (t := 5) (fr := (0, 0)) ?_) (by simp [Value.oneCell']) (by omega) (by unfold maxLen; omega) (by omega) (by simp; omega) (wr.heap.size + 1) (by simp) ?_; (· (repeat first | refine chg_set ?_ _ _ | refine chg_drewN ?_ _ | refine Only.alloc ?_ _); exact Only.refl _ _); (· exact heap_new_at _ (by simp) _); intro gg cap1 w1 hown1 hgrow _ _; have HN := Lib.hid (HT.out.next (m := s[q + 1]) (k := 2) hbw HLow.out (by omega) (by omega) HTX.out ((((((HT.out.scan.drewN _).setPos (q + 1)).drewN _).setPos (q + 2))).below (bel1 _ _)) (((below_setR (below_drewN (below_setR (below_drewN (Below.refl _ _) _) hbR _) _) hbR _)).alloc (by simp; omega) _) (by simp; omega) hgrow hown1); clear hown1 hgrow)
                  go_roundg (s.size - (q + 2))
                  case measure => omega
                  case rel => exact ⟨_, q + 2, acc ++ [s[q + 1]], rfl, by omega, HN.out⟩
              · have HTX : Hid (txtL (s.data.toList.drop q) = .err 4) := Lib.hid (by
                  have e1 : unOk (s[q + 1].toNat : Int) = false := by unfold unOk; simp; omega
                  rw [HD.out, txtL_cons, if_neg b34, if_pos b92, HD2.out]
                  simp only [e1]
                  rfl)
                have g1 : ((s[q + 1].toNat : Int) == 34) = false := by simp; omega
                have g2 : ((s[q + 1].toNat : Int) == 92) = false := by simp; omega
                clear b34 b92 hend n110 hok
                go_wp2_with fail
                go_quiet (fail)
                go_wp2_with fail
                go_quiet (fail)
                go_wp2_with fail
                go_quiet (fail)
                go_wp2_with fail
                go_quiet (fail)
                go_wp2_with fail
                refine bodyPost_ret (results_none (by rfl) _ _ _) rfl ?_
                exact ⟨rfl, HT.out.err HTX.out (((((HT.out.scan.drewN _).setPos (q + 1)).drewN _).setPos (q + 2)).setE 4).bad (below_setR (below_setR (below_drewN (below_setR (below_drewN (Below.refl _ _) _) hbR _) _) hbR _) hbR _)⟩
        · have g92 : ((s[q].toNat : Int) == 92) = false := by simp; omega
          by_cases hok : 32 ≤ s[q].toNat ∧ s[q].toNat ≤ 126
          · have HTX : Hid (txtL (s.data.toList.drop q) = (txtL (s.data.toList.drop (q + 1))).pre [s[q]] 1) := Lib.hid (by
              rw [HD.out, txtL_cons, if_neg b34, if_neg b92, if_pos]
              by_cases e : s[q].toNat = 32
              · exact .inl e
              · right; unfold plainB; simp; omega)
            have g1 : decide ((s[q].toNat : Int) < 32) = false := by simp; omega
            have g2 : decide ((126 : Int) < (s[q].toNat : Int)) = false := by simp; omega
            clear b34 b92 hok
            go_wp2_with fail
            go_quiet (fail)
            go_wp2_with fail
            go_quiet (fail)
            go_wp2_with (at_builtin; refine wpList_append_lies _ rfl _ _ _ rfl w.heap.size 5 i0 _ 1 1 Tryd.underlying55 hi0 hz0 hz1 hz2 rfl (by omega) iv acc.length (bytesV acc) (by rfl) (HT.out.row hRw ?_) ⟨wr.heap.size, 0, none⟩ 1 1 [.int .u8 (s[q].toNat : Int)] (by rfl) (by rfl) (World.news_of_block (cs := #[.int .u8 (s[q].toNat : Int)]) (t := 5) (fr := (0, 0)) ?_) (by simp [Value.oneCell']) (by omega) (by unfold maxLen; omega) (by omega) (by simp; omega) (wr.heap.size + 1) (by simp) ?_; (· (repeat first | refine chg_set ?_ _ _ | refine chg_drewN ?_ _ | refine Only.alloc ?_ _); exact Only.refl _ _); (· exact heap_new_at _ (by simp) _); intro gg cap1 w1 hown1 hgrow _ _; have HN := Lib.hid (HT.out.next (m := s[q]) (k := 1) hbw HLow.out (by omega) (by omega) HTX.out ((((HT.out.scan.drewN _).setPos (q + 1))).below (bel1 _ _)) (((below_setR (below_drewN (Below.refl _ _) _) hbR _)).alloc (by simp; omega) _) (by simp; omega) hgrow hown1); clear hown1 hgrow)
            go_roundg (s.size - (q + 1))
            case measure => omega
            case rel => exact ⟨_, q + 1, acc ++ [s[q]], rfl, by omega, HN.out⟩
          · have HTX : Hid (txtL (s.data.toList.drop q) = .err 4) := Lib.hid (by
              rw [HD.out, txtL_cons, if_neg b34, if_neg b92, if_neg]
              unfold plainB; simp; omega)
            have hx : decide ((s[q].toNat : Int) < 32) = true ∨ (decide ((s[q].toNat : Int) < 32) = false ∧ decide ((126 : Int) < (s[q].toNat : Int)) = true) := by
              simp only [decide_eq_true_eq, decide_eq_false_iff_not]; omega
            clear b34 b92 hok
            rcases hx with g1 | ⟨g1, g2⟩
            all_goals
              go_wp2_with fail
              go_quiet (fail)
              go_wp2_with fail
              go_quiet (fail)
              go_wp2_with fail
              refine bodyPost_ret (results_none (by rfl) _ _ _) rfl ?_
              exact ⟨rfl, HT.out.err HTX.out (((HT.out.scan.drewN _).setPos (q + 1)).setE 4).bad (below_setR (below_setR (below_drewN (Below.refl _ _) _) hbR _) hbR _)⟩
    · have hd : decide (q < s.size) = false := by simpa using hlt
      have hqs : q = s.size := by omega
      have gqe : ((q : Int) == (s.size : Int)) = true := by simp; omega
      have HTX : Hid (txtL (s.data.toList.drop q) = .err 12) := Lib.hid (by rw [List.drop_of_length_le (by simp; omega)]; rfl)
      clear hqs
      go_wp2_with fail
      go_quiet (fail)
      go_wp2_with fail
      go_quiet (fail)
      go_wp2_with fail
      refine bodyPost_ret (results_none (by rfl) _ _ _) rfl ?_
      exact ⟨rfl, HT.out.err HTX.out ((HT.out.scan.drewN _).setE 12).bad (below_setR (below_drewN (Below.refl _ _) _) hbR _)⟩
end Go.Proofs.YtkcckhchlhmhhaaDoor.Q
