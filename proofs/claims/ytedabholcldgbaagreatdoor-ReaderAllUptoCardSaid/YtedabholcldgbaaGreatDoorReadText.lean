/- The scanner's readText: the walk. -/
import Derived.Test.YtedabholcldgbaaGreatDoorText
namespace Go.Proofs.YtedabholcldgbaaGreatDoor
open Go.RowKit Go.Deep

def TxtFin (base : Nat) (w w' : World) (R : Nat) (s : ByteArray) (pos : Nat) (ov : Value) (L : List Lv) (ts : List T) (e : Ending) : Prop :=
  match txtL (s.data.toList.drop (pos + 1)) with
  | .err c => e = .returned (.int .i64 c) ∧ Below base w w'
  | .done bs n => TextEnd base w w' R s (pos + n) ov L ts ⟨bs.toArray⟩ e
/-- What holds at the head of each round. -/
structure TRel (base : Nat) (w wr : World) (R : Nat) (s : ByteArray) (pos : Nat) (ov : Value) (L : List Lv) (tight : Bool) (iv : Value) (q : Nat) (acc : List UInt8) : Prop where
  lt : pos < q
  le : q ≤ s.size
  txt : txtL (s.data.toList.drop (pos + 1)) = (txtL (s.data.toList.drop q)).pre acc (q - (pos + 1))
  own : wr.ownsRow w.heap.size 5 1 iv acc.length (bytesV acc)
  scan : Scan base wr R s q ov L tight
  below : Below base w wr
  size : w.heap.size ≤ wr.heap.size
  len : acc.length ≤ q
theorem TRel.err {base : Nat} {w wr w' : World} {R : Nat} {s : ByteArray} {pos : Nat} {ov : Value} {L : List Lv} {v : Value} {ts : List T} {tight : Bool} {iv : Value} {q : Nat} {acc : List UInt8} {c : Int}
    (h : TRel base w wr R s pos ov (L ++ [(v, ts)]) tight iv q acc) (hc : txtL (s.data.toList.drop q) = .err c) (hb : Below base wr w') : TxtFin base w w' R s pos ov L ts (.returned (.int .i64 c)) := by
  unfold TxtFin
  rw [h.txt, hc]
  exact ⟨rfl, h.below.trans hb⟩
theorem TRel.fin {base : Nat} {w wr w' : World} {R : Nat} {s : ByteArray} {pos : Nat} {ov : Value} {L : List Lv} {v : Value} {ts : List T} {tight : Bool} {iv : Value} {q : Nat} {acc : List UInt8} {e : Ending}
    (h : TRel base w wr R s pos ov (L ++ [(v, ts)]) tight iv q acc) (hc : txtL (s.data.toList.drop q) = .done [] 1) (he : TextEnd base w w' R s q ov L ts ⟨acc.toArray⟩ e) : TxtFin base w w' R s pos ov L ts e := by
  unfold TxtFin
  rw [h.txt, hc]
  simp only [TX.pre, List.append_nil]
  rw [show pos + (q - (pos + 1) + 1) = q by have := h.lt; omega]
  exact he
theorem drop_byte {s : ByteArray} {q : Nat} (h : q < s.size) : s.data.toList.drop q = s[q] :: s.data.toList.drop (q + 1) := by
  rw [List.drop_eq_getElem_cons (by simpa using h)]; rfl
theorem TextEnd.mono {base : Nat} {w w1 w' : World} {R : Nat} {s : ByteArray} {q : Nat} {ov : Value} {L : List Lv} {ts : List T} {d : ByteArray} {e : Ending} (hb : Below base w w1) (h : TextEnd base w1 w' R s q ov L ts d e) : TextEnd base w w' R s q ov L ts d e := by
  unfold TextEnd at *
  split
  · rename_i hd; rw [if_pos hd] at h; exact ⟨h.1, hb.trans h.2⟩
  · rename_i hd; rw [if_neg hd] at h; exact ⟨h.1, hb.trans h.2.1, h.2.2⟩
theorem txtL_cons (b : UInt8) (r : List UInt8) : txtL (b :: r) = if b.toNat = 34 then .done [] 1 else if b.toNat = 92 then (match r with
      | [] => .err 12
      | c :: r' => if unOk (c.toNat : Int) = true then (txtL r').pre [unB c] 2 else .err 4)
    else if b.toNat = 32 ∨ plainB (b.toNat : Int) = true then (txtL r).pre [b] 1 else .err 4 := by cases r <;> rfl
/-- Behind an append to the bytes, ahead of the next position. -/
theorem TRel.mid {base : Nat} {w wr W w1 : World} {R : Nat} {s : ByteArray} {pos : Nat} {ov : Value} {L : List Lv} {tight : Bool} {iv : Value} {q q' : Nat} {acc : List UInt8}
    (h : TRel base w wr R s pos ov L tight iv q acc) (hlow : Low R ov L w.heap.size) (hS : Scan base W R s q' ov L tight) (hgrow : W.grownBy w1 iv.ownBlock) (hWs : w.heap.size ≤ W.heap.size) : Scan base w1 R s q' ov L tight ∧ Below w.heap.size W w1 := by
  have hB : Below w.heap.size W w1 := (Below.refl _ _).grown hgrow hWs fun b hb => (h.own.lt b hb).1
  exact ⟨hS.belowB hlow hB, hB⟩
theorem bel_dA (w : World) (n : Nat) (o : Obj) : Below w.heap.size w ((w.drewN n).alloc o) := (below_drewN (Below.refl _ _) n).alloc (Nat.le_refl _) o
theorem heap_new_set (w : World) (a : Addr) (u : Value) (o : Obj) : ((w.setCell a u).alloc o).heap[w.heap.size]? = some o := by
  have h := heap_alloc_new (w.setCell a u) o
  rwa [show (w.setCell a u).heap.size = w.heap.size by simp] at h
/-- A byte more. -/
theorem TRel.next {base : Nat} {w wr W w1 : World} {R : Nat} {s : ByteArray} {pos : Nat} {ov : Value} {L : List Lv} {tight : Bool} {iv : Value} {q q' : Nat} {acc : List UInt8} {m : UInt8} {k g c : Nat}
    (h : TRel base w wr R s pos ov L tight iv q acc) (hbw : base ≤ w.heap.size) (hR : R < w.heap.size) (hk : q + k ≤ s.size) (hk0 : 1 ≤ k) (ht : txtL (s.data.toList.drop q) = (txtL (s.data.toList.drop (q + k))).pre [m] k)
    (hm : Scan base w1 R s q' ov L tight ∧ Below w.heap.size W w1) (hW : Below base wr W) (hWs : w.heap.size ≤ W.heap.size)
    (hown : w1.ownsRow w.heap.size 5 1 (.slice (some ⟨g, 0, none⟩) (acc.length + 1) c) (acc.length + 1) (bytesV acc ++ [.int .u8 (m.toNat : Int)])) :
    TRel base w (w1.setCell ⟨R, 1, none⟩ (.int .i64 (q + k : Nat))) R s pos ov L tight (.slice (some ⟨g, 0, none⟩) (acc.length + 1) c) (q + k) (acc ++ [m]) := by
  have hgb := (hown.lt g (by simp [Value.ownBlock])).1
  refine ⟨by have := h.lt; omega, hk, ?_, ?_, hm.1.setPos (q + k), below_setR ((h.below.trans hW).trans (hm.2.mono hbw)) hm.1.hR _, by simpa using Nat.le_trans hWs hm.2.size, by have := h.len; simp; omega⟩
  · rw [h.txt, ht, TX.pre_pre, show q - (pos + 1) + k = q + k - (pos + 1) by have := h.lt; omega]
  · have := ownsRow_setCell_other (a := ⟨R, 1, none⟩) hown (by simp [Value.ownBlock]; omega) (.int .i64 (q + k : Nat))
    simpa [bytesV] using this

set_option maxHeartbeats 4000000 in
set_option maxRecDepth 100000 in
theorem readText_any (base : Nat) (w : World) (R : Nat) (s : ByteArray) (pos : Nat) (ov : Value) (L : List Lv) (v : Value) (ts : List T) (tight : Bool)
    (h : Scan base w R s pos ov (L ++ [(v, ts)]) tight) (hpos : pos < s.size) (hs : s.size ≤ 60000) (hlen : ts.length + L.length ≤ 1000000) :
    Calls Tryz.prog 113 #[.pointer (some ⟨R, 0, none⟩)] w fun e w' => TxtFin base w w' R s pos ov L ts e := by
  obtain ⟨i0, hi0, hz0, hz1, hz2⟩ := info_parts info5
  obtain ⟨c0, c1, c2, c3, f1, f2, f3⟩ := h.cells
  have H := Lib.hid h
  have hbR := h.hR
  have hbw := h.hw
  have HLow := Lib.hid h.low
  have hRw := lt_of_block h.blk
  clear h
  go_enter Tryz.func113, Tryz.ntmps113
  go_wp2_with fail
  clear c0 c1 c2 c3 f1 f2 f3
  go_loopg [3] (s.size - pos) (fun m x wr => ∃ (iv : Value) (q : Nat) (acc : List UInt8), iv = x ∧ s.size - q ≤ m ∧ TRel base w wr R s pos ov (L ++ [(v, ts)]) tight iv q acc)
  case atStart => exact ⟨.slice none 0 0, pos + 1, [], rfl, by omega, by omega, by omega, by rw [Nat.sub_self, TX.pre_nil], World.ownsRow_nil _ _ _ _, H.out.setPos (pos + 1), below_setR (Below.refl _ _) hbR _, by simp, Nat.zero_le _⟩
  case round =>
    obtain ⟨iv, q, acc, hiv, hm, hT⟩ := hrel
    subst hiv
    obtain ⟨c0, c1, c2, c3, f1, f2, f3⟩ := hT.scan.cells
    have HT := Lib.hid hT
    have hq0 := hT.lt
    have hq1 := hT.le
    have hn := hT.len
    have hsz := hT.size
    have hRlt := lt_of_block hT.scan.blk
    have HO : Hid (∀ W, Below wr.heap.size wr W → W.ownsRow w.heap.size 5 1 iv acc.length (bytesV acc)) := Lib.hid fun W hB => own_same HT.out.own fun k hk => hB.block k (HT.out.own.lt k hk).2
    have hq2 : (0 : Int) ≤ (q : Int) := by omega
    clear hT c2 c3 f2 f3
    by_cases hlt : q < s.size
    · have hd : decide (q < s.size) = true := by simpa using hlt
      have hq3 : (q : Int) < (s.size : Int) := by omega
      have HD := Lib.hid (drop_byte hlt)
      by_cases b34 : s[q].toNat = 34
      · have g34 : ((s[q].toNat : Int) == 34) = true := by simp; omega
        have HTX : Hid (txtL (s.data.toList.drop q) = .done [] 1) := Lib.hid (by rw [HD.out, txtL_cons, if_pos b34])
        have hcv := conv_row HT.out.own
        have HA := Lib.hid fun n => addText_any base (wr.drewN n) R s q ov L v ts tight ⟨acc.toArray⟩ (HT.out.scan.drewN n) hlt hs hlen
        clear b34
        unfold TextEnd at HA
        by_cases hd : 2000 < (⟨acc.toArray⟩ : ByteArray).size
        · simp only [if_pos hd] at HA
          have HDD := Lib.hid hd
          clear hd
          go_wp2_with fail
          go_quiet (fail)
          go_wp2_with fail
          go_quiet (fail)
          go_wp2_with (go_at_call 145; refine (HA.out _).mono ?_; rintro e w4 ⟨rfl, hB4⟩; have HB4 := Lib.hid hB4; clear hB4)
          go_ret
          exact HT.out.fin HTX.out (by unfold TextEnd; rw [if_pos HDD.out]; exact ⟨rfl, (below_drewN HT.out.below _).trans HB4.out⟩)
        · simp only [if_neg hd] at HA
          have HDD := Lib.hid hd
          clear hd
          go_wp2_with fail
          go_quiet (fail)
          go_wp2_with fail
          go_quiet (fail)
          go_wp2_with (go_at_call 145; refine (HA.out _).mono ?_; rintro e w4 ⟨rfl, hB4, hS4⟩; have HB4 := Lib.hid hB4; have HS4 := Lib.hid hS4; clear hB4 hS4)
          go_ret
          exact HT.out.fin HTX.out (by unfold TextEnd; rw [if_neg HDD.out]; exact ⟨rfl, (below_drewN HT.out.below _).trans HB4.out, HS4.out⟩)
      · have g34 : ((s[q].toNat : Int) == 34) = false := by simp; omega
        by_cases b92 : s[q].toNat = 92
        · have g92 : ((s[q].toNat : Int) == 92) = true := by simp; omega
          have HS1 := Lib.hid (HT.out.scan.setPos (q + 1))
          obtain ⟨m0, m1, m2, m3, x1, x2, x3⟩ := HS1.out.cells
          clear m2 m3 x2 x3
          have hq5 : (0 : Int) ≤ (q : Int) + 1 := by omega
          by_cases hend : q + 1 = s.size
          · have HTX : Hid (txtL (s.data.toList.drop q) = .err 12) := Lib.hid (by
              rw [HD.out, txtL_cons, if_neg b34, if_pos b92, List.drop_of_length_le (by simp; omega)])
            have g1 : ((q : Int) + 1 == (s.size : Int)) = true := by simp; omega
            clear b34 b92 hend
            go_wp2_with fail
            go_quiet (fail)
            go_wp2_with fail
            go_quiet (fail)
            go_wp2_with fail
            go_quiet (fail)
            go_wp2_with fail
            go_ret
            exact HT.out.err HTX.out (below_drewN (below_setR (below_drewN (Below.refl _ _) _) hbR _) _)
          · have hlt2 : q + 1 < s.size := by omega
            have g1 : ((q : Int) + 1 == (s.size : Int)) = false := by simp; omega
            have hq6 : (q : Int) + 1 < (s.size : Int) := by omega
            have HU := unescape_any (s[q + 1].toNat : Int)
            cases hu : unOk (s[q + 1].toNat : Int) with
            | false =>
              have HTX : Hid (txtL (s.data.toList.drop q) = .err 4) := Lib.hid (by
                rw [HD.out, txtL_cons, if_neg b34, if_pos b92, drop_byte hlt2]; simp only [hu]; rfl)
              rw [hu] at HU
              have HUU := Lib.hid HU
              clear b34 b92 hend HU hu
              go_wp2_with fail
              go_quiet (fail)
              go_wp2_with fail
              go_quiet (fail)
              go_wp2_with fail
              go_quiet (fail)
              go_wp2_with fail
              go_quiet ((go_at_call 146; exact (HUU.out _).mono fun _ _ ⟨he, hw⟩ => ⟨he, _, hw.symm⟩))
              go_wp2_with fail
              go_ret
              exact HT.out.err HTX.out (below_drewN (below_setR (below_drewN (Below.refl _ _) _) hbR _) _)
            | true =>
              have HTX : Hid (txtL (s.data.toList.drop q) = (txtL (s.data.toList.drop (q + 2))).pre [unB s[q + 1]] 2) := Lib.hid (by
                rw [HD.out, txtL_cons, if_neg b34, if_pos b92, drop_byte hlt2]; simp only [hu]; rfl)
              rw [hu, unV_eq _ hu] at HU
              have HUU := Lib.hid HU
              have HO2 : Hid (∀ n W, Below wr.heap.size ((wr.drewN n).setCell ⟨R, 1, none⟩ (.int .i64 ((q : Int) + 1))) W → W.ownsRow w.heap.size 5 1 iv acc.length (bytesV acc)) :=
                Lib.hid fun n W hB => own_same HT.out.own fun k hk => (hB.block k (HT.out.own.lt k hk).2).trans (Below.heap_setCell (wr.drewN n) _ _ _ (by have := (HT.out.own.lt k hk).1; show k ≠ R; omega))
              clear b34 b92 hend HU hu
              go_wp2_with fail
              go_quiet (fail)
              go_wp2_with fail
              go_quiet (fail)
              go_wp2_with fail
              go_quiet (fail)
              go_wp2_with fail
              go_quiet ((go_at_call 146; exact (HUU.out _).mono fun _ _ ⟨he, hw⟩ => ⟨he, _, hw.symm⟩))
              go_wp2_with (at_builtin; refine wpList_append_lies _ rfl _ _ _ rfl w.heap.size 5 i0 _ 1 1 Tryz.underlying46 hi0 hz0 hz1 hz2 rfl (by omega) iv acc.length (bytesV acc) (by rfl) (HO2.out _ _ ((below_drewN (Below.refl _ _) _).alloc (by simp) _)) ⟨wr.heap.size, 0, none⟩ 1 1 [.int .u8 ((unB s[q + 1]).toNat : Int)] (by rfl) (by rfl) (World.news_of_block (cs := #[.int .u8 ((unB s[q + 1]).toNat : Int)]) (t := 5) (fr := (0, 0)) (heap_new_set (wr.drewN _) _ _ _)) (by simp [Value.oneCell']) (by omega) (by unfold maxLen; omega) (by omega) (by simp; omega) (wr.heap.size + 1) (by simp) ?_; intro gg cap1 w1 hown1 hgrow hat hlt1; have HM := Lib.hid (HT.out.mid HLow.out (((HT.out.scan.drewN _).setPos (q + 1)).below (bel_dA _ _ _)) hgrow (by simp; omega)); have HN := Lib.hid (HT.out.next (k := 2) hbw hRw (by omega) (by omega) HTX.out HM.out ((below_drewN (below_setR (below_drewN (Below.refl _ _) _) hbR _) _).alloc (by simp; omega) _) (by simp; omega) hown1); obtain ⟨k0, k1, k2, k3, e1, e2, e3⟩ := HM.out.1.cells; clear hown1 hgrow hat hlt1)
              go_roundg (s.size - (q + 2))
              case measure => omega
              case rel => exact ⟨_, q + 2, acc ++ [unB s[q + 1]], rfl, by omega, HN.out⟩
        · have g92 : ((s[q].toNat : Int) == 92) = false := by simp; omega
          have HP := plain_ok (s[q].toNat : Int)
          by_cases b32 : s[q].toNat = 32
          · have HTX : Hid (txtL (s.data.toList.drop q) = (txtL (s.data.toList.drop (q + 1))).pre [s[q]] 1) := Lib.hid (by rw [HD.out, txtL_cons, if_neg b34, if_neg b92, if_pos (.inl b32)])
            have g32 : ((s[q].toNat : Int) == 32) = true := by simp; omega
            clear b34 b92 b32 HP
            go_wp2_with fail
            go_quiet (fail)
            go_wp2_with fail
            go_quiet (fail)
            go_wp2_with (at_builtin; refine wpList_append_lies _ rfl _ _ _ rfl w.heap.size 5 i0 _ 1 1 Tryz.underlying46 hi0 hz0 hz1 hz2 rfl (by omega) iv acc.length (bytesV acc) (by rfl) (HO.out _ (by first | exact (below_drewN (bel1 _ _) _) | exact (below_drewN (Below.refl _ _) _).alloc (Nat.le_refl _) _)) ⟨wr.heap.size, 0, none⟩ 1 1 [.int .u8 (s[q].toNat : Int)] (by rfl) (by rfl) (World.news_of_block (cs := #[.int .u8 (s[q].toNat : Int)]) (t := 5) (fr := (0, 0)) (heap_alloc_new wr _)) (by simp [Value.oneCell']) (by omega) (by unfold maxLen; omega) (by omega) (by simp; omega) (wr.heap.size + 1) (by simp) ?_; intro gg cap1 w1 hown1 hgrow hat hlt1; have HM := Lib.hid (HT.out.mid HLow.out (HT.out.scan.below (by first | exact (below_drewN (bel1 _ _) _) | exact (below_drewN (Below.refl _ _) _).alloc (Nat.le_refl _) _)) hgrow (by simp; omega)); have HN := Lib.hid (HT.out.next (k := 1) hbw hRw (by omega) (by omega) HTX.out HM.out (by first | exact (below_drewN ((bel1 _ _).mono (by omega)) _) | exact (below_drewN (Below.refl _ _) _).alloc (by simp; omega) _) (by simp; omega) hown1); obtain ⟨k0, k1, k2, k3, e1, e2, e3⟩ := HM.out.1.cells; clear hown1 hgrow hat hlt1)
            go_roundg (s.size - (q + 1))
            case measure => omega
            case rel => exact ⟨_, q + 1, acc ++ [s[q]], rfl, by omega, HN.out⟩
          · have g32 : ((s[q].toNat : Int) == 32) = false := by simp; omega
            cases hp : plainB (s[q].toNat : Int) with
            | true =>
              have HTX : Hid (txtL (s.data.toList.drop q) = (txtL (s.data.toList.drop (q + 1))).pre [s[q]] 1) := Lib.hid (by rw [HD.out, txtL_cons, if_neg b34, if_neg b92, if_pos (.inr hp)])
              rw [hp] at HP
              have HPP := Lib.hid HP
              clear b34 b92 b32 HP hp
              go_wp2_with fail
              go_quiet (fail)
              go_wp2_with fail
              go_quiet (fail)
              go_wp2_with (first
                | (go_at_call 112; refine (HPP.out _).mono ?_; rintro e w2 ⟨rfl, rfl⟩)
                | (at_builtin; refine wpList_append_lies _ rfl _ _ _ rfl w.heap.size 5 i0 _ 1 1 Tryz.underlying46 hi0 hz0 hz1 hz2 rfl (by omega) iv acc.length (bytesV acc) (by rfl) (HO.out _ (by first | exact (below_drewN (bel1 _ _) _) | exact (below_drewN (Below.refl _ _) _).alloc (Nat.le_refl _) _)) ⟨wr.heap.size, 0, none⟩ 1 1 [.int .u8 (s[q].toNat : Int)] (by rfl) (by rfl) (World.news_of_block (cs := #[.int .u8 (s[q].toNat : Int)]) (t := 5) (fr := (0, 0)) (heap_alloc_new wr _)) (by simp [Value.oneCell']) (by omega) (by unfold maxLen; omega) (by omega) (by simp; omega) (wr.heap.size + 1) (by simp) ?_; intro gg cap1 w1 hown1 hgrow hat hlt1; have HM := Lib.hid (HT.out.mid HLow.out (HT.out.scan.below (by first | exact (below_drewN (bel1 _ _) _) | exact (below_drewN (Below.refl _ _) _).alloc (Nat.le_refl _) _)) hgrow (by simp; omega)); have HN := Lib.hid (HT.out.next (k := 1) hbw hRw (by omega) (by omega) HTX.out HM.out (by first | exact (below_drewN ((bel1 _ _).mono (by omega)) _) | exact (below_drewN (Below.refl _ _) _).alloc (by simp; omega) _) (by simp; omega) hown1); obtain ⟨k0, k1, k2, k3, e1, e2, e3⟩ := HM.out.1.cells; clear hown1 hgrow hat hlt1))
              go_roundg (s.size - (q + 1))
              case measure => omega
              case rel => exact ⟨_, q + 1, acc ++ [s[q]], rfl, by omega, HN.out⟩
            | false =>
              have HTX : Hid (txtL (s.data.toList.drop q) = .err 4) := Lib.hid (by rw [HD.out, txtL_cons, if_neg b34, if_neg b92, if_neg (by rw [hp]; simp; exact b32)])
              rw [hp] at HP
              have HPP := Lib.hid HP
              clear b34 b92 b32 HP hp
              go_wp2_with fail
              go_quiet (fail)
              go_wp2_with fail
              go_quiet (fail)
              go_wp2_with (go_at_call 112; refine (HPP.out _).mono ?_; rintro e w2 ⟨rfl, rfl⟩)
              go_ret
              exact HT.out.err HTX.out (below_drewN (Below.refl _ _) _)
    · have hd : decide (q < s.size) = false := by simpa using hlt
      have HTX : Hid (txtL (s.data.toList.drop q) = .err 12) := Lib.hid (by rw [List.drop_of_length_le (by simp; omega)]; rfl)
      go_wp2_with fail
      go_quiet (fail)
      go_wp2_with fail
      go_ret
      exact HT.out.err HTX.out (below_drewN (Below.refl _ _) _)
end Go.Proofs.YtedabholcldgbaaGreatDoor
