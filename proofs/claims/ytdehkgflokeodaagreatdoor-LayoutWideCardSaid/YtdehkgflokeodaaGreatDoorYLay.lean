/- layout's sheet: lay. -/
import Derived.Test.YtdehkgflokeodaaGreatDoorYSheetL
import Derived.Test.YtdehkgflokeodaaGreatDoorYSpare
import Derived.Deep.QuietTactic
import Derived.BigQuiet
namespace Go.Proofs.YtdehkgflokeodaaGreatDoor.Y
open Go.RowKit Go.Deep

theorem Sh.drewN {w0 w : World} {S : Nat} {ov : Value} {wd : Nat} {l : List UInt8} (h : Sh w0 w S ov wd l) (n : Nat) : Sh w0 (w.drewN n) S ov wd l := h.next ⟨rfl, rfl, rfl, Nat.le_refl _, fun _ _ => rfl⟩
theorem below_drewN' {B : Nat} {w W : World} (h : Below B w W) (n : Nat) : Below B w (W.drewN n) := h.trans ⟨rfl, rfl, rfl, Nat.le_refl _, fun _ _ => rfl⟩
/-- The loop over the Kids behind the front. -/
structure LayRel (w0 w wr : World) (S : Nat) (ov : Value) (wd : Nat) (l R : List UInt8) (t : T) (fr inn k j : Nat) (d : List UInt8) : Prop where
  le : fr + j ≤ t.ks.length
  eq : R = d ++ (linL ((t.ks.map T.form).drop (fr + j)) fr (fr + j) inn wd k ++ [41])
  sh : Sh w0 wr S ov wd (l ++ d)
  kept : Kept S w wr
  box : Box4 wr w.heap.size t
theorem LayRel.dlen {w0 w wr : World} {S : Nat} {ov : Value} {wd : Nat} {l R : List UInt8} {t : T} {fr inn k j : Nat} {d : List UInt8} (h : LayRel w0 w wr S ov wd l R t fr inn k j d) : d.length ≤ R.length := by
  have := congrArg List.length h.eq
  rw [List.length_append] at this
  omega
/-- What the next Kid takes. -/
theorem LayRel.room {w0 w wr : World} {S : Nat} {ov : Value} {wd : Nat} {l R : List UInt8} {t : T} {fr inn k j : Nat} {d : List UInt8} (h : LayRel w0 w wr S ov wd l R t fr inn k j d) (hj : fr + j < t.ks.length) :
    d.length + ((if 0 < fr + j then 10 :: blk inn else []).length + (linF t.ks[fr + j].form inn wd (if fr + j + 1 = t.ks.length then k + 1 else 0)).length) ≤ R.length := by
  have := congrArg List.length h.eq
  rw [linL_next (by simpa using hj) (by omega)] at this
  simp only [List.length_append, List.getElem_map, List.length_map] at this
  omega
theorem LayRel.next {w0 w wr w2 : World} {S : Nat} {ov ov2 : Value} {wd : Nat} {l R : List UInt8} {t : T} {fr inn k j : Nat} {d : List UInt8} (h : LayRel w0 w wr S ov wd l R t fr inn k j d) (hj : fr + j < t.ks.length) (hw : w.heap.size ≠ S) (hk : Kept S wr w2)
    (x : List UInt8) (hx : x = (if 0 < fr + j then 10 :: blk inn else []) ++ linF t.ks[fr + j].form inn wd (if fr + j + 1 = t.ks.length then k + 1 else 0)) (hs : Sh w0 w2 S ov2 wd (l ++ d ++ x)) : LayRel w0 w w2 S ov2 wd l R t fr inn k (j + 1) (d ++ x) := by
  refine ⟨by omega, ?_, by rw [← List.append_assoc]; exact hs, h.kept.trans hk, hk.box h.box hw⟩
  rw [h.eq, linL_next (by simpa using hj) (by omega), hx]
  simp [Nat.add_assoc]
theorem LayRel.fin {w0 w wr : World} {S : Nat} {ov : Value} {wd : Nat} {l R : List UInt8} {t : T} {fr inn k j : Nat} {d : List UInt8} (h : LayRel w0 w wr S ov wd l R t fr inn k j d) (hj : t.ks.length ≤ fr + j) : l ++ d ++ [41] = l ++ R := by
  rw [h.eq, linL_end (by simpa using hj)]
  simp
/-- The first line. -/
theorem lin_go {f : Fm} {c w k : Nat} (hx : ¬ (c + (txF f).length + k ≤ w ∨ f.kd ≠ 3 ∨ f.ks = [])) :
    linF f c w k = (40 :: joinB ((f.ks.take (frN f.ks)).map txF)) ++ (linL (f.ks.drop (frN f.ks + 0)) (frN f.ks) (frN f.ks + 0) (c + indN f.ks) w k ++ [41]) := by
  rw [linF_eq, if_neg hx, linL_skip (frN f.ks) f.ks (frN f.ks) 0 _ _ _ (by omega) (frN_le _).1, Nat.zero_add]
  simp

set_option linter.unusedSimpArgs false in
set_option maxHeartbeats 8000000 in
set_option maxRecDepth 100000 in
theorem lay_any (n : Nat) : ∀ t : T, SizeOf.sizeOf t < n → ∀ (c k wd : Nat) (w0 w : World) (S : Nat) (ov : Value) (l : List UInt8), Sh w0 w S ov wd l → In w0 t → validF t.form = true → Tab w0.heap.size w0 →
    c + 2 * dpF t.form ≤ 400 → wd ≤ 200 → k + dpF t.form ≤ 1000 → l.length + (linF t.form c wd k).length ≤ 200000000 →
    Calls Tryz.prog 72 #[.pointer (some ⟨S, 0, none⟩), t.val, .int .i64 c, .int .i64 k] w fun e w' => Wrote w0 w w' S wd l (linF t.form c wd k) e := by
  induction n with
  | zero => intro t h; omega
  | succ n ih =>
    intro t hn c k wd w0 w S ov l h hin hv htab hc hwd hk hlen
    have hvp := valid_parts hv
    have n1 := Nat.le_trans hin.ok.le hin.ok.cp
    have n2 := hin.ok.le
    have n3 := hin.ok.cp
    unfold maxLen at n1 n3
    obtain ⟨R, hR⟩ : ∃ R, linF t.form c wd k = R := ⟨_, rfl⟩
    have hsl : (txF t.form).length ≤ 80200000 := by have := txF_len hvp.2.2; omega
    have cc0 : (0 : Int) ≤ (c : Int) := by omega
    have cc1 : (c : Int) ≤ 400 := by omega
    have cc2 : (wd : Int) ≤ 200 := by omega
    have cc3 : (k : Int) ≤ 1000 := by omega
    have hSw := lt_of_block h.blk
    have hxb := heap_alloc_new w (.cells #[.int .i64 t.kd, .int .i64 t.nn, .string t.tx, .slice t.ad t.ks.length t.cp] 29)
    have HBX : Hid (Box4 (w.alloc (.cells #[.int .i64 t.kd, .int .i64 t.nn, .string t.tx, .slice t.ad t.ks.length t.cp] 29)) w.heap.size t) := Lib.hid hxb
    have HB0 : Hid (Below w.heap.size w (w.alloc (.cells #[.int .i64 t.kd, .int .i64 t.nn, .string t.tx, .slice t.ad t.ks.length t.cp] 29))) := Lib.hid (bel1 _ _)
    have HS0 : Hid (Sh w0 (w.alloc (.cells #[.int .i64 t.kd, .int .i64 t.nn, .string t.tx, .slice t.ad t.ks.length t.cp] 29)) S ov wd l) := Lib.hid (h.alloc _)
    have HWR : Hid (∀ W, Sh w0 W S ov wd l → Calls Tryz.prog 101 #[.pointer (some ⟨S, 0, none⟩), t.val] W fun e w' => Wrote w0 W w' S wd l (txF t.form) e) := Lib.hid fun W hs =>
      write_any t w0 W S ov wd l hs (hin.below hs.below) hv (Tab.mono (htab.on hs.below) hs.below.size) (by omega)
    by_cases he : t.ks = []
    · have hRt : txF t.form = R := by rw [← hR, linF_eq, if_pos (.inr (.inr (by rw [T.form_ks, he]; rfl)))]
      have HRT := Lib.hid hRt
      have hl0 : t.ks.length = 0 := by rw [he]; rfl
      have hval : t.val = .agg #[.int .i64 t.kd, .int .i64 t.nn, .string t.tx, .slice t.ad 0 t.cp] := by rw [← hl0, T.val]
      rw [hR]
      have hbc := HBX.out.cells
      rw [hl0] at hbc
      rw [hl0] at HB0 HS0
      have HBC := Lib.hid hbc
      rw [hval] at HWR
      rw [hval]
      have hsc := HS0.out.cells
      clear ih hR he hl0 hval hRt hxb hin hv htab hvp h HBX hbc
      go_enter Tryz.func72, Tryz.ntmps72
      go_wp2_with fail
      go_quiet (fail)
      go_wp2_with (go_at_call 101; (with_reducible refine (HWR.out _ (HS0.out.drewN _)).mono ?_); rintro e w2 ⟨rfl, ov2, hs2, hk2⟩; have HS2 := Lib.hid hs2; have HK2 := Lib.hid hk2; clear hs2 hk2)
      refine bodyPost_ret (results_none (by rfl) _ _ _) rfl ?_
      exact ⟨rfl, ov2, by rw [← HRT.out]; exact HS2.out, (Kept.of (below_drewN' HB0.out _)).trans HK2.out⟩
    · have hpos : 0 < t.ks.length := List.length_pos_iff.2 he
      have hfne : t.form.ks ≠ [] := by rw [T.form_ks]; intro e; exact he (List.map_eq_nil_iff.1 e)
      have hkd : t.kd = 3 := by
        have := (txF_list hvp.2.2 hfne).1
        rwa [T.form_kd] at this
      have hwS : w.heap.size ≠ S := by omega
      obtain ⟨a, ha⟩ : ∃ a, t.ad = a := ⟨_, rfl⟩
      have HK : Hid (∀ W, Below w0.heap.size w0 W → InL W a 0 t.ks) := Lib.hid fun W h => by rw [← ha]; exact (hin.below h).inL
      obtain ⟨b, o, rfl⟩ : ∃ b o, a = some ⟨b, o, none⟩ := by
        obtain ⟨⟨b, o, e, _⟩, _⟩ := (HK.out w0 (Below.refl _ _)).at 0 hpos
        exact ⟨b, o, e⟩
      have HKC : Hid (∀ W, Below w0.heap.size w0 W → ∀ i (h : i < t.ks.length), Cells4 W b (o + i * 4) t.ks[i] ∧ b < W.heap.size) := Lib.hid fun W hB i h => by
        obtain ⟨⟨b', o', e, hc⟩, _⟩ := (HK.out W hB).at i h
        injection e with e
        injection e with e1 e2 e3
        subst e1 e2
        exact ⟨hc, World.block_lt_of_cell? _ _ hc.1⟩
      have HAD := Lib.hid ha
      have HSP : Hid (Calls Tryz.prog 100 #[t.val, .int .i64 ((wd : Int) - (c : Int) - (k : Int))] (w.alloc (.cells #[.int .i64 t.kd, .int .i64 t.nn, .string t.tx, .slice t.ad t.ks.length t.cp] 29)).drew fun e w' => e = .returned (.int .i64 (spF t.form ((wd : Int) - (c : Int) - (k : Int)))) ∧ Below (w.alloc (.cells #[.int .i64 t.kd, .int .i64 t.nn, .string t.tx, .slice t.ad t.ks.length t.cp] 29)).drew.heap.size (w.alloc (.cells #[.int .i64 t.kd, .int .i64 t.nn, .string t.tx, .slice t.ad t.ks.length t.cp] 29)).drew w') :=
        Lib.hid (spare_any _ t (Nat.lt_succ_self _) _ _ (hin.below HS0.out.drew.below) hv (by omega) (by omega) (Tab.mono (htab.on HS0.out.drew.below) HS0.out.drew.below.size))
      have hroom0 := sp_room hvp.2.2 ((wd : Int) - (c : Int) - (k : Int))
      have hval : t.val = .agg #[.int .i64 t.kd, .int .i64 t.nn, .string t.tx, .slice (some ⟨b, o, none⟩) t.ks.length t.cp] := by rw [← ha, T.val]
      have b0 : ((t.ks.length : Int) == 0) = false := by simp; exact he
      have wr1 : IntKind.i64.wrap ((wd : Int) - (c : Int)) = (wd : Int) - (c : Int) := by rw [IntKind.wrap_i64]; omega
      have wr2 : IntKind.i64.wrap ((wd : Int) - (c : Int) - (k : Int)) = (wd : Int) - (c : Int) - (k : Int) := by rw [IntKind.wrap_i64]; omega
      have hX := HBX.out.cells
      have hXN : ∀ w2, Below (w.alloc (.cells #[.int .i64 t.kd, .int .i64 t.nn, .string t.tx, .slice t.ad t.ks.length t.cp] 29)).drew.heap.size (w.alloc (.cells #[.int .i64 t.kd, .int .i64 t.nn, .string t.tx, .slice t.ad t.ks.length t.cp] 29)).drew w2 → Box4 w2 w.heap.size t := fun w2 hB => (hB.block _ (lt_of_block HBX.out)).trans HBX.out
      have hXC : ∀ w2, Box4 w2 w.heap.size t → w2.cell? ⟨w.heap.size, 0, none⟩ = some (.int .i64 t.kd) ∧ w2.cell? ⟨w.heap.size, 1, none⟩ = some (.int .i64 t.nn) ∧ w2.cell? ⟨w.heap.size, 2, none⟩ = some (.string t.tx) ∧ w2.cell? ⟨w.heap.size, 3, none⟩ = some (.slice (some ⟨b, o, none⟩) t.ks.length t.cp) := fun w2 hb => box_cells hb ha
      rw [ha] at HSP hX hXN HB0 HS0 HBX
      rw [hval] at HSP HWR
      rw [hval]
      have HX : Hid ((w.alloc (.cells #[.int .i64 t.kd, .int .i64 t.nn, .string t.tx, .slice (some ⟨b, o, none⟩) t.ks.length t.cp] 29)).drew.cell? ⟨w.heap.size, 0, none⟩ = some (.int .i64 t.kd) ∧ (w.alloc (.cells #[.int .i64 t.kd, .int .i64 t.nn, .string t.tx, .slice (some ⟨b, o, none⟩) t.ks.length t.cp] 29)).drew.cell? ⟨w.heap.size, 1, none⟩ = some (.int .i64 t.nn) ∧ (w.alloc (.cells #[.int .i64 t.kd, .int .i64 t.nn, .string t.tx, .slice (some ⟨b, o, none⟩) t.ks.length t.cp] 29)).drew.cell? ⟨w.heap.size, 2, none⟩ = some (.string t.tx) ∧ (w.alloc (.cells #[.int .i64 t.kd, .int .i64 t.nn, .string t.tx, .slice (some ⟨b, o, none⟩) t.ks.length t.cp] 29)).drew.cell? ⟨w.heap.size, 3, none⟩ = some (.slice (some ⟨b, o, none⟩) t.ks.length t.cp)) := Lib.hid hX
      have HXN := Lib.hid (fun w2 hB => hXC w2 (hXN w2 hB))
      have HXB := Lib.hid hXN
      clear hX hXN hXC h hxb HBX ha
      rw [hR]
      by_cases hfit : 0 ≤ spF t.form ((wd : Int) - (c : Int) - (k : Int))
      · have HRT : Hid (txF t.form = R) := Lib.hid (by rw [← hR, linF_eq, if_pos (.inl (by have := hroom0.1 hfit; omega))])
        obtain ⟨sp, hsp⟩ : ∃ sp, spF t.form ((wd : Int) - (c : Int) - (k : Int)) = sp := ⟨_, rfl⟩
        rw [hsp] at HSP hfit
        clear ih hR he hval hin hv hvp htab hroom0 hsp hfne HK hkd
        go_enter Tryz.func72, Tryz.ntmps72
        go_wp2_with fail
        go_region_held3 (fun w' => w'.cell? ⟨w.heap.size, 0, none⟩ = some (.int .i64 t.kd) ∧ w'.cell? ⟨w.heap.size, 1, none⟩ = some (.int .i64 t.nn) ∧ w'.cell? ⟨w.heap.size, 2, none⟩ = some (.string t.tx) ∧ w'.cell? ⟨w.heap.size, 3, none⟩ = some (.slice (some ⟨b, o, none⟩) t.ks.length t.cp) ∧ w'.cell? ⟨S, 1, none⟩ = some (.int .i64 wd))
          (first
            | exact ⟨HX.out.1, HX.out.2.1, HX.out.2.2.1, HX.out.2.2.2, HS0.out.drew.cells.2.1⟩
            | exact ⟨HX2.out.1, HX2.out.2.1, HX2.out.2.2.1, HX2.out.2.2.2, HS2.out.cells.2.1⟩)
          (first
            | (go_at_call 100; (with_reducible refine HSP.out.mono ?_); rintro e w2 ⟨rfl, hB⟩; have HX2 := Lib.hid (HXN.out _ hB); have HX2B := Lib.hid (HXB.out _ hB); have HS2 := Lib.hid (HS0.out.drew.next hB); have HB2 := Lib.hid hB; clear hB))
        go_wp2_with (go_at_call 101; (with_reducible refine (HWR.out _ HS2.out).mono ?_); rintro e w3 ⟨rfl, ov3, hs3, hk3⟩; have HS3 := Lib.hid hs3; have HK3 := Lib.hid hk3; clear hs3 hk3)
        refine bodyPost_ret (results_none (by rfl) _ _ _) rfl ?_
        exact ⟨rfl, ov3, by rw [← HRT.out]; exact HS3.out, ((Kept.of HB0.out.drew).below HB2.out).trans HK3.out⟩
      · have hx0 : ¬ (c + (txF t.form).length + k ≤ wd ∨ t.form.kd ≠ 3 ∨ t.form.ks = []) := by
          intro h
          rcases h with h | h | h
          · exact hfit (hroom0.2 (by omega))
          · rw [T.form_kd] at h; exact h hkd
          · exact hfne h
        obtain ⟨fr, hfr⟩ : ∃ fr, frN t.form.ks = fr := ⟨_, rfl⟩
        have hf1 : fr ≤ t.ks.length := by have := (frN_le t.form.ks).1; rw [hfr, T.form_ks, List.length_map] at this; exact this
        have hf2 : fr ≤ 2 := by have := (frN_le t.form.ks).2; rwa [hfr] at this
        have hf3 : (fr : Int) ≤ (t.ks.length : Int) := by omega
        have hf4 : (fr : Int) ≤ (t.cp : Int) := by omega
        have hf5 : (0 : Int) ≤ (fr : Int) := by omega
        have hf6 : fr ≤ t.cp := by omega
        have hf7 : (t.ks.length : Int) ≤ (t.cp : Int) := by omega
        have HFK : Hid (∀ W, Below w0.heap.size w0 W → Calls Tryz.prog 102 #[t.val] W fun e w' => e = .returned (.int .i64 fr) ∧ Below W.heap.size W w') := Lib.hid fun W hB => by
          have := frontKids_any t W (hin.below hB) hv hkd he
          rwa [hfr] at this
        have HLF : Hid (∀ W ov2, Sh w0 W S ov2 wd l → Calls Tryz.prog 103 #[.pointer (some ⟨S, 0, none⟩), .slice (some ⟨b, o, none⟩) fr t.cp] W fun e w' => Wrote w0 W w' S wd l (40 :: joinB ((t.form.ks.take fr).map txF)) e) := Lib.hid fun W ov2 hs => by
          have e1 : (t.ks.take fr).length = fr := by rw [List.length_take]; omega
          have e2 : (t.ks.take fr).map (fun x => txF x.form) = (t.form.ks.take fr).map txF := by rw [T.form_ks, ← List.map_take, List.map_map]; rfl
          have := layFront_any (t.ks.take fr) b o t.cp (by omega) w0 W S ov2 wd l hs (fun W hB i h => by
              have := HKC.out W hB i (by omega)
              rwa [List.getElem_take]) (fun x hx => ⟨by
                obtain ⟨i, hi, e⟩ := List.getElem_of_mem (List.mem_of_mem_take hx)
                rw [← e]; exact hin.kid i hi, (valid_kid hv (by rw [T.form_kd]; exact hkd) (by rw [T.form_ks]; exact List.mem_map_of_mem (List.mem_of_mem_take hx))).1⟩) htab (by omega)
          rw [e1, e2] at this
          exact this
        have HIH : Hid (∀ x ∈ t.ks, ∀ (u v : Int) (inn kk : Nat) W ov2 l2, u = (inn : Int) → v = (kk : Int) → inn = c + indN t.form.ks → kk ≤ k + 1 → Sh w0 W S ov2 wd l2 → l2.length + (linF x.form inn wd kk).length ≤ 200000000 → Calls Tryz.prog 72 #[.pointer (some ⟨S, 0, none⟩), x.val, .int .i64 u, .int .i64 v] W fun e w' => Wrote w0 W w' S wd l2 (linF x.form inn wd kk) e) :=
          Lib.hid fun x hx u v inn kk W ov2 l2 eu ev ei hkk hs hl => by
            subst eu ev ei
            obtain ⟨i, hi, e⟩ := List.getElem_of_mem hx
            have hq := valid_kid hv (by rw [T.form_kd]; exact hkd) (by rw [T.form_ks]; exact List.mem_map_of_mem hx : x.form ∈ t.form.ks)
            have hind : indN t.form.ks ≤ 2 := by unfold indN; split <;> omega
            exact ih x (by have := T.kid_lt hx; omega) _ kk wd w0 W S ov2 l2 hs (by rw [← e]; exact hin.kid i hi) hq.1 htab (by omega) hwd (by omega) hl
        obtain ⟨sp, hsp⟩ : ∃ sp, spF t.form ((wd : Int) - (c : Int) - (k : Int)) = sp := ⟨_, rfl⟩
        rw [hsp] at HSP hfit
        rw [hR] at hlen
        rw [hval] at HFK
        clear htab hroom0 hsp hfne HK hkd
        by_cases hf0 : fr = 0
        · have hind : indN t.form.ks = 1 := by unfold indN; rw [hfr, if_pos hf0]
          have g9 : ¬ (0 : Int) < (fr : Int) := by omega
          have g9d : decide (0 < fr) = false := by simp; omega
          rw [hind] at HIH
          clear hf0
          have HST : Hid (∀ wr ov2, Sh w0 wr S ov2 wd (l ++ (40 :: joinB ((t.form.ks.take fr).map txF))) → Kept S w wr → Box4 wr w.heap.size t → LayRel w0 w wr S ov2 wd l R t fr (c + 1) k 0 (40 :: joinB ((t.form.ks.take fr).map txF))) := Lib.hid fun wr ov2 hs hk hb => ⟨by omega, by rw [← hR, lin_go hx0, hfr, hind, T.form_ks], hs, hk, hb⟩
          clear ih hR he hv hvp hx0 hfr hind hin hval
          go_enter Tryz.func72, Tryz.ntmps72
          go_wp2_with fail
          go_region_held3 (fun w' => w'.cell? ⟨w.heap.size, 0, none⟩ = some (.int .i64 t.kd) ∧ w'.cell? ⟨w.heap.size, 1, none⟩ = some (.int .i64 t.nn) ∧ w'.cell? ⟨w.heap.size, 2, none⟩ = some (.string t.tx) ∧ w'.cell? ⟨w.heap.size, 3, none⟩ = some (.slice (some ⟨b, o, none⟩) t.ks.length t.cp) ∧ w'.cell? ⟨S, 1, none⟩ = some (.int .i64 wd))
            (first
              | exact ⟨HX.out.1, HX.out.2.1, HX.out.2.2.1, HX.out.2.2.2, HS0.out.drew.cells.2.1⟩
              | exact ⟨HX2.out.1, HX2.out.2.1, HX2.out.2.2.1, HX2.out.2.2.2, HS2.out.cells.2.1⟩)
            (first
              | (go_at_call 100; (with_reducible refine HSP.out.mono ?_); rintro e w2 ⟨rfl, hB⟩; have HX2 := Lib.hid (HXN.out _ hB); have HX2B := Lib.hid (HXB.out _ hB); have HS2 := Lib.hid (HS0.out.drew.next hB); have HB2 := Lib.hid hB; clear hB))
          go_wp2_with (first
            | (go_at_call 102; (with_reducible refine (HFK.out _ HS2.out.below).mono ?_); rintro e w3 ⟨rfl, hB⟩; obtain ⟨c0, c1, c2, c3⟩ := box_cells ((hB.block _ (lt_of_block HX2B.out)).trans HX2B.out) HAD.out; have HX3B : Hid (Box4 _ w.heap.size t) := Lib.hid ((hB.block _ (lt_of_block HX2B.out)).trans HX2B.out); have HS3 := Lib.hid (HS2.out.next hB); have HB3 := Lib.hid hB; clear hB)
            | (go_at_call 103; (with_reducible refine (HLF.out _ _ HS3.out).mono ?_); rintro e w4 ⟨rfl, ov4, hs4, hk4⟩; obtain ⟨c0, c1, c2, c3⟩ := box_cells (hk4.box HX3B.out hwS) HAD.out; have HS4 := Lib.hid hs4; have HK4 := Lib.hid hk4; clear hs4 hk4))
          go_loopg [52] (t.ks.length - fr) (fun m i wr => ∃ (j : Nat) (ov' : Value) (d : List UInt8), m = t.ks.length - fr - j ∧ i = .int .i64 j ∧ LayRel w0 w wr S ov' wd l R t fr (c + 1) k j d)
          case atStart => exact ⟨0, ov4, _, rfl, rfl, HST.out _ _ HS4.out (((Kept.of HB0.out.drew).below (up HB2.out HB3.out)).trans HK4.out) (HK4.out.box HX3B.out hwS)⟩
          case round =>
            obtain ⟨j, ov', d, rfl, rfl, hrl⟩ := hrel
            have hle := hrl.le
            have hdl := hrl.dlen
            have hsS := lt_of_block hrl.sh.blk
            have lbt : w.heap.size < wr.heap.size := lt_of_block hrl.box
            obtain ⟨c0, c1, c2, c3⟩ := box_cells hrl.box HAD.out
            have HRL := Lib.hid hrl
            by_cases hlt : fr + j < t.ks.length
            · have hroom := hrl.room hlt
              obtain ⟨⟨x0, x1, x2, x3⟩, lb⟩ := HKC.out wr hrl.sh.below (fr + j) hlt
              rw [Nat.add_mul, ← Nat.add_assoc] at x0 x1 x2 x3
              have gi : (j : Int) < (t.ks.length : Int) - (fr : Int) := by omega
              have gi2 : (0 : Int) ≤ (j : Int) := by omega
              have gi3 : j < t.ks.length - fr := by omega
              have hxm := List.getElem_mem hlt
              obtain ⟨x, hx⟩ : ∃ x, t.ks[fr + j] = x := ⟨_, rfl⟩
              rw [hx] at x0 x1 x2 x3 hxm hroom
              have HA := Lib.hid (hrl.sh.alloc (.cells #[.int .i64 x.kd, .int .i64 x.nn, .string x.tx, .slice x.ad x.ks.length x.cp] 29))
              have hxb : Box4 (wr.alloc (.cells #[.int .i64 x.kd, .int .i64 x.nn, .string x.tx, .slice x.ad x.ks.length x.cp] 29)) wr.heap.size x := heap_alloc_new wr _
              have HXB := Lib.hid hxb
              have HTB : Hid (Box4 (wr.alloc (.cells #[.int .i64 x.kd, .int .i64 x.nn, .string x.tx, .slice x.ad x.ks.length x.cp] 29)) w.heap.size t) := Lib.hid (((Kept.refl S wr).alloc _).box hrl.box hwS)
              clear hrl hxb
              by_cases hl1 : fr + j + 1 = t.ks.length
              · have g2 : ((fr : Int) + (j : Int) == (t.ks.length : Int) - 1) = true := by simp; omega
                rw [if_pos hl1] at hroom
                by_cases h0 : 0 < fr + j
                · have g0 : (0 : Int) < (fr : Int) + (j : Int) := by omega
                  have HC : Hid (∀ W ov2 l2, Sh w0 W S ov2 wd l2 → l2.length ≤ l.length + d.length + (if 0 < fr + j then 10 :: blk (c + 1) else []).length → Calls Tryz.prog 72 #[.pointer (some ⟨S, 0, none⟩), x.val, .int .i64 ((c : Int) + 1), .int .i64 ((k : Int) + 1)] W fun e w' => Wrote w0 W w' S wd l2 (linF x.form (c + 1) wd (k + 1)) e) := Lib.hid fun W ov2 l2 hs hl => HIH.out x hxm _ _ (c + 1) (k + 1) W ov2 l2 (by simp) (by simp) rfl (Nat.le_refl _) hs (by omega)
                  have HNX : Hid (∀ w2 ov2, Kept S wr w2 → Sh w0 w2 S ov2 wd (l ++ d ++ (10 :: blk (c + 1) ++ linF x.form (c + 1) wd (k + 1))) → LayRel w0 w w2 S ov2 wd l R t fr (c + 1) k (j + 1) (d ++ (10 :: blk (c + 1) ++ linF x.form (c + 1) wd (k + 1)))) := Lib.hid fun w2 ov2 hk hs => HRL.out.next hlt hwS hk _ (by rw [if_pos h0, if_pos hl1, hx]) hs
                  have HSL : Hid (Calls Tryz.prog 104 #[.pointer (some ⟨S, 0, none⟩), .int .i64 ((c : Int) + 1)] (wr.alloc (.cells #[.int .i64 x.kd, .int .i64 x.nn, .string x.tx, .slice x.ad x.ks.length x.cp] 29)) fun e w' => Wrote w0 (wr.alloc (.cells #[.int .i64 x.kd, .int .i64 x.nn, .string x.tx, .slice x.ad x.ks.length x.cp] 29)) w' S wd (l ++ d) (10 :: blk (c + 1)) e) := Lib.hid (by rw [show ((c : Int) + 1) = ((c + 1 : Nat) : Int) by simp]; exact startLine_any (c + 1) (by omega) w0 _ S ov' wd (l ++ d) HA.out (by rw [List.length_append]; omega))
                  have hl2 : (l ++ d).length = l.length + d.length := List.length_append
                  clear hx hroom
                  go_wp2_with (first
                    | (go_at_call 104; (with_reducible refine HSL.out.mono ?_); rintro e w5 ⟨rfl, ov5, hs5, hk5⟩; obtain ⟨c0, c1, c2, c3⟩ := box_cells (hk5.box (HTB.out) hwS) HAD.out; obtain ⟨z0, z1, z2, z3⟩ := (hk5.box HXB.out (by omega)).cells; have HS5 := Lib.hid hs5; have HK5 := Lib.hid hk5; clear hs5 hk5)
                    | (go_at_call 72; (with_reducible refine (HC.out _ _ _ HS5.out (by rw [List.length_append, if_pos h0]; omega)).mono ?_); rintro e w6 ⟨rfl, ov6, hs6, hk6⟩; have HS6 := Lib.hid hs6; have HK6 := Lib.hid hk6; clear hs6 hk6))
                  go_roundg (t.ks.length - fr - (j + 1))
                  case measure => omega
                  case rel => exact ⟨j + 1, ov6, _, rfl, by go_num, HNX.out _ ov6 (((Kept.refl S wr).alloc _).trans (HK5.out.trans HK6.out)) (by have := HS6.out; simpa using this)⟩
                · have g0 : ¬ (0 : Int) < (fr : Int) + (j : Int) := by omega
                  have HC : Hid (∀ W ov2 l2, Sh w0 W S ov2 wd l2 → l2.length ≤ l.length + d.length + (if 0 < fr + j then 10 :: blk (c + 1) else []).length → Calls Tryz.prog 72 #[.pointer (some ⟨S, 0, none⟩), x.val, .int .i64 ((c : Int) + 1), .int .i64 ((k : Int) + 1)] W fun e w' => Wrote w0 W w' S wd l2 (linF x.form (c + 1) wd (k + 1)) e) := Lib.hid fun W ov2 l2 hs hl => HIH.out x hxm _ _ (c + 1) (k + 1) W ov2 l2 (by simp) (by simp) rfl (Nat.le_refl _) hs (by omega)
                  have HNX : Hid (∀ w2 ov2, Kept S wr w2 → Sh w0 w2 S ov2 wd (l ++ d ++ (linF x.form (c + 1) wd (k + 1))) → LayRel w0 w w2 S ov2 wd l R t fr (c + 1) k (j + 1) (d ++ (linF x.form (c + 1) wd (k + 1)))) := Lib.hid fun w2 ov2 hk hs => HRL.out.next hlt hwS hk _ (by rw [if_neg h0, if_pos hl1, hx]; rfl) hs
                  have hl2 : (l ++ d).length = l.length + d.length := List.length_append
                  clear hx hroom
                  go_wp2_with ((go_at_call 72; (with_reducible refine (HC.out _ _ _ HA.out (by rw [if_neg h0]; simp; try omega)).mono ?_); rintro e w6 ⟨rfl, ov6, hs6, hk6⟩; have HS6 := Lib.hid hs6; have HK6 := Lib.hid hk6; clear hs6 hk6))
                  go_roundg (t.ks.length - fr - (j + 1))
                  case measure => omega
                  case rel => exact ⟨j + 1, ov6, _, rfl, by go_num, HNX.out _ ov6 (((Kept.refl S wr).alloc _).trans HK6.out) HS6.out⟩
              · have g2 : ((fr : Int) + (j : Int) == (t.ks.length : Int) - 1) = false := by simp; omega
                rw [if_neg hl1] at hroom
                by_cases h0 : 0 < fr + j
                · have g0 : (0 : Int) < (fr : Int) + (j : Int) := by omega
                  have HC : Hid (∀ W ov2 l2, Sh w0 W S ov2 wd l2 → l2.length ≤ l.length + d.length + (if 0 < fr + j then 10 :: blk (c + 1) else []).length → Calls Tryz.prog 72 #[.pointer (some ⟨S, 0, none⟩), x.val, .int .i64 ((c : Int) + 1), .int .i64 0] W fun e w' => Wrote w0 W w' S wd l2 (linF x.form (c + 1) wd 0) e) := Lib.hid fun W ov2 l2 hs hl => HIH.out x hxm _ _ (c + 1) 0 W ov2 l2 (by simp) (by rfl) rfl (Nat.zero_le _) hs (by omega)
                  have HNX : Hid (∀ w2 ov2, Kept S wr w2 → Sh w0 w2 S ov2 wd (l ++ d ++ (10 :: blk (c + 1) ++ linF x.form (c + 1) wd 0)) → LayRel w0 w w2 S ov2 wd l R t fr (c + 1) k (j + 1) (d ++ (10 :: blk (c + 1) ++ linF x.form (c + 1) wd 0))) := Lib.hid fun w2 ov2 hk hs => HRL.out.next hlt hwS hk _ (by rw [if_pos h0, if_neg hl1, hx]) hs
                  have HSL : Hid (Calls Tryz.prog 104 #[.pointer (some ⟨S, 0, none⟩), .int .i64 ((c : Int) + 1)] (wr.alloc (.cells #[.int .i64 x.kd, .int .i64 x.nn, .string x.tx, .slice x.ad x.ks.length x.cp] 29)) fun e w' => Wrote w0 (wr.alloc (.cells #[.int .i64 x.kd, .int .i64 x.nn, .string x.tx, .slice x.ad x.ks.length x.cp] 29)) w' S wd (l ++ d) (10 :: blk (c + 1)) e) := Lib.hid (by rw [show ((c : Int) + 1) = ((c + 1 : Nat) : Int) by simp]; exact startLine_any (c + 1) (by omega) w0 _ S ov' wd (l ++ d) HA.out (by rw [List.length_append]; omega))
                  have hl2 : (l ++ d).length = l.length + d.length := List.length_append
                  clear hx hroom
                  go_wp2_with (first
                    | (go_at_call 104; (with_reducible refine HSL.out.mono ?_); rintro e w5 ⟨rfl, ov5, hs5, hk5⟩; obtain ⟨c0, c1, c2, c3⟩ := box_cells (hk5.box (HTB.out) hwS) HAD.out; obtain ⟨z0, z1, z2, z3⟩ := (hk5.box HXB.out (by omega)).cells; have HS5 := Lib.hid hs5; have HK5 := Lib.hid hk5; clear hs5 hk5)
                    | (go_at_call 72; (with_reducible refine (HC.out _ _ _ HS5.out (by rw [List.length_append, if_pos h0]; omega)).mono ?_); rintro e w6 ⟨rfl, ov6, hs6, hk6⟩; have HS6 := Lib.hid hs6; have HK6 := Lib.hid hk6; clear hs6 hk6))
                  go_roundg (t.ks.length - fr - (j + 1))
                  case measure => omega
                  case rel => exact ⟨j + 1, ov6, _, rfl, by go_num, HNX.out _ ov6 (((Kept.refl S wr).alloc _).trans (HK5.out.trans HK6.out)) (by have := HS6.out; simpa using this)⟩
                · have g0 : ¬ (0 : Int) < (fr : Int) + (j : Int) := by omega
                  have HC : Hid (∀ W ov2 l2, Sh w0 W S ov2 wd l2 → l2.length ≤ l.length + d.length + (if 0 < fr + j then 10 :: blk (c + 1) else []).length → Calls Tryz.prog 72 #[.pointer (some ⟨S, 0, none⟩), x.val, .int .i64 ((c : Int) + 1), .int .i64 0] W fun e w' => Wrote w0 W w' S wd l2 (linF x.form (c + 1) wd 0) e) := Lib.hid fun W ov2 l2 hs hl => HIH.out x hxm _ _ (c + 1) 0 W ov2 l2 (by simp) (by rfl) rfl (Nat.zero_le _) hs (by omega)
                  have HNX : Hid (∀ w2 ov2, Kept S wr w2 → Sh w0 w2 S ov2 wd (l ++ d ++ (linF x.form (c + 1) wd 0)) → LayRel w0 w w2 S ov2 wd l R t fr (c + 1) k (j + 1) (d ++ (linF x.form (c + 1) wd 0))) := Lib.hid fun w2 ov2 hk hs => HRL.out.next hlt hwS hk _ (by rw [if_neg h0, if_neg hl1, hx]; rfl) hs
                  have hl2 : (l ++ d).length = l.length + d.length := List.length_append
                  clear hx hroom
                  go_wp2_with ((go_at_call 72; (with_reducible refine (HC.out _ _ _ HA.out (by rw [if_neg h0]; simp; try omega)).mono ?_); rintro e w6 ⟨rfl, ov6, hs6, hk6⟩; have HS6 := Lib.hid hs6; have HK6 := Lib.hid hk6; clear hs6 hk6))
                  go_roundg (t.ks.length - fr - (j + 1))
                  case measure => omega
                  case rel => exact ⟨j + 1, ov6, _, rfl, by go_num, HNX.out _ ov6 (((Kept.refl S wr).alloc _).trans HK6.out) HS6.out⟩
            · have gi : ¬ (j : Int) < (t.ks.length : Int) - (fr : Int) := by omega
              have gi3 : ¬ j < t.ks.length - fr := by omega
              have HFN := Lib.hid (hrl.fin (by omega))
              have HSR := Lib.hid hrl.sh
              obtain ⟨p0, _, p2⟩ := hrl.sh.cells
              have hl2 : (l ++ d).length = l.length + d.length := List.length_append
              clear hrl
              go_wp2_with (at_builtin; (refine sh_bytes rfl _ _ 46 rfl Tryz.underlying46 rfl HSR.out [41] _ (by simp [bytesV]) 1 rfl 1 _ rfl (by simp) (by omega) ?_); intro va7 vn7 vc7 w7 hm; obtain ⟨m2, m3⟩ := hm.cells; have HM7 := Lib.hid hm.store; clear hm)
              go_end0
              exact ⟨rfl, _, by rw [← HFN.out]; exact HM7.out.1, HRL.out.kept.trans HM7.out.2⟩
        · have hind : indN t.form.ks = 2 := by unfold indN; rw [hfr, if_neg hf0]
          have g9 : (0 : Int) < (fr : Int) := by omega
          have g9d : decide (0 < fr) = true := by simp; omega
          rw [hind] at HIH
          clear hf0
          have HST : Hid (∀ wr ov2, Sh w0 wr S ov2 wd (l ++ (40 :: joinB ((t.form.ks.take fr).map txF))) → Kept S w wr → Box4 wr w.heap.size t → LayRel w0 w wr S ov2 wd l R t fr (c + 2) k 0 (40 :: joinB ((t.form.ks.take fr).map txF))) := Lib.hid fun wr ov2 hs hk hb => ⟨by omega, by rw [← hR, lin_go hx0, hfr, hind, T.form_ks], hs, hk, hb⟩
          clear ih hR he hv hvp hx0 hfr hind hin hval
          go_enter Tryz.func72, Tryz.ntmps72
          go_wp2_with fail
          go_region_held3 (fun w' => w'.cell? ⟨w.heap.size, 0, none⟩ = some (.int .i64 t.kd) ∧ w'.cell? ⟨w.heap.size, 1, none⟩ = some (.int .i64 t.nn) ∧ w'.cell? ⟨w.heap.size, 2, none⟩ = some (.string t.tx) ∧ w'.cell? ⟨w.heap.size, 3, none⟩ = some (.slice (some ⟨b, o, none⟩) t.ks.length t.cp) ∧ w'.cell? ⟨S, 1, none⟩ = some (.int .i64 wd))
            (first
              | exact ⟨HX.out.1, HX.out.2.1, HX.out.2.2.1, HX.out.2.2.2, HS0.out.drew.cells.2.1⟩
              | exact ⟨HX2.out.1, HX2.out.2.1, HX2.out.2.2.1, HX2.out.2.2.2, HS2.out.cells.2.1⟩)
            (first
              | (go_at_call 100; (with_reducible refine HSP.out.mono ?_); rintro e w2 ⟨rfl, hB⟩; have HX2 := Lib.hid (HXN.out _ hB); have HX2B := Lib.hid (HXB.out _ hB); have HS2 := Lib.hid (HS0.out.drew.next hB); have HB2 := Lib.hid hB; clear hB))
          go_wp2_with (first
            | (go_at_call 102; (with_reducible refine (HFK.out _ HS2.out.below).mono ?_); rintro e w3 ⟨rfl, hB⟩; obtain ⟨c0, c1, c2, c3⟩ := box_cells ((hB.block _ (lt_of_block HX2B.out)).trans HX2B.out) HAD.out; have HX3B : Hid (Box4 _ w.heap.size t) := Lib.hid ((hB.block _ (lt_of_block HX2B.out)).trans HX2B.out); have HS3 := Lib.hid (HS2.out.next hB); have HB3 := Lib.hid hB; clear hB)
            | (go_at_call 103; (with_reducible refine (HLF.out _ _ HS3.out).mono ?_); rintro e w4 ⟨rfl, ov4, hs4, hk4⟩; obtain ⟨c0, c1, c2, c3⟩ := box_cells (hk4.box HX3B.out hwS) HAD.out; have HS4 := Lib.hid hs4; have HK4 := Lib.hid hk4; clear hs4 hk4))
          · have HCP := Lib.hid h
            clear h
            go_loopg [52] (t.ks.length - fr) (fun m i wr => ∃ (j : Nat) (ov' : Value) (d : List UInt8), m = t.ks.length - fr - j ∧ i = .int .i64 j ∧ LayRel w0 w wr S ov' wd l R t fr (c + 2) k j d)
            case atStart => exact ⟨0, ov4, _, rfl, rfl, HST.out _ _ HS4.out (((Kept.of HB0.out.drew).below (up HB2.out HB3.out)).trans HK4.out) (HK4.out.box HX3B.out hwS)⟩
            case round =>
              obtain ⟨j, ov', d, rfl, rfl, hrl⟩ := hrel
              have hle := hrl.le
              have hdl := hrl.dlen
              have hsS := lt_of_block hrl.sh.blk
              have lbt : w.heap.size < wr.heap.size := lt_of_block hrl.box
              obtain ⟨c0, c1, c2, c3⟩ := box_cells hrl.box HAD.out
              have HRL := Lib.hid hrl
              by_cases hlt : fr + j < t.ks.length
              · exact absurd hlt (by have := HCP.out; omega)
              · have gi : ¬ (j : Int) < (t.ks.length : Int) - (fr : Int) := by omega
                have gi3 : ¬ j < t.ks.length - fr := by omega
                have HFN := Lib.hid (hrl.fin (by omega))
                have HSR := Lib.hid hrl.sh
                obtain ⟨p0, _, p2⟩ := hrl.sh.cells
                have hl2 : (l ++ d).length = l.length + d.length := List.length_append
                clear hrl
                go_wp2_with (at_builtin; (refine sh_bytes rfl _ _ 46 rfl Tryz.underlying46 rfl HSR.out [41] _ (by simp [bytesV]) 1 rfl 1 _ rfl (by simp) (by omega) ?_); intro va7 vn7 vc7 w7 hm; obtain ⟨m2, m3⟩ := hm.cells; have HM7 := Lib.hid hm.store; clear hm)
                go_end0
                exact ⟨rfl, _, by rw [← HFN.out]; exact HM7.out.1, HRL.out.kept.trans HM7.out.2⟩
          · clear h
            go_loopg [52] (t.ks.length - fr) (fun m i wr => ∃ (j : Nat) (ov' : Value) (d : List UInt8), m = t.ks.length - fr - j ∧ i = .int .i64 j ∧ LayRel w0 w wr S ov' wd l R t fr (c + 2) k j d)
            case atStart => exact ⟨0, ov4, _, rfl, rfl, HST.out _ _ HS4.out (((Kept.of HB0.out.drew).below (up HB2.out HB3.out)).trans HK4.out) (HK4.out.box HX3B.out hwS)⟩
            case round =>
              obtain ⟨j, ov', d, rfl, rfl, hrl⟩ := hrel
              have hle := hrl.le
              have hdl := hrl.dlen
              have hsS := lt_of_block hrl.sh.blk
              have lbt : w.heap.size < wr.heap.size := lt_of_block hrl.box
              obtain ⟨c0, c1, c2, c3⟩ := box_cells hrl.box HAD.out
              have HRL := Lib.hid hrl
              by_cases hlt : fr + j < t.ks.length
              · have hroom := hrl.room hlt
                obtain ⟨⟨x0, x1, x2, x3⟩, lb⟩ := HKC.out wr hrl.sh.below (fr + j) hlt
                rw [Nat.add_mul, ← Nat.add_assoc] at x0 x1 x2 x3
                have gi : (j : Int) < (t.ks.length : Int) - (fr : Int) := by omega
                have gi2 : (0 : Int) ≤ (j : Int) := by omega
                have gi3 : j < t.ks.length - fr := by omega
                have hxm := List.getElem_mem hlt
                obtain ⟨x, hx⟩ : ∃ x, t.ks[fr + j] = x := ⟨_, rfl⟩
                rw [hx] at x0 x1 x2 x3 hxm hroom
                have HA := Lib.hid (hrl.sh.alloc (.cells #[.int .i64 x.kd, .int .i64 x.nn, .string x.tx, .slice x.ad x.ks.length x.cp] 29))
                have hxb : Box4 (wr.alloc (.cells #[.int .i64 x.kd, .int .i64 x.nn, .string x.tx, .slice x.ad x.ks.length x.cp] 29)) wr.heap.size x := heap_alloc_new wr _
                have HXB := Lib.hid hxb
                have HTB : Hid (Box4 (wr.alloc (.cells #[.int .i64 x.kd, .int .i64 x.nn, .string x.tx, .slice x.ad x.ks.length x.cp] 29)) w.heap.size t) := Lib.hid (((Kept.refl S wr).alloc _).box hrl.box hwS)
                clear hrl hxb
                by_cases hl1 : fr + j + 1 = t.ks.length
                · have g2 : ((fr : Int) + (j : Int) == (t.ks.length : Int) - 1) = true := by simp; omega
                  rw [if_pos hl1] at hroom
                  by_cases h0 : 0 < fr + j
                  · have g0 : (0 : Int) < (fr : Int) + (j : Int) := by omega
                    have HC : Hid (∀ W ov2 l2, Sh w0 W S ov2 wd l2 → l2.length ≤ l.length + d.length + (if 0 < fr + j then 10 :: blk (c + 2) else []).length → Calls Tryz.prog 72 #[.pointer (some ⟨S, 0, none⟩), x.val, .int .i64 ((c : Int) + 2), .int .i64 ((k : Int) + 1)] W fun e w' => Wrote w0 W w' S wd l2 (linF x.form (c + 2) wd (k + 1)) e) := Lib.hid fun W ov2 l2 hs hl => HIH.out x hxm _ _ (c + 2) (k + 1) W ov2 l2 (by simp) (by simp) rfl (Nat.le_refl _) hs (by omega)
                    have HNX : Hid (∀ w2 ov2, Kept S wr w2 → Sh w0 w2 S ov2 wd (l ++ d ++ (10 :: blk (c + 2) ++ linF x.form (c + 2) wd (k + 1))) → LayRel w0 w w2 S ov2 wd l R t fr (c + 2) k (j + 1) (d ++ (10 :: blk (c + 2) ++ linF x.form (c + 2) wd (k + 1)))) := Lib.hid fun w2 ov2 hk hs => HRL.out.next hlt hwS hk _ (by rw [if_pos h0, if_pos hl1, hx]) hs
                    have HSL : Hid (Calls Tryz.prog 104 #[.pointer (some ⟨S, 0, none⟩), .int .i64 ((c : Int) + 2)] (wr.alloc (.cells #[.int .i64 x.kd, .int .i64 x.nn, .string x.tx, .slice x.ad x.ks.length x.cp] 29)) fun e w' => Wrote w0 (wr.alloc (.cells #[.int .i64 x.kd, .int .i64 x.nn, .string x.tx, .slice x.ad x.ks.length x.cp] 29)) w' S wd (l ++ d) (10 :: blk (c + 2)) e) := Lib.hid (by rw [show ((c : Int) + 2) = ((c + 2 : Nat) : Int) by simp]; exact startLine_any (c + 2) (by omega) w0 _ S ov' wd (l ++ d) HA.out (by rw [List.length_append]; omega))
                    have hl2 : (l ++ d).length = l.length + d.length := List.length_append
                    clear hx hroom
                    go_wp2_with (first
                      | (go_at_call 104; (with_reducible refine HSL.out.mono ?_); rintro e w5 ⟨rfl, ov5, hs5, hk5⟩; obtain ⟨c0, c1, c2, c3⟩ := box_cells (hk5.box (HTB.out) hwS) HAD.out; obtain ⟨z0, z1, z2, z3⟩ := (hk5.box HXB.out (by omega)).cells; have HS5 := Lib.hid hs5; have HK5 := Lib.hid hk5; clear hs5 hk5)
                      | (go_at_call 72; (with_reducible refine (HC.out _ _ _ HS5.out (by rw [List.length_append, if_pos h0]; omega)).mono ?_); rintro e w6 ⟨rfl, ov6, hs6, hk6⟩; have HS6 := Lib.hid hs6; have HK6 := Lib.hid hk6; clear hs6 hk6))
                    go_roundg (t.ks.length - fr - (j + 1))
                    case measure => omega
                    case rel => exact ⟨j + 1, ov6, _, rfl, by go_num, HNX.out _ ov6 (((Kept.refl S wr).alloc _).trans (HK5.out.trans HK6.out)) (by have := HS6.out; simpa using this)⟩
                  · exact absurd h0 (by omega)
                · have g2 : ((fr : Int) + (j : Int) == (t.ks.length : Int) - 1) = false := by simp; omega
                  rw [if_neg hl1] at hroom
                  by_cases h0 : 0 < fr + j
                  · have g0 : (0 : Int) < (fr : Int) + (j : Int) := by omega
                    have HC : Hid (∀ W ov2 l2, Sh w0 W S ov2 wd l2 → l2.length ≤ l.length + d.length + (if 0 < fr + j then 10 :: blk (c + 2) else []).length → Calls Tryz.prog 72 #[.pointer (some ⟨S, 0, none⟩), x.val, .int .i64 ((c : Int) + 2), .int .i64 0] W fun e w' => Wrote w0 W w' S wd l2 (linF x.form (c + 2) wd 0) e) := Lib.hid fun W ov2 l2 hs hl => HIH.out x hxm _ _ (c + 2) 0 W ov2 l2 (by simp) (by rfl) rfl (Nat.zero_le _) hs (by omega)
                    have HNX : Hid (∀ w2 ov2, Kept S wr w2 → Sh w0 w2 S ov2 wd (l ++ d ++ (10 :: blk (c + 2) ++ linF x.form (c + 2) wd 0)) → LayRel w0 w w2 S ov2 wd l R t fr (c + 2) k (j + 1) (d ++ (10 :: blk (c + 2) ++ linF x.form (c + 2) wd 0))) := Lib.hid fun w2 ov2 hk hs => HRL.out.next hlt hwS hk _ (by rw [if_pos h0, if_neg hl1, hx]) hs
                    have HSL : Hid (Calls Tryz.prog 104 #[.pointer (some ⟨S, 0, none⟩), .int .i64 ((c : Int) + 2)] (wr.alloc (.cells #[.int .i64 x.kd, .int .i64 x.nn, .string x.tx, .slice x.ad x.ks.length x.cp] 29)) fun e w' => Wrote w0 (wr.alloc (.cells #[.int .i64 x.kd, .int .i64 x.nn, .string x.tx, .slice x.ad x.ks.length x.cp] 29)) w' S wd (l ++ d) (10 :: blk (c + 2)) e) := Lib.hid (by rw [show ((c : Int) + 2) = ((c + 2 : Nat) : Int) by simp]; exact startLine_any (c + 2) (by omega) w0 _ S ov' wd (l ++ d) HA.out (by rw [List.length_append]; omega))
                    have hl2 : (l ++ d).length = l.length + d.length := List.length_append
                    clear hx hroom
                    go_wp2_with (first
                      | (go_at_call 104; (with_reducible refine HSL.out.mono ?_); rintro e w5 ⟨rfl, ov5, hs5, hk5⟩; obtain ⟨c0, c1, c2, c3⟩ := box_cells (hk5.box (HTB.out) hwS) HAD.out; obtain ⟨z0, z1, z2, z3⟩ := (hk5.box HXB.out (by omega)).cells; have HS5 := Lib.hid hs5; have HK5 := Lib.hid hk5; clear hs5 hk5)
                      | (go_at_call 72; (with_reducible refine (HC.out _ _ _ HS5.out (by rw [List.length_append, if_pos h0]; omega)).mono ?_); rintro e w6 ⟨rfl, ov6, hs6, hk6⟩; have HS6 := Lib.hid hs6; have HK6 := Lib.hid hk6; clear hs6 hk6))
                    go_roundg (t.ks.length - fr - (j + 1))
                    case measure => omega
                    case rel => exact ⟨j + 1, ov6, _, rfl, by go_num, HNX.out _ ov6 (((Kept.refl S wr).alloc _).trans (HK5.out.trans HK6.out)) (by have := HS6.out; simpa using this)⟩
                  · exact absurd h0 (by omega)
              · have gi : ¬ (j : Int) < (t.ks.length : Int) - (fr : Int) := by omega
                have gi3 : ¬ j < t.ks.length - fr := by omega
                have HFN := Lib.hid (hrl.fin (by omega))
                have HSR := Lib.hid hrl.sh
                obtain ⟨p0, _, p2⟩ := hrl.sh.cells
                have hl2 : (l ++ d).length = l.length + d.length := List.length_append
                clear hrl
                go_wp2_with (at_builtin; (refine sh_bytes rfl _ _ 46 rfl Tryz.underlying46 rfl HSR.out [41] _ (by simp [bytesV]) 1 rfl 1 _ rfl (by simp) (by omega) ?_); intro va7 vn7 vc7 w7 hm; obtain ⟨m2, m3⟩ := hm.cells; have HM7 := Lib.hid hm.store; clear hm)
                go_end0
                exact ⟨rfl, _, by rw [← HFN.out]; exact HM7.out.1, HRL.out.kept.trans HM7.out.2⟩
end Go.Proofs.YtdehkgflokeodaaGreatDoor.Y
