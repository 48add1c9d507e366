/- reader.put: a form with another part at a path. -/
import Derived.Test.YtkcckhchlhmhhaaDoorPut0
namespace Go.Proofs.YtkcckhchlhmhhaaDoor
open Go.RowKit Go.Deep

set_option maxHeartbeats 4000000 in
set_option maxRecDepth 100000 in
theorem put_any (B0 : Nat) (g : T) (hg0 : ∀ b, On g b → b < B0) : ∀ (ps : List Int) (t : T) (pa : Option Addr) (pc : Nat) (w : World), B0 ≤ w.heap.size → In w t → In w g → (∀ b, On t b → b < B0) → InP w pa ps → ps.length ≤ pc → pc ≤ maxLen →
    szF t.form ≤ 1000000 → (atF t.form ps).isSome = true →
    Calls Tryd.prog 55 #[t.val, .slice pa ps.length pc, g.val] w fun e w' => PutEnd B0 w w' (putF ps t.form g.form) e := by
  intro ps
  induction ps with
  | nil =>
    intro t pa pc w hB0 hin hg ht hp hl hc hsz hat
    have HB := Lib.hid hB0
    have HIN := Lib.hid hg
    have HG := Lib.hid hg0
    clear hg0 hin hg ht hp hat hsz hB0
    go_enter Tryd.func55, Tryd.ntmps55
    go_wp2_with fail
    refine bodyPost_ret (v := g.val) (by simp [results, Tryd.results55, go_sem]) rfl ?_
    exact ⟨g, rfl, rfl, HIN.out.below (by go_grown), fun b hb => Or.inl (HG.out b hb), (by go_grown)⟩
  | cons i p ih =>
    intro t pa pc w hB0 hin hg ht hp hl hc hsz hat
    have hk : 0 ≤ i ∧ i.toNat < t.form.kids.length := by
      unfold atF at hat
      split at hat
      · assumption
      · simp at hat
    have hkd : t.kd = 3 := by
      have h2 := hk.2
      unfold Fm.kids at h2
      rw [T.form_kd] at h2
      by_cases h : t.kd = 3
      · exact h
      · rw [if_neg h] at h2; simp at h2
    have hks : t.ks.map T.form = t.form.kids := by rw [Fm.kids, T.form_kd, if_pos hkd, T.form_ks]
    obtain ⟨j, rfl⟩ := Int.eq_ofNat_of_zero_le hk.1
    have hj : j < t.ks.length := by
      have h2 := hk.2
      rw [← hks] at h2
      simpa using h2
    rw [atF_cons hks j hj] at hat
    have hszk : szF t.ks[j].form ≤ 1000000 := by
      have h1 := szF_eq t.form
      have h2 := szL_le (l := t.ks.map T.form) (f := t.ks[j].form) (List.mem_map_of_mem (List.getElem_mem hj))
      rw [← hks] at h1
      omega
    have hlen : t.ks.length ≤ 1000000 := by
      have h1 := szF_eq t.form
      rw [← hks] at h1
      have h2 := szL_len (t.ks.map T.form)
      rw [List.length_map] at h2
      omega
    obtain ⟨⟨kb, ko, had, _⟩, hinc⟩ := hin.inL.at j hj
    have hI := hin.inL
    rw [had] at hI
    have HC := Lib.hid fun W (h : Below w.heap.size w W) => clone_any kb ko t.cp t.ks W (by have := (hin.below h).inL; rwa [had] at this) hlen
    rw [← had] at HC
    obtain ⟨pb, po, rfl, hpc⟩ := hp 0 (by simp)
    simp only [Nat.add_zero, List.getElem_cons_zero] at hpc
    have hpl := World.block_lt_of_cell? _ _ hpc
    have HPC := Lib.hid fun W (h : Below w.heap.size w W) => (h.cell (p := ⟨pb, po, none⟩) hpl).trans hpc
    obtain ⟨A, hA, HPA⟩ : ∃ A, (if pc = 1 then some (⟨pb, po, none⟩ : Addr) else some ⟨pb, po + 1, none⟩) = some A ∧ Hid (∀ W, Below w.heap.size w W → InP W (some A) p) := by
      by_cases h1 : pc = 1
      · exact ⟨⟨pb, po, none⟩, by rw [if_pos h1], Lib.hid fun W _ k hk => by simp at hl; omega⟩
      · refine ⟨⟨pb, po + 1, none⟩, by rw [if_neg h1], Lib.hid fun W hB k hk => ?_⟩
        obtain ⟨b', o', e, hc'⟩ := (hp.below hB) (k + 1) (by simpa using hk)
        injection e with e
        injection e with e1 e2 e3
        subst e1 e2
        refine ⟨pb, po + 1, rfl, ?_⟩
        rw [show po + 1 + k = po + (k + 1) by omega]
        simpa using hc'
    have hl' : p.length + 1 ≤ pc := by simpa using hl
    have HIH : Hid (∀ W, Below w.heap.size w W → Calls Tryd.prog 55 #[t.ks[j].val, .slice (some A) p.length (pc - 1), g.val] W fun e w' => PutEnd B0 W w' (putF p t.ks[j].form g.form) e) :=
      Lib.hid fun W hB => ih t.ks[j] (some A) (pc - 1) W (Nat.le_trans hB0 hB.size) (hinc.below hB) (hg.below hB) (fun b hb => ht b (.kid (List.getElem_mem hj) hb)) (HPA.out W hB) (by omega) (by omega) hszk hat
    have n0 : 0 < t.ks.length := by omega
    have HT := Lib.hid ht
    have HIN := Lib.hid hin
    have HGI := Lib.hid hg
    have HG0 := Lib.hid hg0
    have HB0 := Lib.hid hB0
    have HKS := Lib.hid hks
    have HKD := Lib.hid hkd
    have HCI := Lib.hid hinc
    have HZ := Lib.hid hszk
    have HAT := Lib.hid hat
    have p1 : (1 : Int) ≤ (p.length : Int) + 1 := by omega
    have p2 : 1 ≤ p.length + 1 := by omega
    have HAD := Lib.hid had
    clear had
    clear ht hin hg hg0 hB0 hks hkd hinc hszk hat ih hp hk hsz hI hl hpl
    go_enter Tryd.func55, Tryd.ntmps55
    go_wp2_with (go_at_call 80; go_loud (refine (HC.out _ (upB (bel2 w _ _) (bel1 _ _) (Nat.le_refl _))).mono ?_; rintro e w2 ⟨v, rfl, ho, hB⟩; obtain ⟨g0, cap, rfl, hP⟩ := PutW.start w w2 t g v hB (by simpa using ho) n0; have HP := Lib.hid hP; have hp2 := HPC.out w2 hP.below; obtain ⟨k0, k1, k2, k3, q0, q1, q2, q3⟩ := hP.cells j hj; obtain ⟨b0, b1, b2, b3, z0, z1, z2, z3⟩ := hP.bg.facts; clear hP ho hB))
    go_region_with ((go_at_call 55; refine (HIH.out _ HP.out.below.drew).mono ?_; rintro e w3 ⟨u, rfl, hu, hiu, hou, hB3⟩; have HP3 := Lib.hid ((HP.out.next (Below.refl _ _).drew).next hB3); have hp3 := HPC.out w3 HP3.out.below; obtain ⟨k0, k1, k2, k3, q0, q1, q2, q3⟩ := HP3.out.cells j hj; obtain ⟨b0, b1, b2, b3, z0, z1, z2, z3⟩ := HP3.out.bt.facts; obtain ⟨c0, c1, c2, c3, y0, y1, y2, y3⟩ := HP3.out.br.facts; have HU := Lib.hid hu; have HIU := Lib.hid hiu; have HOU := Lib.hid hou; clear hu hiu hou hB3))
    all_goals
      have HU3 : Hid (∀ b, On u b → b < B0 ∨ w2.heap.size ≤ b) := Lib.hid fun b hb => HOU.out b hb
      have hs0 := HP3.out.store j hj u HIU.out (fun b hb => by have h1 := HP.out.lt; have h2 := HP.out.ge; have h3 := HB0.out; have h4 := HU3.out b hb; omega)
      clear k0 k1 k2 k3 q0 q1 q2 q3 b0 b1 b2 b3 z0 z1 z2 z3 c0 c1 c2 c3 y0 y1 y2 y3
      generalize hW4 : (((w3.setCell ⟨g0, j * 4, none⟩ (.int .i64 u.kd)).setCell ⟨g0, j * 4 + 1, none⟩ (.int .i64 u.nn)).setCell ⟨g0, j * 4 + 2, none⟩ (.string u.tx)).setCell ⟨g0, j * 4 + 3, none⟩ (.slice u.ad u.ks.length u.cp) = W4
      have hs : Blk4 W4 w.heap.size (.int .i64 t.kd) (.int .i64 t.nn) (.string t.tx) (.slice t.ad t.ks.length t.cp) ∧ Blk4 W4 (w.heap.size + 1 + 1) (.int .i64 0) (.int .i64 0) (.string ⟨#[]⟩) (.slice none 0 0) ∧
          W4.ownsRow (w.heap.size + 3) 27 4 (.slice (some ⟨g0, 0, none⟩) t.ks.length cap) t.ks.length (cellsT (t.ks.set j u)) ∧ Below w.heap.size w W4 ∧ In W4 u := by rw [← hW4]; exact hs0
      clear hs0 hW4
      obtain ⟨b0, b1, b2, b3, z0, z1, z2, z3⟩ := hs.1.facts
      obtain ⟨c0, c1, c2, c3, y0, y1, y2, y3⟩ := hs.2.1.facts
      have HS := Lib.hid hs
      clear hs
      go_wp2_with fail
      refine bodyPost_ret (v := .agg #[.int .i64 t.kd, .int .i64 t.nn, .string t.tx, .slice (some ⟨g0, 0, none⟩) t.ks.length cap]) (by simp [results, Tryd.results55, go_sem, c0, c1, c2, c3]) rfl ?_
      have h1 := HP.out.lt
      have h2 := HP.out.ge
      have h3 := HB0.out
      exact ⟨T.mk t.kd t.nn t.tx (some ⟨g0, 0, none⟩) cap (t.ks.set j u), by simp [T.val, T.kd, T.nn, T.tx, T.ad, T.cp, T.ks], put_form hj HU.out _ _,
        put_done HS.out.2.2.1 HS.out.2.2.2.1 HIN.out HS.out.2.2.2.2 (fun b hb => by have h4 := HU3.out b hb; omega) h2 hlen _ _ _ _ _,
        put_on HT.out HU3.out (by omega) (by omega), below_lay4 (HS.out.2.2.2.1.setCell (p := ⟨w.heap.size, 3, none⟩) (Nat.le_refl _) _) (by omega) _ _ _ _⟩
end Go.Proofs.YtkcckhchlhmhhaaDoor
