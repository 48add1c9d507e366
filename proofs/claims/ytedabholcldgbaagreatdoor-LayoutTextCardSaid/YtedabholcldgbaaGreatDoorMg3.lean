/- Several texts, one behind the other. -/
import Derived.Test.YtedabholcldgbaaGreatDoorMg2
import Derived.Test.YtedabholcldgbaaGreatDoorMg1
import Derived.Test.YtedabholcldgbaaGreatDoorYPure
import Derived.Test.YtedabholcldgbaaGreatDoorYScanEq

/- What a text is formatted as: along its items, and along its pieces. Plain. -/
namespace Go.Proofs.YtedabholcldgbaaGreatDoor.Y
open Go.RowKit Go.Deep

theorem readR_valid {s : ByteArray} {fs : List Fm} (h : readR s = .ok fs) : ∀ f ∈ fs, validF f = true := by
  unfold readR at h
  split at h
  · cases h
  · cases hl : loopS s (s.size + 1) 0 [] [] false with
    | err c => rw [hl] at h; cases h
    | ok O top =>
      rw [hl] at h
      unfold readDone at h
      simp only at h
      split at h
      · cases h
      · split at h
        · rename_i hv
          injection h with e
          subst e
          exact List.all_eq_true.1 hv
        · cases h
theorem readR_few {s : ByteArray} {fs : List Fm} (h : readR s = .ok fs) : fs.length ≤ 60001 := by
  have h1 := items_read h
  have h2 := items_len (s.size + 1) (s.size + 1) s.data.toList true
  have h3 := readR_size h
  have h4 : forms (itemsL (s.size + 1) (s.size + 1) s.data.toList true) ≤ (itemsL (s.size + 1) (s.size + 1) s.data.toList true).length := List.countP_le_length
  omega
/-- What stands last, and the page's bytes, behind a comment. -/
def cmtS (st : Int × List UInt8) (c : List UInt8) : Int × List UInt8 := (1, st.2 ++ ((if st.1 = 2 ∨ st.1 = 3 then [10] else []) ++ (c ++ [10])))
theorem cmtS_len (st : Int × List UInt8) (c : List UInt8) : (cmtS st c).2.length ≤ st.2.length + (c.length + 2) := by
  unfold cmtS
  simp only [List.length_append]
  split <;> simp <;> omega
def gsR (src : List UInt8) : List Fm := match readR ⟨src.toArray⟩ with
  | .ok G => G
  | .err _ => []
def pieS (wd : Nat) (st : Int × List UInt8) (p : List UInt8 × List UInt8) : Int × List UInt8 := if p.2 = [] then frmsS wd st (gsR p.1) else cmtS (frmsS wd st (gsR p.1)) p.2
def piesS (wd : Nat) (st : Int × List UInt8) (ps : List (List UInt8 × List UInt8)) : Int × List UInt8 := ps.foldl (pieS wd) st
/-- The pieces' sources read. -/
def Good (ps : List (List UInt8 × List UInt8)) : Prop := ∀ p ∈ ps, readR ⟨p.1.toArray⟩ = .ok (gsR p.1) ∧ ∀ f ∈ gsR p.1, validF f = true
def cost (ps : List (List UInt8 × List UInt8)) : Nat := (ps.map fun p => (gsR p.1).length * 96600002 + (p.2.length + 2)).sum
theorem cost_cons (p : List UInt8 × List UInt8) (ps : List (List UInt8 × List UInt8)) : cost (p :: ps) = (gsR p.1).length * 96600002 + (p.2.length + 2) + cost ps := by simp [cost]
theorem cost_app (a b : List (List UInt8 × List UInt8)) : cost (a ++ b) = cost a + cost b := by simp [cost]
theorem piesS_len (wd : Nat) : ∀ (ps : List (List UInt8 × List UInt8)) (st : Int × List UInt8), Good ps → (piesS wd st ps).2.length ≤ st.2.length + cost ps
  | [], st, _ => by simp [piesS]
  | p :: ps, st, h => by
    have h1 := frmsS_len wd (gsR p.1) st (h p (by simp)).2
    have h2 := piesS_len wd ps (pieS wd st p) fun q hq => h q (by simp [hq])
    have e : piesS wd st (p :: ps) = piesS wd (pieS wd st p) ps := rfl
    rw [e, cost_cons]
    have h3 : (pieS wd st p).2.length ≤ st.2.length + ((gsR p.1).length * 96600002 + (p.2.length + 2)) := by
      unfold pieS
      split
      · exact Nat.le_trans h1 (Nat.add_le_add_left (Nat.le_add_right _ _) _)
      · have := cmtS_len (frmsS wd st (gsR p.1)) p.2
        omega
    omega
/-- Along the items. -/
def runI (wd : Nat) (st : Int × List UInt8) : List (Option (List UInt8)) → List Fm → Int × List UInt8
  | [], _ => st
  | some c :: r, fs => runI wd (cmtS st c) r fs
  | none :: r, [] => runI wd st r []
  | none :: r, f :: fs => runI wd (frmS wd st f) r fs
theorem runI_nones (wd : Nat) : ∀ (G : List Fm) (st : Int × List UInt8) (r : List (Option (List UInt8))) (G' : List Fm), runI wd st (List.replicate G.length none ++ r) (G ++ G') = runI wd (frmsS wd st G) r G'
  | [], st, r, G' => rfl
  | f :: G, st, r, G' => by
    rw [List.length_cons, List.replicate_succ, List.cons_append, List.cons_append, runI, runI_nones wd G]
    rfl
theorem rd_read {src : List UInt8} {G : List Fm} (h : Rd false src G) (hs : src.length ≤ 60000) (hv : ∀ f ∈ G, validF f = true) : readR ⟨src.toArray⟩ = .ok G := by
  obtain ⟨t, hr⟩ := h ⟨src.toArray⟩ 0 [] ⟨by simp, Nat.zero_le _⟩
  rw [List.nil_append] at hr
  exact reach_end hr (show (⟨src.toArray⟩ : ByteArray).size ≤ 60000 from hs) (List.all_eq_true.2 hv)
theorem mat_run {t : Bool} {items : List (Option (List UInt8))} {G : List Fm} {ps : List (List UInt8 × List UInt8)} (m : Mat t items G ps) (ht : t = false) (hv : ∀ f ∈ G, validF f = true) (hs : ∀ p ∈ ps, p.1.length ≤ 60000) :
    Good ps ∧ (ps.map fun p => (gsR p.1).length).sum = G.length ∧ ∀ wd st, piesS wd st ps = runI wd st items G := by
  induction m with
  | @last t src G h =>
    subst ht
    have hr := rd_read h (hs (src, []) (by simp)) hv
    have hg : gsR src = G := by unfold gsR; rw [hr]
    refine ⟨fun p hp => ?_, by simp [hg], fun wd st => ?_⟩
    · obtain rfl : p = (src, []) := by simpa using hp
      simp only
      rw [hg]
      exact ⟨hr, hv⟩
    · have e : piesS wd st [(src, [])] = frmsS wd st (gsR src) := rfl
      rw [e, hg]
      have := runI_nones wd G st [] []
      rw [List.append_nil, List.append_nil] at this
      rw [this, runI]
  | @more t src c G items G' ps h hc m ih =>
    subst ht
    have hr := rd_read h (hs (src, c) (by simp)) fun f hf => hv f (by simp [hf])
    have hg : gsR src = G := by unfold gsR; rw [hr]
    obtain ⟨i1, i2, i3⟩ := ih rfl (fun f hf => hv f (by simp [hf])) (fun p hp => hs p (by simp [hp]))
    refine ⟨fun p hp => ?_, by simp [hg, i2], fun wd st => ?_⟩
    · rcases List.mem_cons.1 hp with rfl | hp
      · simp only
        rw [hg]
        exact ⟨hr, fun f hf => hv f (by simp [hf])⟩
      · exact i1 p hp
    · have e : piesS wd st ((src, c) :: ps) = piesS wd (cmtS (frmsS wd st (gsR src)) c) ps := by
        show (ps.foldl (pieS wd) (pieS wd st (src, c))) = _
        unfold pieS
        rw [if_neg hc]
        rfl
      rw [e, hg, i3, runI_nones, runI]
theorem pieces_src (s : List UInt8) : ∀ (ls : List (Nat × List UInt8)) (fr : Nat) (o : Int), ∀ p ∈ piecesW s ls fr o, p.1.length ≤ s.length
  | [], fr, o, p, h => by
    rw [piecesW] at h
    obtain rfl : p = (s.drop fr, []) := by simpa using h
    simp
  | x :: r, fr, o, p, h => by
    rw [piecesW] at h
    split at h
    · exact pieces_src s r fr _ p h
    · rcases List.mem_cons.1 h with rfl | h
      · simp only [List.length_take, List.length_drop]; omega
      · exact pieces_src s r _ o p h
theorem trim_len (x cs : List UInt8) : (Lib.trimS x cs).length ≤ x.length := by
  have h1 : (Lib.trimRightS x cs).length ≤ x.length := by
    unfold Lib.trimRightS
    rw [List.length_reverse]
    have := (List.dropWhile_sublist (fun b => cs.contains b) (l := x.reverse)).length_le
    simpa using this
  have h2 : (Lib.trimLeftS (Lib.trimRightS x cs) cs).length ≤ (Lib.trimRightS x cs).length := by
    unfold Lib.trimLeftS
    exact (List.dropWhile_sublist _).length_le
  unfold Lib.trimS
  omega
theorem pieces_com (s : List UInt8) (N : Nat) : ∀ (ls : List (Nat × List UInt8)) (fr : Nat) (o : Int), (∀ x ∈ ls, x.2.length ≤ N) → ∀ p ∈ piecesW s ls fr o, p.2.length ≤ N
  | [], fr, o, _, p, h => by
    rw [piecesW] at h
    obtain rfl : p = (s.drop fr, []) := by simpa using h
    simp
  | x :: r, fr, o, hx, p, h => by
    rw [piecesW] at h
    split at h
    · exact pieces_com s N r fr _ (fun y hy => hx y (by simp [hy])) p h
    · rcases List.mem_cons.1 h with rfl | h
      · have h1 := trim_len x.2 [32, 9]
        have h2 := hx x (by simp)
        simp only; omega
      · exact pieces_com s N r _ o (fun y hy => hx y (by simp [hy])) p h
theorem sum_costs : ∀ (ps : List (List UInt8 × List UInt8)) (N : Nat), (∀ p ∈ ps, p.2.length ≤ N) → cost ps ≤ (ps.map fun p => (gsR p.1).length).sum * 96600002 + ps.length * (N + 2)
  | [], N, _ => by simp [cost]
  | p :: ps, N, h => by
    have := sum_costs ps N fun q hq => h q (by simp [hq])
    have h1 := h p (by simp)
    rw [cost_cons, List.map_cons, List.sum_cons, List.length_cons, Nat.add_mul, Nat.add_mul]
    omega
/-- What Text tells of the pieces of a text that reads. -/
theorem pies_all {s : ByteArray} {fs : List Fm} (h : readR s = .ok fs) :
    Good (piecesT s.data.toList) ∧ cost (piecesT s.data.toList) ≤ 50000000000000 ∧ (∀ p ∈ piecesT s.data.toList, p.1.length ≤ 60000 ∧ p.2.length ≤ 60000) ∧
      ∀ wd st, piesS wd st (piecesT s.data.toList) = runI wd st (itemsL (s.size + 1) (s.size + 1) s.data.toList true) fs := by
  have hz := readR_size h
  have hl : s.data.toList.length = s.size := by simp
  have h1 : ∀ p ∈ piecesT s.data.toList, p.1.length ≤ 60000 := fun p hp => Nat.le_trans (pieces_src _ _ _ _ p hp) (by omega)
  have h2 : ∀ p ∈ piecesT s.data.toList, p.2.length ≤ 60000 := fun p hp => pieces_com _ 60000 _ _ _ (fun x hx => by
    have := ((lines_apart _ s.data.toList (Nat.le_refl _) 0).2 x hx).2
    omega) p hp
  obtain ⟨m1, m2, m3⟩ := mat_run (read_mat h) rfl (readR_valid h) h1
  refine ⟨m1, ?_, fun p hp => ⟨h1 p hp, h2 p hp⟩, m3⟩
  have h3 := sum_costs _ 60000 h2
  have h4 := readR_few h
  have h5 := pieces_few s.data.toList
  rw [m2] at h3
  have h6 : fs.length * 96600002 ≤ 60001 * 96600002 := Nat.mul_le_mul_right _ h4
  have h7 : (piecesT s.data.toList).length * (60000 + 2) ≤ 60002 * 60002 := Nat.mul_le_mul_right _ (by omega)
  omega
theorem pies_room {ps pre : List (List UInt8 × List UInt8)} {p : List UInt8 × List UInt8} (hg : Good ps) (hc : cost ps ≤ 50000000000000) (h : pre ++ [p] <+: ps) (wd : Nat) : p ∈ ps ∧ (piesS wd (0, []) pre).2.length + (gsR p.1).length * 96600002 ≤ 50000000000000 := by
  obtain ⟨r, rfl⟩ := h
  have h1 := piesS_len wd pre (0, []) fun q hq => hg q (by simp [hq])
  rw [cost_app, cost_app, cost_cons] at hc
  simp only [List.length_nil] at h1
  exact ⟨by simp, by omega⟩
theorem piesS_next (wd : Nat) (st : Int × List UInt8) (pre : List (List UInt8 × List UInt8)) (p : List UInt8 × List UInt8) : piesS wd st (pre ++ [p]) = pieS wd (piesS wd st pre) p := by
  unfold piesS
  rw [List.foldl_append]; rfl
/-- What Text tells. -/
def textR (d : ByteArray) (x : Int) : List UInt8 × Int := if 20 ≤ x ∧ x ≤ 200 then (match readR d with
  | .ok fs => ((runI x.toNat (0, []) (itemsL (d.size + 1) (d.size + 1) d.data.toList true) fs).2, 0)
  | .err c => ([], c)) else ([], 1)
theorem textR_no {d : ByteArray} {x : Int} (h : ¬ (20 ≤ x ∧ x ≤ 200)) : textR d x = ([], 1) := by unfold textR; rw [if_neg h]
theorem textR_err {d : ByteArray} {x : Int} (h : 20 ≤ x ∧ x ≤ 200) {c : Int} (hr : readR d = .err c) : textR d x = ([], c) := by unfold textR; rw [if_pos h, hr]
theorem textR_ok {d : ByteArray} {wd : Nat} (h1 : 20 ≤ wd) (h2 : wd ≤ 200) {fs : List Fm} (hr : readR d = .ok fs) : textR d (wd : Int) = ((runI wd (0, []) (itemsL (d.size + 1) (d.size + 1) d.data.toList true) fs).2, 0) := by
  unfold textR
  rw [if_pos (by omega), hr]
  rfl
end Go.Proofs.YtedabholcldgbaaGreatDoor.Y

/- layout.Text of a text of one line that reads as one form and is no comment. -/
namespace Go.Proofs.YtedabholcldgbaaGreatDoor.Y
open Go.RowKit Go.Shelf Go.Deep
attribute [local go_sem] Oper.semAt_some

/-- pieces of a text of one line, to any caller. -/
theorem pieces1_seq (n : Nat) (hn : 6 ≤ n) (Bn : Nat) (s u : ByteArray) (hs : Lib.indexByte s.data.toList 10 = -1) (hz : s.size ≤ 1000000000) (hob : obF s.data.toList false 0 = 0)
    (htr : ∀ W, Calls Tryz.prog 79 #[.string s, .string ⟨#[32, 9]⟩] W fun e w' => e = .returned (.string u) ∧ Below W.heap.size W w') (hpx : Lib.hasPrefix u.data.toList [59] = false)
    (safe : Obj → Prop) (hsafe : ∀ o : Obj, o.isCells = false → safe o) (own : World → Option Nat) :
    SeqY Fence.wide n Tryz.prog 78 #[.pointer (some ⟨Bn, 0, none⟩)] (encP s) safe own (fun A => A.cell? ⟨Bn, 0, none⟩ = some (.string s)) (fun ys => ys = [()]) (fun ys => ys = [()]) (fun ys => ys = [()]) := by
  intro l J Jx W hJ hJx hR hY h0
  have nb : ∀ {K : List Unit → World → Prop}, Stands own W.heap.size K → ∀ D pre A, K pre A → W.heap.size ≤ D → A.heap[D]? = some (.deferred (some [])) → K pre (A.putObj D (.deferred none)) := fun hK D pre A hk hD hd => (hK.turned hk hD hd rfl _).1
  exact pieces1_in n hn l Bn s u hs hz hob htr hpx J Jx (fun A B => ∀ D, W.heap.size ≤ D → A.heap[D]? = some (.deferred (some [])) → B.heap[D]? = some (.deferred (some []))) W
    (fun s A B row hs hg hr => (hJ.1 s A B hs ⟨row, hg, fun r e => ⟨(hr r e).1, by obtain ⟨_, o, ho, hw⟩ := hr r e; exact hJ.not hs ho (Obj.not_cells_of_walk hw)⟩⟩).1)
    (fun pre x A hj hl => by
      obtain ⟨fn, tmps, assign, body, hy, hQ⟩ := hY pre x A hj (by have : pre = [] := List.length_eq_zero_iff.1 (by omega); subst this; rfl)
      refine ⟨fn, tmps, assign, body, hy, hQ.mono ?_⟩
      rintro e A' (⟨he, hj', hk⟩ | ⟨he, hj', hk⟩)
      · exact .inl ⟨he, hj', fun D hD hd => hk.same D _ hD (hJ.not hj hd rfl) (hsafe _ rfl) hd⟩
      · exact .inr ⟨he, hj', fun D hD hd => hk.same D _ hD (hJ.not hj hd rfl) (hsafe _ rfl) hd⟩)
    (fun D A B hk hD hd => hk D hD hd) (nb hJ) (nb hJx) (hR _ _ h0) h0

/-- The block of the page's bytes. -/
def ownP (S : Nat) (A : World) : Option Nat := (A.cell? ⟨S, 0, none⟩).bind Value.ownBlock
theorem Pg.ownP {w0 A : World} {S : Nat} {ov : Value} {wd : Nat} {la : Int} {l : List UInt8} (h : Pg w0 A S ov wd la l) : ownP S A = ov.ownBlock := by
  unfold Y.ownP; rw [h.cells.1]; rfl
theorem Pg.moved {w0 A A' : World} {S : Nat} {ov : Value} {wd : Nat} {la : Int} {l : List UInt8} (h : Pg w0 A S ov wd la l) {row : Option Nat} (hg : A.grownBy A' row) (hr : ∀ r, row = some r → S < r ∧ ov.ownBlock ≠ some r) : Pg w0 A' S ov wd la l :=
  ⟨(hg.block S (lt_of_block h.blk) fun e => by have := (hr S e.symm).1; omega).trans h.blk,
    own_same h.own fun k hk => hg.block k (h.own.lt k hk).2 fun e => (hr k e.symm).2 hk,
    h.below.grown hg h.below.size fun b hb => by have := (hr b hb).1; have := h.hS; omega, h.hS, h.ne⟩
def safeT (o : Obj) : Prop := ∀ c fz, o ≠ .cells c 5 fz
theorem safe_not {o : Obj} (h : o.isCells = false) : safeT o := fun c fz e => by rw [e] at h; cases h
/-- What a round leaves. -/
theorem leaves_kept {w0 A A' : World} {S B : Nat} {ov : Value} {wd : Nat} {la : Int} {l : List UInt8} (hS : S < B) (hk : Kept S A A') (h : Pg w0 A' S ov wd la l) : Leaves safeT (ownP S) B A A' := by
  refine ⟨hk.size, fun r o hr _ hs ho => hk.others r o ho (by intro e; injection e with e; omega) hs, .inr (.inr fun r e => ?_)⟩
  rw [h.ownP] at e
  obtain ⟨c, fz, hc⟩ := row_bytes h.own r e
  exact ⟨_, hc, fun hs => hs c fz rfl⟩

/-- The page and its variable, between two rounds. -/
def PgI {β : Type} (w0 : World) (S wd : Nat) (d : ByteArray) (Q : β → Int → List UInt8 → Prop) (s : β) (A : World) : Prop :=
  (A.heap[S + 1]? = some (.cells #[.pointer (some ⟨S, 0, none⟩)] 60 (0, 0)) ∧ A.heap[S + 2]? = some (.cells #[.string d] 9 (0, 0))) ∧ ∃ ov la l, Q s la l ∧ Pg w0 A S ov wd la l
theorem pg_stands {β : Type} {w0 : World} {S wd B : Nat} {d : ByteArray} (hB : S + 3 ≤ B) (Q : β → Int → List UInt8 → Prop) : Stands (ownP S) B (PgI w0 S wd d Q) := by
  constructor
  · rintro s A A' ⟨⟨c1, c2⟩, ov, la, l, hq, hp⟩ ⟨row, hg, hr⟩
    have hp' := hp.moved hg fun r e => ⟨by have := (hr r e).1; omega, by rw [← hp.ownP]; exact (hr r e).2⟩
    exact ⟨⟨⟨(hg.block _ (lt_of_getElem? c1) fun e => by have := (hr _ e.symm).1; omega).trans c1, (hg.block _ (lt_of_getElem? c2) fun e => by have := (hr _ e.symm).1; omega).trans c2⟩, ov, la, l, hq, hp'⟩, hp'.ownP.trans hp.ownP.symm⟩
  · rintro s A r ⟨_, ov, la, l, hq, hp⟩ e
    rw [hp.ownP] at e
    obtain ⟨c, fz, hc⟩ := row_bytes hp.own r e
    exact ⟨_, _, _, hc⟩
theorem kept_cells {S b : Nat} {A A' : World} (hk : Kept S A A') {v : Value} {t : TypeId} (hb : b ≠ S) (ht : t ≠ 5) (h : A.heap[b]? = some (.cells #[v] t (0, 0))) : A'.heap[b]? = some (.cells #[v] t (0, 0)) :=
  hk.others b _ h (by intro e; injection e with e; exact hb e) (by intro c fz e; injection e with _ e _; exact ht e)
theorem Pg.start {w w2 : World} (hb : Below w.heap.size w w2) (wd S : Nat) (hS : w2.heap.size = S) : Pg w (w2.alloc (.cells #[.slice none 0 0, .int .i64 wd, .int .i64 0] 62)) S (.slice none 0 0) wd 0 [] := by
  subst hS
  exact ⟨heap_alloc_new w2 _, World.ownsRow_nil _ _ _ _, up hb (bel1 _ _), hb.size, by simp [Value.ownBlock]⟩
theorem conv_pg {w0 w : World} {S : Nat} {ov : Value} {wd : Nat} {la : Int} {l : List UInt8} (h : Pg w0 w S ov wd la l) : (convert 46 9 ov).run Tryz.prog w = .ok (.string ⟨l.toArray⟩) w := conv_row h.own 0

set_option linter.unusedSimpArgs false in
set_option maxRecDepth 100000 in
set_option maxHeartbeats 4000000 in
theorem text_one (n : Nat) (hn : 8 ≤ n) (d u : ByteArray) (f : Fm) (wd : Nat) (hw1 : 20 ≤ wd) (hw2 : wd ≤ 200) (hd : d.size ≤ 60000) (hr : readR d = .ok [f]) (hv : validF f = true) (hs : Lib.indexByte d.data.toList 10 = -1) (hob : obF d.data.toList false 0 = 0)
    (htr : ∀ W, Calls Tryz.prog 79 #[.string d, .string ⟨#[32, 9]⟩] W fun e w' => e = .returned (.string u) ∧ Below W.heap.size W w') (hpx : Lib.hasPrefix u.data.toList [59] = false)
    (w : World) (hg : Glob w) (h6 : 8 ≤ w.heap.size) (htab : Tab w.heap.size w) :
    CallsIn Fence.wide n Tryz.prog 19 #[.string d, .int .i64 wd] w fun e w' => e = .returned (.tuple #[.string ⟨(putI 0 (linF f 0 wd 0)).toArray⟩, .int .i64 0]) ∧ Below w.heap.size w w' := by
  have h1 : 1 ≤ n := by omega
  have g1 : (20 : Int) ≤ (wd : Int) := by omega
  have g2 : (wd : Int) ≤ 200 := by omega
  have HW := Lib.hid fun W => isWidth_any (wd : Int) W
  rw [show (decide ((20 : Int) ≤ (wd : Int)) && decide ((wd : Int) ≤ 200)) = true by simp; omega] at HW
  have HR := Lib.hid fun W (k : Below w.heap.size w W) => ((read_any d W (by unfold maxLen; omega) (hg.below k h6) (Nat.le_trans h6 k.size)).mono fun e w' hh => (by rw [hr] at hh; exact hh : ∃ v, e = .returned (.tuple #[v, .int .i64 0]) ∧ Forms W.heap.size w' v [f] ∧ Below W.heap.size W w'))
  obtain ⟨L, hL⟩ : ∃ L, linF f 0 wd 0 = L := ⟨_, rfl⟩
  rw [hL]
  refine callsIn_of_wp_marks Tryz.func19 rfl trivial ?_ rfl
  simp only [Tryz.ntmps19, List.size_toArray, List.length_cons, List.length_nil, Nat.reduceAdd, Nat.reduceSub, Array.replicate_succ, Array.replicate_zero, List.push_toArray, List.append_toArray, List.nil_append, List.cons_append]
  gi_wp2_with (first
    | (refine ⟨trivial, ?_⟩; gi_at_call 44; (refine (callsIn_wide.2 (HW.out _)).mono ?_); rintro e w' ⟨rfl, rfl⟩)
    | (refine ⟨trivial, ?_⟩; gi_at_call 48; (refine (callsIn_wide.2 (HR.out _ (Below.refl _ _))).mono ?_); rintro e w2 ⟨v, rfl, _, hB⟩; have HB := Lib.hid hB; clear hB)
    | (refine ⟨trivial, ?_⟩; gi_at_call 49; refine (pieces_in d _ _).mono ?_; rintro e w' ⟨rfl, rfl⟩))
  have hS0 : w.heap.size ≤ w2.heap.size := HB.out.size
  have HPG := Pg.start HB.out wd w2.heap.size rfl
  obtain ⟨S, hS⟩ : ∃ S, w2.heap.size = S := ⟨_, rfl⟩
  rw [hS] at HPG hS0 ⊢
  obtain ⟨A1, hA1⟩ : ∃ A1, w2.alloc (.cells #[.slice none 0 0, .int .i64 wd, .int .i64 0] 62) = A1 := ⟨_, rfl⟩
  have z1 : A1.heap.size = S + 1 := by rw [← hA1, ← hS]; simp
  rw [hA1] at HPG ⊢
  obtain ⟨A2, hA2⟩ : ∃ A2, A1.alloc (.cells #[.pointer (some ⟨S, 0, none⟩)] 60) = A2 := ⟨_, rfl⟩
  have z2 : A2.heap.size = S + 2 := by rw [← hA2]; simp [z1]
  have q2 : A2.heap[S + 1]? = some (.cells #[.pointer (some ⟨S, 0, none⟩)] 60 (0, 0)) := by rw [← hA2, ← z1]; exact heap_alloc_new A1 _
  replace HPG := HPG.alloc (.cells #[.pointer (some ⟨S, 0, none⟩)] 60)
  rw [hA2] at HPG ⊢
  obtain ⟨A3, hA3⟩ : ∃ A3, A2.alloc (.cells #[.string d] 9) = A3 := ⟨_, rfl⟩
  have z3 : A3.heap.size = S + 3 := by rw [← hA3]; simp [z2]
  have q3 : A3.heap[S + 2]? = some (.cells #[.string d] 9 (0, 0)) := by rw [← hA3, ← z2]; exact heap_alloc_new A2 _
  have q4 : A3.heap[S + 1]? = some (.cells #[.pointer (some ⟨S, 0, none⟩)] 60 (0, 0)) := by rw [← hA3]; exact (Below.heap_alloc _ _ _ (by omega)).trans q2
  replace HPG := HPG.alloc (.cells #[.string d] 9)
  rw [hA3] at HPG ⊢
  refine range_own (α := Unit) rfl h1 (gf := 78) (lb := #[.pointer (some ⟨S + 1 + 1, 0, none⟩)]) rfl trivial (enters_of Tryz.func78 (by kernel_rfl) rfl)
    (encs := fun _ => #[.string d, .string ⟨#[]⟩]) (safe := safeT) (fun o h => safe_not h) (own := ownP S) (pieces1_seq (n - 1) (by omega) (S + 1 + 1) d u hs (by omega) hob htr hpx safeT (fun o h => safe_not h) (ownP S)) (fun _ => rfl)
    (PgI w S wd d fun s la l => (s = [] ∧ la = 0 ∧ l = []) ∨ (s = [()] ∧ la = stI L ∧ l = putI 0 L)) (fun _ _ _ => False) (pg_stands (by omega) _) (fun c => ⟨fun _ _ _ h => h.elim, fun _ _ _ h => h.elim⟩) (fun s A h => (cell_of1 h.1.2).1)
    ⟨⟨q4, q3⟩, _, _, _, .inl ⟨rfl, rfl, rfl⟩, HPG⟩ ?a1 ?assign ?body ?done ?stop
  case assign =>
    intro l' x V K hK
    gi_wp2
    exact hK
  case stop =>
    rintro D c pre V hD _ h _
    exact h.elim
  case body =>
    rintro l' pre x V ⟨⟨c1, c2⟩, ov, la, l, hq, hp⟩ hpre
    obtain rfl : pre = [] := by cases pre with
                              | nil => rfl
                              | cons a r => simp at hpre
    obtain ⟨rfl, rfl⟩ : la = 0 ∧ l = [] := by
      rcases hq with ⟨_, h⟩ | ⟨h, _⟩
      · exact h
      · cases h
    have HA := Lib.hid (addSource_one d f (by unfold maxLen; omega) hr hv w V (hg.below hp.below h6) (Nat.le_trans h6 hp.below.size) S ov wd 0 [] hp htab hw2 (by simp))
    rw [hL] at HA
    have h3 : 1 ≤ n - 1 - 1 := by omega
    have e1 := (cell_of1 c1).1
    have C1 := Lib.hid c1
    have C2 := Lib.hid c2
    clear c1 c2 hp hq
    gi_wp2_with ((refine ⟨trivial, ?_⟩; gi_at_call 50; (refine (CallsIn.inRound l' (callsIn_wide.2 HA.out)).mono ?_); rintro e w5 ⟨rfl, ov5, hp5, hk5⟩))
    exact ⟨leaves_kept (by omega) hk5.kept hp5, ⟨kept_cells hk5.kept (by omega) (by decide) C1.out, kept_cells hk5.kept (by omega) (by decide) C2.out⟩, ov5, _, _, .inr ⟨rfl, rfl, rfl⟩, by simpa using hp5⟩
  case done =>
    rintro D ys V hD rfl ⟨⟨c1, c2⟩, ov, la, l, hq, hp⟩ hK
    obtain ⟨rfl, rfl⟩ : la = stI L ∧ l = putI 0 L := by
      rcases hq with ⟨h, _⟩ | ⟨_, h⟩
      · cases h
      · exact h
    have e1 := (cell_of1 c1).1
    obtain ⟨p0, p1, p2, p3, p4⟩ := hp.cells
    have hcv := conv_pg hp
    gi_wp2
    refine ⟨by simp, .inl ⟨_, _, rfl, run_takeDeferred hK, ?_⟩⟩
    refine ⟨.tuple #[.string ⟨(putI 0 L).toArray⟩, .int .i64 0], by simp [results, Tryz.results19, go_sem], rfl, ?_⟩
    exact hp.below.grown (grownBy_putObj' V D _) hp.below.size (fun k e => by cases e; omega)
end Go.Proofs.YtedabholcldgbaaGreatDoor.Y

/- layout.Text of any text. -/
namespace Go.Proofs.YtedabholcldgbaaGreatDoor.Y
open Go.RowKit Go.Shelf Go.Deep
attribute [local go_sem] Oper.semAt_some

set_option linter.unusedSimpArgs false in
set_option maxHeartbeats 4000000 in
set_option maxRecDepth 100000 in
theorem addComment_any (u : ByteArray) (hu : u.size ≤ 100000000) (w0 w : World) (S : Nat) (ov : Value) (wd : Nat) (la : Int) (l : List UInt8) (h : Pg w0 w S ov wd la l) (hl : l.length ≤ 70000000000000) :
    Calls Tryz.prog 51 #[.pointer (some ⟨S, 0, none⟩), .string u] w fun e w' => PWrote w0 w w' S ov wd (cmtS (la, l) u.data.toList).1 (cmtS (la, l) u.data.toList).2 e := by
  obtain ⟨s0, s1, s2, s3, s4⟩ := h.cells
  have HADD := Lib.hid fun ap => add_any u 1 ap w0 w S ov wd la l h hl hu
  clear h
  by_cases h2 : la = 2
  · have eC : cmtS (la, l) u.data.toList = (1, l ++ ((if true = true then [10] else []) ++ (u.data.toList ++ [10]))) := by unfold cmtS; rw [if_pos (.inl h2), if_pos rfl]
    have g2 : (la == 2) = true := by simpa using h2
    rw [eC]
    clear h2 eC
    go_enter Tryz.func51, Tryz.ntmps51
    go_wp2_with (go_at_call 83; (with_reducible refine (HADD.out _).mono ?_); rintro e w4 ⟨rfl, hp4⟩; have HP4 := Lib.hid hp4; clear hp4)
    go_end0
    exact ⟨rfl, HP4.out⟩
  · have g2 : (la == 2) = false := by simpa using h2
    by_cases h3 : la = 3
    · have eC : cmtS (la, l) u.data.toList = (1, l ++ ((if true = true then [10] else []) ++ (u.data.toList ++ [10]))) := by unfold cmtS; rw [if_pos (.inr h3), if_pos rfl]
      have g3 : (la == 3) = true := by simpa using h3
      rw [eC]
      clear h2 h3 eC
      go_enter Tryz.func51, Tryz.ntmps51
      go_wp2_with (go_at_call 83; (with_reducible refine (HADD.out _).mono ?_); rintro e w4 ⟨rfl, hp4⟩; have HP4 := Lib.hid hp4; clear hp4)
      go_end0
      exact ⟨rfl, HP4.out⟩
    · have eC : cmtS (la, l) u.data.toList = (1, l ++ ((if false = true then [10] else []) ++ (u.data.toList ++ [10]))) := by unfold cmtS; rw [if_neg (fun e => e.elim h2 h3), if_neg (by decide)]
      have g3 : (la == 3) = false := by simpa using h3
      rw [eC]
      clear h2 h3 eC
      go_enter Tryz.func51, Tryz.ntmps51
      go_wp2_with (go_at_call 83; (with_reducible refine (HADD.out _).mono ?_); rintro e w4 ⟨rfl, hp4⟩; have HP4 := Lib.hid hp4; clear hp4)
      go_end0
      exact ⟨rfl, HP4.out⟩
theorem safeT1 (v : Value) (t : TypeId) (ht : t ≠ 5) : safeT (.cells #[v] t (0, 0)) := fun c fz e => by
  injection e with _ e _
  exact ht e
set_option linter.unusedSimpArgs false in
set_option maxRecDepth 100000 in
set_option maxHeartbeats 4000000 in
theorem text_in (n : Nat) (hn : 10 ≤ n) (d : ByteArray) (fs : List Fm) (wd : Nat) (hw1 : 20 ≤ wd) (hw2 : wd ≤ 200) (hr : readR d = .ok fs) (w : World) (hg : Glob w) (h6 : 8 ≤ w.heap.size) (htab : Tab w.heap.size w) :
    CallsIn Fence.wide n Tryz.prog 19 #[.string d, .int .i64 wd] w fun e w' => e = .returned (.tuple #[.string ⟨(piesS wd (0, []) (piecesT d.data.toList)).2.toArray⟩, .int .i64 0]) ∧ Below w.heap.size w w' := by
  have h1 : 1 ≤ n := by omega
  have hd := readR_size hr
  have g1 : (20 : Int) ≤ (wd : Int) := by omega
  have g2 : (wd : Int) ≤ 200 := by omega
  have HW := Lib.hid fun W => isWidth_any (wd : Int) W
  rw [show (decide ((20 : Int) ≤ (wd : Int)) && decide ((wd : Int) ≤ 200)) = true by simp; omega] at HW
  have HR := Lib.hid fun W (k : Below w.heap.size w W) => ((read_any d W (by unfold maxLen; omega) (hg.below k h6) (Nat.le_trans h6 k.size)).mono fun e w' hh => (by rw [hr] at hh; exact hh : ∃ v, e = .returned (.tuple #[v, .int .i64 0]) ∧ Forms W.heap.size w' v fs ∧ Below W.heap.size W w'))
  obtain ⟨hgood, hcost, hsz, _⟩ := pies_all hr
  obtain ⟨PT, hPT⟩ : ∃ PT, piecesT d.data.toList = PT := ⟨_, rfl⟩
  have HPS := pieces_seq (n - 1) (by omega)
  rw [hPT] at hgood hcost hsz ⊢
  refine callsIn_of_wp_marks Tryz.func19 rfl trivial ?_ rfl
  simp only [Tryz.ntmps19, List.size_toArray, List.length_cons, List.length_nil, Nat.reduceAdd, Nat.reduceSub, Array.replicate_succ, Array.replicate_zero, List.push_toArray, List.append_toArray, List.nil_append, List.cons_append]
  gi_wp2_with (first
    | (refine ⟨trivial, ?_⟩; gi_at_call 44; (refine (callsIn_wide.2 (HW.out _)).mono ?_); rintro e w' ⟨rfl, rfl⟩)
    | (refine ⟨trivial, ?_⟩; gi_at_call 48; (refine (callsIn_wide.2 (HR.out _ (Below.refl _ _))).mono ?_); rintro e w2 ⟨v, rfl, _, hB⟩; have HB := Lib.hid hB; clear hB)
    | (refine ⟨trivial, ?_⟩; gi_at_call 49; refine (pieces_in d _ _).mono ?_; rintro e w' ⟨rfl, rfl⟩))
  have hS0 : w.heap.size ≤ w2.heap.size := HB.out.size
  have HPG := Pg.start HB.out wd w2.heap.size rfl
  obtain ⟨S, hS⟩ : ∃ S, w2.heap.size = S := ⟨_, rfl⟩
  rw [hS] at HPG hS0 ⊢
  obtain ⟨A1, hA1⟩ : ∃ A1, w2.alloc (.cells #[.slice none 0 0, .int .i64 wd, .int .i64 0] 62) = A1 := ⟨_, rfl⟩
  have z1 : A1.heap.size = S + 1 := by rw [← hA1, ← hS]; simp
  rw [hA1] at HPG ⊢
  obtain ⟨A2, hA2⟩ : ∃ A2, A1.alloc (.cells #[.pointer (some ⟨S, 0, none⟩)] 60) = A2 := ⟨_, rfl⟩
  have z2 : A2.heap.size = S + 2 := by rw [← hA2]; simp [z1]
  have q2 : A2.heap[S + 1]? = some (.cells #[.pointer (some ⟨S, 0, none⟩)] 60 (0, 0)) := by rw [← hA2, ← z1]; exact heap_alloc_new A1 _
  replace HPG := HPG.alloc (.cells #[.pointer (some ⟨S, 0, none⟩)] 60)
  rw [hA2] at HPG ⊢
  obtain ⟨A3, hA3⟩ : ∃ A3, A2.alloc (.cells #[.string d] 9) = A3 := ⟨_, rfl⟩
  have z3 : A3.heap.size = S + 3 := by rw [← hA3]; simp [z2]
  have q3 : A3.heap[S + 2]? = some (.cells #[.string d] 9 (0, 0)) := by rw [← hA3, ← z2]; exact heap_alloc_new A2 _
  have q4 : A3.heap[S + 1]? = some (.cells #[.pointer (some ⟨S, 0, none⟩)] 60 (0, 0)) := by rw [← hA3]; exact (Below.heap_alloc _ _ _ (by omega)).trans q2
  replace HPG := HPG.alloc (.cells #[.string d] 9)
  rw [hA3] at HPG ⊢
  refine range_own (α := List UInt8 × List UInt8) rfl h1 (gf := 78) (lb := #[.pointer (some ⟨S + 1 + 1, 0, none⟩)]) rfl trivial (enters_of Tryz.func78 (by kernel_rfl) rfl)
    (encs := encQ) (safe := safeT) (fun o h => safe_not h) (own := ownP S) (HPS (S + 1 + 1) d (by omega) safeT (fun o h => safe_not h) (fun v => safeT1 v _ (by decide)) (fun v => safeT1 v _ (by decide)) (fun v => safeT1 v _ (by decide)) (ownP S)) (fun _ => rfl)
    (PgI w S wd d fun s la l => la = (piesS wd (0, []) s).1 ∧ l = (piesS wd (0, []) s).2) (fun _ _ _ => False) (pg_stands (by omega) _) (fun c => ⟨fun _ _ _ h => h.elim, fun _ _ _ h => h.elim⟩) (fun s A h => (cell_of1 h.1.2).1)
    ⟨⟨q4, q3⟩, _, _, _, ⟨rfl, rfl⟩, HPG⟩ ?a1 ?assign ?body ?done ?stop
  case assign =>
    intro l' x V K hK
    gi_wp2
    exact hK
  case stop =>
    rintro D c pre V hD _ h _
    exact h.elim
  case body =>
    rintro l' pre ⟨src, cmt⟩ V ⟨⟨c1, c2⟩, ov, la, l, ⟨rfl, rfl⟩, hp⟩ hpre
    rw [hPT] at hpre
    obtain ⟨hm, hroom⟩ := pies_room hgood hcost hpre wd
    obtain ⟨hrd, hvd⟩ := hgood _ hm
    obtain ⟨hz1, hz2⟩ := hsz _ hm
    simp only at hrd hvd hz1 hz2 hroom
    obtain ⟨sd, hsd⟩ : ∃ sd : ByteArray, (⟨src.toArray⟩ : ByteArray) = sd := ⟨_, rfl⟩
    have hsdz : sd.size ≤ maxLen := by rw [← hsd]; show src.length ≤ maxLen; unfold maxLen; omega
    rw [hsd] at hrd
    obtain ⟨G, hG⟩ : ∃ G, gsR src = G := ⟨_, rfl⟩
    rw [hG] at hrd hvd hroom
    obtain ⟨ST, hST⟩ : ∃ ST, piesS wd (0, []) pre = ST := ⟨_, rfl⟩
    have hnext := piesS_next wd (0, []) pre (src, cmt)
    rw [hST] at hp hroom hnext
    have hfl := frmsS_len wd G ST hvd
    obtain ⟨sla, sl⟩ := ST
    simp only at hp hroom hfl
    have HA := Lib.hid (addSource_any sd G hsdz hrd hvd w V (hg.below hp.below h6) (Nat.le_trans h6 hp.below.size) S ov wd sla sl hp htab hw2 (by omega))
    obtain ⟨ST2, hST2⟩ : ∃ ST2, frmsS wd (sla, sl) G = ST2 := ⟨_, rfl⟩
    rw [hST2] at HA hfl
    have h3 : 1 ≤ n - 1 - 1 := by omega
    have e1 := (cell_of1 c1).1
    have C1 := Lib.hid c1
    have C2 := Lib.hid c2
    by_cases hc : cmt = []
    · subst hc
      have e0 : (⟨([] : List UInt8).toArray⟩ : ByteArray) = ⟨#[]⟩ := rfl
      have hN : piesS wd (0, []) (pre ++ [(src, [])]) = ST2 := by rw [hnext]; unfold pieS; rw [if_pos rfl]; simp only; rw [hG, hST2]
      have HN := Lib.hid hN
      simp only [encQ, e0, hsd]
      clear c1 c2 hp hN hnext hST hST2 hG hsd hrd hvd hroom hfl hpre hm
      gi_wp2_with ((refine ⟨trivial, ?_⟩; gi_at_call 50; (refine (CallsIn.inRound l' (callsIn_wide.2 HA.out)).mono ?_); rintro e w5 ⟨rfl, ov5, hp5, hk5⟩))
      exact ⟨leaves_kept (by omega) hk5.kept hp5, ⟨kept_cells hk5.kept (by omega) (by decide) C1.out, kept_cells hk5.kept (by omega) (by decide) C2.out⟩, ov5, _, _, ⟨by rw [HN.out], by rw [HN.out]⟩, hp5⟩
    · obtain ⟨u, hu⟩ : ∃ u : ByteArray, (⟨cmt.toArray⟩ : ByteArray) = u := ⟨_, rfl⟩
      have hemp : u.toList.isEmpty = false := by
        rw [← hu, ByteArray.toList_eq]
        cases cmt with
        | nil => exact absurd rfl hc
        | cons a r => rfl
      have hul : u.data.toList = cmt := by rw [← hu]
      have huz : u.size ≤ 100000000 := by rw [← hu]; show cmt.length ≤ 100000000; omega
      have hN : piesS wd (0, []) (pre ++ [(src, cmt)]) = cmtS ST2 u.data.toList := by rw [hnext]; unfold pieS; rw [if_neg hc]; simp only; rw [hG, hST2, hul]
      have HN := Lib.hid hN
      have HC := Lib.hid fun W ov5 (hp5 : Pg w W S ov5 wd ST2.1 ST2.2) => addComment_any u huz w W S ov5 wd ST2.1 ST2.2 hp5 (by omega)
      simp only [encQ, hu, hsd]
      clear c1 c2 hp hN hnext hST hST2 hG hsd hrd hvd hroom hfl hpre hm hu hul hc
      gi_wp2_with (first
        | (refine ⟨trivial, ?_⟩; gi_at_call 50; (refine (CallsIn.inRound l' (callsIn_wide.2 HA.out)).mono ?_); rintro e w5 ⟨rfl, ov5, hp5, hk5⟩; have e1b := (cell_of1 (kept_cells hk5.kept (by omega) (by decide) C1.out)).1; have HP5 := Lib.hid hp5; have HK5 := Lib.hid hk5; clear hp5 hk5)
        | (refine ⟨trivial, ?_⟩; gi_at_call 51; (refine (CallsIn.inRound l' (callsIn_wide.2 (HC.out _ _ HP5.out))).mono ?_); rintro e w6 ⟨rfl, ov6, hp6, hk6⟩))
      have hk := HK5.out.trans hk6
      exact ⟨leaves_kept (by omega) hk.kept hp6, ⟨kept_cells hk.kept (by omega) (by decide) C1.out, kept_cells hk.kept (by omega) (by decide) C2.out⟩, ov6, _, _, ⟨by rw [HN.out], by rw [HN.out]⟩, hp6⟩
  case done =>
    rintro D ys V hD hys ⟨⟨c1, c2⟩, ov, la, l, ⟨rfl, rfl⟩, hp⟩ hK
    obtain rfl : ys = PT := hys.trans hPT
    obtain ⟨L, hL⟩ : ∃ L, (piesS wd (0, []) ys).2 = L := ⟨_, rfl⟩
    rw [hL] at hp
    have e1 := (cell_of1 c1).1
    obtain ⟨p0, p1, p2, p3, p4⟩ := hp.cells
    have hcv := conv_pg hp
    gi_wp2
    refine ⟨by simp, .inl ⟨_, _, rfl, run_takeDeferred hK, ?_⟩⟩
    refine ⟨.tuple #[.string ⟨L.toArray⟩, .int .i64 0], by simp [results, Tryz.results19, go_sem], by rw [hL], ?_⟩
    exact hp.below.grown (grownBy_putObj' V D _) hp.below.size (fun k e => by cases e; omega)
set_option linter.unusedSimpArgs false in
set_option maxHeartbeats 4000000 in
set_option maxRecDepth 100000 in
theorem text_any (d : ByteArray) (x : Int) (hx : I64 x) (hd : d.size ≤ maxLen) (w : World) (hg : Glob w) (h6 : 8 ≤ w.heap.size) (htab : Tab w.heap.size w) :
    Calls Tryz.prog 19 #[.string d, .int .i64 x] w fun e w' => FmtEnd w w' (textR d x) e := by
  by_cases hw : 20 ≤ x ∧ x ≤ 200
  · cases hr : readR d with
    | ok fs =>
      obtain ⟨wd, rfl⟩ : ∃ wd : Nat, x = (wd : Int) := ⟨x.toNat, by omega⟩
      have := callsIn_wide.1 (text_in 10 (by decide) d fs wd (by omega) (by omega) hr w hg h6 htab)
      rw [(pies_all hr).2.2.2] at this
      rw [textR_ok (by omega) (by omega) hr]
      exact this
    | err c =>
      rw [textR_err hw hr]
      have HW := Lib.hid fun W => isWidth_any x W
      rw [show (decide ((20 : Int) ≤ x) && decide (x ≤ 200)) = true by simp; omega] at HW
      have HR := Lib.hid ((read_any d w hd hg h6).mono fun e w' hh => (by rw [hr] at hh; exact hh : e = .returned (.tuple #[.slice none 0 0, .int .i64 c]) ∧ Below w.heap.size w w'))
      have hc : (c != 0) = true := by have := readR_err hr; simpa using this
      clear hr hg htab hw
      refine callsIn_wide.1 (show CallsIn Fence.wide 10 _ _ _ _ _ from ?_)
      have h1 : 1 ≤ 10 := by decide
      refine callsIn_of_wp_marks Tryz.func19 rfl trivial ?_ rfl
      simp only [Tryz.ntmps19, List.size_toArray, List.length_cons, List.length_nil, Nat.reduceAdd, Nat.reduceSub, Array.replicate_succ, Array.replicate_zero, List.push_toArray, List.append_toArray, List.nil_append, List.cons_append]
      gi_wp2_with (first
        | (refine ⟨trivial, ?_⟩; gi_at_call 44; (refine (callsIn_wide.2 (HW.out _)).mono ?_); rintro e w' ⟨rfl, rfl⟩)
        | (refine ⟨trivial, ?_⟩; gi_at_call 48; (refine (callsIn_wide.2 HR.out).mono ?_); rintro e w2 ⟨rfl, hB⟩; have HB := Lib.hid hB; clear hB))
      exact ⟨.tuple #[.string ⟨#[]⟩, .int .i64 c], by simp [results, Tryz.results19, go_sem], rfl, HB.out⟩
  · rw [textR_no hw]
    have HW := Lib.hid fun W => isWidth_any x W
    rw [show (decide ((20 : Int) ≤ x) && decide (x ≤ 200)) = false by simp; omega] at HW
    clear hg htab hw
    refine callsIn_wide.1 (show CallsIn Fence.wide 10 _ _ _ _ _ from ?_)
    have h1 : 1 ≤ 10 := by decide
    refine callsIn_of_wp_marks Tryz.func19 rfl trivial ?_ rfl
    simp only [Tryz.ntmps19, List.size_toArray, List.length_cons, List.length_nil, Nat.reduceAdd, Nat.reduceSub, Array.replicate_succ, Array.replicate_zero, List.push_toArray, List.append_toArray, List.nil_append, List.cons_append]
    gi_wp2_with (refine ⟨trivial, ?_⟩; gi_at_call 44; (refine (callsIn_wide.2 (HW.out _)).mono ?_); rintro e w' ⟨rfl, rfl⟩)
    exact ⟨.tuple #[.string ⟨#[]⟩, .int .i64 1], by simp [results, Tryz.results19, go_sem], rfl, Below.refl _ _⟩
end Go.Proofs.YtedabholcldgbaaGreatDoor.Y

/- The document's wide, and its Text along the items. -/
namespace Go.Proofs.YtedabholcldgbaaGreatDoor.Y
open Go.RowKit Go.Deep

def wideF (l : List UInt8) : Bool := decide (endF l < l.length)
theorem stI_wide (l : List UInt8) : stI l = if wideF l = true then 3 else 2 := by
  unfold stI wideF
  rcases endF_index l with ⟨h1, h2⟩ | ⟨h1, h2, h3⟩
  · rw [if_neg (by omega), if_neg (by simp; omega)]
  · rw [if_pos (by omega), if_pos (by simpa using h3)]
set_option linter.unusedSimpArgs false in
set_option maxHeartbeats 2000000 in
theorem wide_any (s : ByteArray) (hs : s.size ≤ 1000000000) (w : World) :
    Calls Tryz.prog 54 #[.string s] w fun e w' => e = .returned (.bool (wideF s.data.toList)) ∧ w = w' := by
  obtain ⟨R, hR⟩ : ∃ R, endF s.data.toList = R := ⟨_, rfl⟩
  obtain ⟨B, hB⟩ : ∃ B, wideF s.data.toList = B := ⟨_, rfl⟩
  have hRB : B = decide (R < s.size) := by rw [← hB, ← hR]; unfold wideF; simp
  rw [hB]
  have hs1 : (s.size : Int) ≤ 1000000000 := by omega
  have HR := Lib.hid hR
  have HRB := Lib.hid hRB
  clear hR hB hRB
  go_enter Tryz.func54, Tryz.ntmps54
  go_wp2_with fail
  go_loopg [3] (s.size) (fun m i wr => ∃ k : Nat, k ≤ s.size ∧ m = s.size - k ∧ i = .int .i64 k ∧ R = k + endF (s.data.toList.drop k) ∧ w = wr)
  case atStart => exact ⟨0, by omega, rfl, rfl, by rw [List.drop_zero, HR.out]; omega, rfl⟩
  case round =>
    obtain ⟨k, hk, rfl, rfl, hr, rfl⟩ := hrel
    by_cases hlt : k < s.size
    · have gi : (k : Int) < (s.size : Int) := by omega
      have gi2 : (0 : Int) ≤ (k : Int) := by omega
      rw [drop_byte' s k hlt, endF] at hr
      by_cases h10 : s[k].toNat = 10
      · have g1 : ((s[k].toNat : Int) == 10) = true := by simp; omega
        rw [if_pos h10] at hr
        have hb : B = true := by rw [HRB.out]; simp; omega
        have HB := Lib.hid hb
        clear hr h10 hb
        go_wp2_with fail
        go_ret
        exact ⟨by rw [HB.out]; rfl, rfl⟩
      · have g1 : ((s[k].toNat : Int) == 10) = false := by simp; omega
        rw [if_neg h10] at hr
        have HR2 := Lib.hid hr
        clear hr h10
        go_wp2_with fail
        go_roundg (s.size - (k + 1))
        case measure => omega
        case rel => exact ⟨k + 1, by omega, rfl, by go_num, by have := HR2.out; omega, rfl⟩
    · have gi : ¬ (k : Int) < (s.size : Int) := by omega
      have hr2 := hr.trans (by rw [end_end s k (by omega)]; rfl : k + endF (s.data.toList.drop k) = k)
      have hb : B = false := by rw [HRB.out]; simp; omega
      have HB := Lib.hid hb
      clear hr hr2 hb
      go_wp2_with fail
      go_ret
      exact ⟨by rw [HB.out]; rfl, rfl⟩
/-- Along the document's items. -/
def putU (wd : Nat) (st : Int × List UInt8) (i : It) : Int × List UInt8 := if i.com.data.toList = [] then frmS wd st i.fm.form else cmtS st i.com.data.toList
def runU (wd : Nat) (st : Int × List UInt8) (us : List It) : Int × List UInt8 := us.foldl (putU wd) st
/-- The lines of the last form. -/
def lastU (wd : Nat) (us : List It) : List UInt8 := us.foldl (fun x i => if i.com.data.toList = [] then linF i.fm.form 0 wd 0 else x) []
theorem runU_enc (wd : Nat) : ∀ (items : List (Option (List UInt8))) (ts : List T) (st : Int × List UInt8), (∀ c, some c ∈ items → c ≠ []) → forms items ≤ ts.length → runU wd st (encI items ts) = runI wd st items (ts.map T.form)
  | [], _, st, _, _ => by rw [encI, runI]; rfl
  | some c :: r, ts, st, h, hf => by
    have ih := runU_enc wd r ts (cmtS st c) (fun d hd => h d (by simp [hd])) (by rw [forms_cons_some] at hf; exact hf)
    have hc := h c (by simp)
    rw [encI, runI, ← ih]
    show runU wd (putU wd st _) _ = _
    unfold putU
    simp only
    rw [if_neg hc]
  | none :: r, [], st, _, hf => by rw [forms_cons_none] at hf; simp at hf
  | none :: r, t :: ts, st, h, hf => by
    have ih := runU_enc wd r ts (frmS wd st t.form) (fun d hd => h d (by simp [hd])) (by rw [forms_cons_none] at hf; simpa using hf)
    rw [encI, List.map_cons, runI, ← ih]
    show runU wd (putU wd st _) _ = _
    unfold putU
    rw [if_pos (by simp)]
theorem enc_mem : ∀ (items : List (Option (List UInt8))) (ts : List T), (∀ c, some c ∈ items → c ≠ []) → forms items ≤ ts.length → ∀ i ∈ encI items ts, i.com.data.toList = [] → i.fm ∈ ts
  | [], _, _, _, i, hi, _ => by rw [encI] at hi; simp at hi
  | some c :: r, ts, h, hf, i, hi, hc => by
    rw [encI] at hi
    rcases List.mem_cons.1 hi with rfl | hi
    · exact absurd hc (h c (by simp))
    · exact enc_mem r ts (fun d hd => h d (by simp [hd])) (by rw [forms_cons_some] at hf; exact hf) i hi hc
  | none :: r, [], _, hf, i, hi, _ => by rw [forms_cons_none] at hf; simp at hf
  | none :: r, t :: ts, h, hf, i, hi, hc => by
    rw [encI] at hi
    rcases List.mem_cons.1 hi with rfl | hi
    · simp
    · exact List.mem_cons_of_mem _ (enc_mem r ts (fun d hd => h d (by simp [hd])) (by rw [forms_cons_none] at hf; simpa using hf) i hi hc)
theorem enc_com : ∀ (items : List (Option (List UInt8))) (ts : List T) (N : Nat), (∀ c, some c ∈ items → c.length ≤ N) → ∀ i ∈ encI items ts, i.com.size ≤ N
  | [], _, _, _, i, hi => by rw [encI] at hi; simp at hi
  | some c :: r, ts, N, h, i, hi => by
    rw [encI] at hi
    rcases List.mem_cons.1 hi with rfl | hi
    · exact h c (by simp)
    · exact enc_com r ts N (fun d hd => h d (by simp [hd])) i hi
  | none :: r, [], N, h, i, hi => by
    rw [encI] at hi
    rcases List.mem_cons.1 hi with rfl | hi
    · exact Nat.zero_le _
    · exact enc_com r [] N (fun d hd => h d (by simp [hd])) i hi
  | none :: r, t :: ts, N, h, i, hi => by
    rw [encI] at hi
    rcases List.mem_cons.1 hi with rfl | hi
    · exact Nat.zero_le _
    · exact enc_com r ts N (fun d hd => h d (by simp [hd])) i hi
theorem trm_len (l : List UInt8) : (trmF l).length ≤ l.length := by
  unfold trmF
  rw [List.length_reverse]
  have := (List.dropWhile_sublist (fun b : UInt8 => blankB (b.toNat : Int)) (l := l.reverse)).length_le
  simpa using this
theorem items_short (N : Nat) : ∀ (n : Nat) (l : List UInt8) (bare : Bool) (c : List UInt8), some c ∈ itemsL N n l bare → c.length ≤ l.length
  | 0, _, _, _, h => by rw [itemsL] at h; simp at h
  | n + 1, [], _, _, h => by rw [itemsL] at h; simp at h
  | n + 1, b :: r, bare, c, h => by
    rw [itemsL] at h
    split at h
    · have := items_short N n _ _ c h
      simp only [List.length_cons]; omega
    · split at h
      · have := items_short N n _ _ c h
        simp only [List.length_cons]; omega
      · split at h
        · rcases List.mem_append.1 h with h | h
          · split at h
            · simp only [List.mem_singleton, Option.some.injEq] at h
              have h1 := trm_len ((b :: r).take (endF (b :: r)))
              rw [h]
              simp only [List.length_take] at h1
              omega
            · simp at h
          · have := items_short N n _ _ c h
            simp only [List.length_drop] at this
            omega
        · rcases List.mem_cons.1 h with h | h
          · cases h
          · have := items_short N n _ _ c h
            simp only [List.length_drop] at this
            omega
theorem runU_next (wd : Nat) (us : List It) (k : Nat) (h : k < us.length) : runU wd (0, []) (us.take (k + 1)) = putU wd (runU wd (0, []) (us.take k)) us[k] := by
  unfold runU
  rw [List.take_succ_eq_append_getElem h, List.foldl_append]
  rfl
theorem lastU_next (wd : Nat) (us : List It) (k : Nat) (h : k < us.length) : lastU wd (us.take (k + 1)) = if us[k].com.data.toList = [] then linF us[k].fm.form 0 wd 0 else lastU wd (us.take k) := by
  unfold lastU
  rw [List.take_succ_eq_append_getElem h, List.foldl_append]
  rfl
/-- What stands last ahead of item k. -/
theorem la_zero (wd : Nat) (us : List It) : (runU wd (0, []) (us.take 0)).1 = 0 := rfl
theorem la_prev (wd : Nat) (us : List It) (k : Nat) (h : k < us.length) : (runU wd (0, []) (us.take (k + 1))).1 = if us[k].com.data.toList = [] then stI (lastU wd (us.take (k + 1))) else 1 := by
  rw [runU_next wd us k h, lastU_next wd us k h]
  unfold putU
  by_cases hc : us[k].com.data.toList = []
  · rw [if_pos hc, if_pos hc, if_pos hc]; rfl
  · rw [if_neg hc, if_neg hc]; rfl
/-- A form's valid, and a comment is short. -/
structure Fit (us : List It) : Prop where
  form : ∀ i ∈ us, i.com.data.toList = [] → validF i.fm.form = true
  com : ∀ i ∈ us, i.com.size ≤ 60000
  few : us.length ≤ 60001
theorem runU_len (wd : Nat) : ∀ (us : List It) (st : Int × List UInt8), (∀ i ∈ us, i.com.data.toList = [] → validF i.fm.form = true) → (∀ i ∈ us, i.com.size ≤ 60000) → (runU wd st us).2.length ≤ st.2.length + us.length * 96600002
  | [], st, _, _ => by simp [runU]
  | i :: us, st, h1, h2 => by
    have e : runU wd st (i :: us) = runU wd (putU wd st i) us := rfl
    have ih := runU_len wd us (putU wd st i) (fun j hj => h1 j (by simp [hj])) (fun j hj => h2 j (by simp [hj]))
    rw [e, List.length_cons]
    have h3 : (putU wd st i).2.length ≤ st.2.length + 96600002 := by
      unfold putU
      split
      · exact frmS_len (h1 i (by simp) (by assumption))
      · have a := cmtS_len st i.com.data.toList
        have b := h2 i (by simp)
        have c : i.com.data.toList.length = i.com.size := by simp
        omega
    omega
theorem runU_room {wd : Nat} {us : List It} (h : Fit us) (k : Nat) : (runU wd (0, []) (us.take k)).2.length ≤ 6000000000000 := by
  have h1 := runU_len wd (us.take k) (0, []) (fun i hi => h.form i (List.mem_of_mem_take hi)) (fun i hi => h.com i (List.mem_of_mem_take hi))
  have h2 : (us.take k).length * 96600002 ≤ 60001 * 96600002 := Nat.mul_le_mul_right _ (by have := h.few; rw [List.length_take]; omega)
  simp only [List.length_nil] at h1
  omega
theorem Own5.cell5 {B : Nat} {w0 w : World} {v : Value} {us : List It} (h : Own5 B w0 w v us) (k : Nat) (hk : k < us.length) :
    ∃ g cap, v = .slice (some ⟨g, 0, none⟩) us.length cap ∧ us.length ≤ cap ∧ g < w.heap.size ∧ w.cell? ⟨g, k * 5, none⟩ = some (.string us[k].com) ∧ w.cell? ⟨g, k * 5 + 1, none⟩ = some (.int .i64 us[k].fm.kd) ∧ w.cell? ⟨g, k * 5 + 2, none⟩ = some (.int .i64 us[k].fm.nn) ∧ w.cell? ⟨g, k * 5 + 3, none⟩ = some (.string us[k].fm.tx) ∧ w.cell? ⟨g, k * 5 + 4, none⟩ = some (.slice us[k].fm.ad us[k].fm.ks.length us[k].fm.cp) := by
  rcases h.own.2 with ⟨rfl, e⟩ | ⟨g, cap, cur, rfl, hb, hg, hr⟩
  · omega
  · obtain ⟨c0, c1, c2, c3, c4⟩ := cells5_get us k hk
    have key : ∀ {j : Nat} {u : Value}, (cells5 us)[j]? = some u → w.cell? ⟨g, j, none⟩ = some u := by
      intro j u hj
      rw [← hr.2.2.2, List.getElem?_take] at hj
      split at hj
      · simp only [World.cell?, hg]
        simpa using hj
      · cases hj
    exact ⟨g, cap, rfl, hr.1, lt_of_getElem? hg, key c0, key c1, key c2, key c3, key c4⟩
end Go.Proofs.YtedabholcldgbaaGreatDoor.Y

/- The document's Text of any text. -/
namespace Go.Proofs.YtedabholcldgbaaGreatDoor.Y
open Go.RowKit Go.Deep

set_option linter.unusedSimpArgs false in
set_option maxHeartbeats 4000000 in
set_option maxRecDepth 100000 in
theorem rtext_ok (s : ByteArray) (fs : List Fm) (wd : Nat) (hw1 : 20 ≤ wd) (hw2 : wd ≤ 200) (hr : readR s = .ok fs) (w : World) (htab : Tab w.heap.size w) :
    Calls Tryz.prog 20 #[.string s, .int .i64 wd] w fun e w' => FmtEnd w w' ((runI wd (0, []) (itemsL (s.size + 1) (s.size + 1) s.data.toList true) fs).2, 0) e := by
  have hs := (readR_loop hr).1
  have HA := Q.read_any s w (by unfold maxLen; omega)
  rw [hr] at HA
  have HA := Lib.hid HA
  have HI := fun W => ritems_any s fs hr W
  obtain ⟨ALL, hALL⟩ : ∃ A, itemsL (s.size + 1) (s.size + 1) s.data.toList true = A := ⟨_, rfl⟩
  rw [hALL] at HI ⊢
  have HI := Lib.hid HI
  have HALL := Lib.hid hALL
  have g1 : (20 : Int) ≤ (wd : Int) := by omega
  have g2 : (wd : Int) ≤ 200 := by omega
  have HV := Lib.hid (readR_valid hr)
  have HR := Lib.hid hr
  have HT := Lib.hid htab
  clear htab hr hALL
  have d1 : decide ((wd : Int) < 20) = false := by simp; omega
  have d2 : decide ((200 : Int) < (wd : Int)) = false := by simp; omega
  go_enter Tryz.func20, Tryz.ntmps20
  go_wp2_with (first
    | (go_at_call 52; (with_reducible refine HA.out.mono ?_); rintro e w2 ⟨v, rfl, _, hB⟩; have HB := Lib.hid hB; clear hB)
    | (go_at_call 53; (with_reducible refine (HI.out _).mono ?_); rintro e w3 ⟨v, ts, rfl, hfs, hin, hO⟩; have HO := Lib.hid hO; have HF := Lib.hid hfs; have HIN := Lib.hid hin; clear hO hfs hin))
  have hALL := HALL.out
  obtain ⟨us, hus⟩ : ∃ us, encI ALL ts = us := ⟨_, rfl⟩
  have hsome : ∀ c, some c ∈ ALL → c ≠ [] := fun c hc => items_some (s.size + 1) (s.size + 1) s.data.toList true c (by rw [hALL]; exact hc)
  have hform : forms ALL ≤ ts.length := by rw [← hALL, items_read HR.out, ← HF.out, List.length_map]; exact Nat.le_refl _
  have hmem : ∀ i ∈ us, i.com.data.toList = [] → i.fm ∈ ts := by rw [← hus]; exact enc_mem ALL ts hsome hform
  have hrun : runU wd (0, []) us = runI wd (0, []) ALL fs := by rw [← hus, runU_enc wd ALL ts (0, []) hsome hform, HF.out]
  have hfit : Fit us := by
    refine ⟨fun i hi hc => HV.out _ (by rw [← HF.out]; exact List.mem_map_of_mem (hmem i hi hc)), ?_, ?_⟩
    · rw [← hus]
      exact enc_com ALL ts 60000 fun c hc => Nat.le_trans (items_short (s.size + 1) (s.size + 1) s.data.toList true c (by rw [hALL]; exact hc)) (by simpa using hs)
    · have := items_len (s.size + 1) (s.size + 1) s.data.toList true
      rw [hALL] at this
      rw [← hus, enc_len]; omega
  have HO : Hid (Own5 w2.heap.size w2 w3 v us) := Lib.hid (by rw [← hus]; exact HO.out)
  have HRUN := Lib.hid hrun
  have HFIT := Lib.hid hfit
  have HT3 : Hid (Tab w3.heap.size w3) := Lib.hid (HT.out.next (up HB.out (HO.out.below.mono (Nat.le_refl _))))
  have HLN : Hid (∀ (i : It), i ∈ us → i.com.data.toList = [] → ∀ W, Below w3.heap.size w3 W → Calls Tryz.prog 47 #[i.fm.val, .int .i64 0, .int .i64 wd, .int .i64 0] W fun e w' => StrEnd W w' (linF i.fm.form 0 wd 0) e) := Lib.hid fun i hi hc W hB =>
    rlin_any _ i.fm (Nat.lt_succ_self _) 0 wd 0 W ((HIN.out _ (hmem i hi hc)).below hB) (hfit.form i hi hc) (by have := valid_parts (hfit.form i hi hc); omega) hw2 (by have := valid_parts (hfit.form i hi hc); omega) (HT3.out.next hB)
  have hlu := hfit.few
  have hv : ∃ va vc, v = .slice va us.length vc ∧ us.length ≤ vc := by
    rcases HO.out.own.2 with ⟨e1, e2⟩ | ⟨g, cap, cur, e1, e2, e3, e4⟩
    · exact ⟨none, 0, by rw [e1, e2], by omega⟩
    · exact ⟨_, _, e1, e4.1⟩
  obtain ⟨va, vc, rfl, hvc⟩ := hv
  have HVC := Lib.hid hvc
  have HLU := Lib.hid hlu
  clear hsome hform hmem hrun hfit hALL hus hvc hlu
  go_loopg [9, 10, 11, 12] (us.length) (fun m o la i _ wr => ∃ (k : Nat) (od ld : ByteArray), k ≤ us.length ∧ m = us.length - k ∧ i = .int .i64 k ∧ o = .string od ∧ la = .string ld ∧ od.data.toList = (runU wd (0, []) (us.take k)).2 ∧ ld.data.toList = lastU wd (us.take k) ∧ ld.size ≤ 100000000 ∧ Below w3.heap.size w3 wr)
  case atStart => exact ⟨0, ⟨#[]⟩, ⟨#[]⟩, by omega, rfl, rfl, rfl, rfl, rfl, rfl, by decide, Below.refl _ _⟩
  case round =>
    obtain ⟨k, od, ld, hk, rfl, rfl, rfl, rfl, hod, hld, hlz, hB⟩ := hrel
    have hroom := runU_room (wd := wd) HFIT.out k
    have hodz : od.size ≤ 6000000000000 := by
      rw [← hod] at hroom
      simpa using hroom
    by_cases hlt : k < us.length
    · have gi : (k : Int) < (us.length : Int) := by omega
      have gi2 : (0 : Int) ≤ (k : Int) := by omega
      have hkb : k ≤ 60001 := by have := HLU.out; omega
      obtain ⟨g, cap, e, hcap, hg2, hc0, hc1, hc2, hc3, hc4⟩ := HO.out.cell5 k hlt
      obtain ⟨rfl, rfl⟩ : va = some ⟨g, 0, none⟩ ∧ vc = cap := by cases e; exact ⟨rfl, rfl⟩
      have keep : ∀ W, Below w3.heap.size w3 W → ∀ j u, w3.cell? ⟨g, j, none⟩ = some u → W.cell? ⟨g, j, none⟩ = some u := fun W hW j u h => (hW.cell (p := ⟨g, j, none⟩) hg2).trans h
      have KEEP := Lib.hid keep
      have y0 := keep wr hB _ _ hc0
      have hN : runU wd (0, []) (us.take (k + 1)) = if us[k].com.data.toList = [] then frmS wd (runU wd (0, []) (us.take k)) us[k].fm.form else cmtS (runU wd (0, []) (us.take k)) us[k].com.data.toList := runU_next wd us k hlt
      have hL := lastU_next wd us k hlt
      obtain ⟨u, hu⟩ : ∃ u, us[k].com = u := ⟨_, rfl⟩
      have huz : u.size ≤ 60000 := by rw [← hu]; exact HFIT.out.com _ (List.getElem_mem hlt)
      rw [hu] at y0 hc0 hN hL
      -- the item ahead
      have hprev : (k = 0 ∧ (runU wd (0, []) (us.take k)).1 = 0) ∨ ∃ (hk0 : 0 < k) (p : ByteArray), w3.cell? ⟨g, (k - 1) * 5, none⟩ = some (.string p) ∧ ((p.data.toList = [] ∧ (runU wd (0, []) (us.take k)).1 = stI ld.data.toList) ∨ (p.data.toList ≠ [] ∧ (runU wd (0, []) (us.take k)).1 = 1)) := by
        rcases Nat.eq_zero_or_pos k with h0 | h0
        · exact .inl ⟨h0, by rw [h0]; rfl⟩
        · refine .inr ⟨h0, us[k - 1].com, ?_, ?_⟩
          · obtain ⟨g', cap', e', _, _, hp0, _⟩ := HO.out.cell5 (k - 1) (by omega)
            cases e'
            exact hp0
          · have := la_prev wd us (k - 1) (by omega)
            rw [show k - 1 + 1 = k by omega, ← hld] at this
            by_cases hc : us[k - 1].com.data.toList = []
            · rw [if_pos hc] at this; exact .inl ⟨hc, this⟩
            · rw [if_neg hc] at this; exact .inr ⟨hc, this⟩
      obtain ⟨LA, hLA⟩ : ∃ LA, (runU wd (0, []) (us.take k)).1 = LA := ⟨_, rfl⟩
      have hST : runU wd (0, []) (us.take k) = (LA, od.data.toList) := by rw [← hLA, hod]
      rw [hST] at hN
      rw [hLA] at hprev
      by_cases hz : u.data.toList = []
      · have e0 : u = ⟨#[]⟩ := by
          have : u.data = #[] := by simpa using hz
          cases u; simp at this; rw [this]
        subst e0
        have y1 := keep wr hB _ _ hc1
        have y2 := keep wr hB _ _ hc2
        have y3 := keep wr hB _ _ hc3
        have y4 := keep wr hB _ _ hc4
        have HLK := Lib.hid fun W (hB : Below w3.heap.size w3 W) => HLN.out us[k] (List.getElem_mem hlt) (by rw [hu]) W hB
        have hvk := HFIT.out.form us[k] (List.getElem_mem hlt) (by rw [hu])
        have hll := linF_len hvk 0 wd 0 (by have := valid_parts hvk; omega)
        rw [if_pos rfl] at hN hL
        obtain ⟨X, hX⟩ : ∃ X, linF us[k].fm.form 0 wd 0 = X := ⟨_, rfl⟩
        unfold frmS at hN
        simp only at hN
        rw [hX] at hN hL hll HLK
        have HN := Lib.hid hN
        have HL := Lib.hid hL
        have HB := Lib.hid hB
        rcases hprev with ⟨h0, hla⟩ | ⟨h0, p, hp0, hp⟩
        · subst h0
          have hput : putI LA X = [] ++ (X ++ [10]) := by unfold putI; rw [if_neg (by rw [hla]; intro h; exact absurd h.2 (by decide))]
          have HP := Lib.hid hput
          clear hput hla hN hL hX hST hod hld hu hvk hz keep hc0 hc1 hc2 hc3 hc4 e hcap hroom hLA hB
          go_wp2_with (go_at_call 47; (with_reducible refine (HLK.out _ HB.out).mono ?_); rintro e w4 ⟨td, rfl, htd, hB4⟩; have HB4 := Lib.hid hB4; have HTD := Lib.hid htd; have htz : td.size ≤ 96600000 := (by have := ba_size htd; omega); clear hB4 htd)
          go_roundg (us.length - (0 + 1))
          case measure => omega
          case rel => exact ⟨0 + 1, _, td, by omega, rfl, rfl, rfl, rfl, by rw [HN.out, HP.out]; simp [HTD.out], by rw [HL.out, HTD.out], by omega, HB.out.trans (HB4.out.mono HB.out.size)⟩
        · have gp0 : (0 : Int) < (k : Int) := by omega
          have gk : ((k : Int) - 1) = ((k - 1 : Nat) : Int) := by omega
          have gk1 : ((k - 1 : Nat) : Int) < (us.length : Int) := by omega
          have gk0 : (0 : Int) ≤ ((k - 1 : Nat) : Int) := by omega
          have z0 := keep wr hB _ _ hp0
          have HP0 := Lib.hid hp0
          rcases hp with ⟨hp, hla⟩ | ⟨hp, hla⟩
          · have ep : p = ⟨#[]⟩ := by
              have : p.data = #[] := by simpa using hp
              cases p; simp at this; rw [this]
            subst ep
            have HW1 := Lib.hid fun W => wide_any ld (by omega) W
            have hst1 := stI_wide ld.data.toList
            have hst2 := stI_wide X
            cases hw1 : wideF ld.data.toList with
            | false =>
              rw [hw1] at HW1
              have hput : putI LA X = [] ++ (X ++ [10]) := by
                unfold putI
                rw [if_neg (by rw [hla, hst1, hw1]; intro h; exact absurd h.2 (by decide))]
              have HP := Lib.hid hput
              clear hput hla hN hL hX hST hod hld hu hvk hz keep hc0 hc1 hc2 hc3 hc4 e hcap hroom hLA hB hp hp0 hst1 hst2 hw1
              go_wp2_with (first
                | (go_at_call 47; (with_reducible refine (HLK.out _ HB.out).mono ?_); rintro e w4 ⟨td, rfl, htd, hB4⟩; have HB4 := Lib.hid hB4; have HTD := Lib.hid htd; have htz : td.size ≤ 96600000 := (by have := ba_size htd; omega); have z1 := KEEP.out w4 (HB.out.trans (hB4.mono HB.out.size)) _ _ HP0.out; clear hB4 htd)
                | (go_at_call 54; (with_reducible refine (HW1.out _).mono ?_); rintro e w5 ⟨rfl, rfl⟩))
              go_roundg (us.length - (k + 1))
              case measure => omega
              case rel => exact ⟨k + 1, _, td, by omega, rfl, by go_num, rfl, rfl, by rw [HN.out, HP.out]; simp [HTD.out], by rw [HL.out, HTD.out], by omega, HB.out.trans (HB4.out.mono HB.out.size)⟩
            | true =>
              rw [hw1] at HW1
              cases hw2' : wideF X with
              | false =>
                have hput : putI LA X = [] ++ (X ++ [10]) := by
                  unfold putI
                  rw [if_neg (by rw [hst2, hw2']; intro h; exact absurd h.1 (by decide))]
                have HP := Lib.hid hput
                have HW2 : Hid (∀ (td : ByteArray) W, td.data.toList = X → td.size ≤ 1000000000 → Calls Tryz.prog 54 #[.string td] W fun e w' => e = .returned (.bool false) ∧ W = w') := Lib.hid fun td W htd hz => by
                  have := wide_any td hz W
                  rw [htd, hw2'] at this
                  exact this
                clear hput hla hN hL hX hST hod hld hu hvk hz keep hc0 hc1 hc2 hc3 hc4 e hcap hroom hLA hB hp hp0 hst1 hst2 hw1 hw2'
                go_wp2_with (first
                  | (go_at_call 47; (with_reducible refine (HLK.out _ HB.out).mono ?_); rintro e w4 ⟨td, rfl, htd, hB4⟩; have HB4 := Lib.hid hB4; have HTD := Lib.hid htd; have htz : td.size ≤ 96600000 := (by have := ba_size htd; omega); have HTZ := Lib.hid htz; have z1 := KEEP.out w4 (HB.out.trans (hB4.mono HB.out.size)) _ _ HP0.out; clear hB4 htd)
                  | (go_at_call 54; (with_reducible refine (HW1.out _).mono ?_); rintro e w5 ⟨rfl, rfl⟩)
                  | (go_at_call 54; (with_reducible refine (HW2.out td _ HTD.out (by have := HTZ.out; omega)).mono ?_); rintro e w5 ⟨rfl, rfl⟩))
                go_roundg (us.length - (k + 1))
                case measure => omega
                case rel => exact ⟨k + 1, _, td, by omega, rfl, by go_num, rfl, rfl, by rw [HN.out, HP.out]; simp [HTD.out], by rw [HL.out, HTD.out], by omega, HB.out.trans (HB4.out.mono HB.out.size)⟩
              | true =>
                have hput : putI LA X = [10] ++ (X ++ [10]) := by
                  unfold putI
                  rw [if_pos (by rw [hla, hst1, hst2, hw1, hw2']; exact ⟨rfl, rfl⟩)]
                have HP := Lib.hid hput
                have HW2 : Hid (∀ (td : ByteArray) W, td.data.toList = X → td.size ≤ 1000000000 → Calls Tryz.prog 54 #[.string td] W fun e w' => e = .returned (.bool true) ∧ W = w') := Lib.hid fun td W htd hz => by
                  have := wide_any td hz W
                  rw [htd, hw2'] at this
                  exact this
                clear hput hla hN hL hX hST hod hld hu hvk hz keep hc0 hc1 hc2 hc3 hc4 e hcap hroom hLA hB hp hp0 hst1 hst2 hw1 hw2'
                go_wp2_with (first
                  | (go_at_call 47; (with_reducible refine (HLK.out _ HB.out).mono ?_); rintro e w4 ⟨td, rfl, htd, hB4⟩; have HB4 := Lib.hid hB4; have HTD := Lib.hid htd; have htz : td.size ≤ 96600000 := (by have := ba_size htd; omega); have HTZ := Lib.hid htz; have z1 := KEEP.out w4 (HB.out.trans (hB4.mono HB.out.size)) _ _ HP0.out; clear hB4 htd)
                  | (go_at_call 54; (with_reducible refine (HW1.out _).mono ?_); rintro e w5 ⟨rfl, rfl⟩)
                  | (go_at_call 54; (with_reducible refine (HW2.out td _ HTD.out (by have := HTZ.out; omega)).mono ?_); rintro e w5 ⟨rfl, rfl⟩))
                go_roundg (us.length - (k + 1))
                case measure => omega
                case rel => exact ⟨k + 1, _, td, by omega, rfl, by go_num, rfl, rfl, by rw [HN.out, HP.out]; simp [HTD.out], by rw [HL.out, HTD.out], by omega, HB.out.trans (HB4.out.mono HB.out.size)⟩
          · have gp : p.toList.isEmpty = false := by
              rw [ByteArray.toList_eq]
              cases hpl : p.data.toList with
              | nil => exact absurd hpl hp
              | cons a r => rfl
            have hput : putI LA X = [] ++ (X ++ [10]) := by unfold putI; rw [if_neg (by rw [hla]; intro h; exact absurd h.2 (by decide))]
            have HP := Lib.hid hput
            clear hput hla hN hL hX hST hod hld hu hvk hz keep hc0 hc1 hc2 hc3 hc4 e hcap hroom hLA hB hp hp0
            go_wp2_with (go_at_call 47; (with_reducible refine (HLK.out _ HB.out).mono ?_); rintro e w4 ⟨td, rfl, htd, hB4⟩; have HB4 := Lib.hid hB4; have HTD := Lib.hid htd; have htz : td.size ≤ 96600000 := (by have := ba_size htd; omega); have z1 := KEEP.out w4 (HB.out.trans (hB4.mono HB.out.size)) _ _ HP0.out; clear hB4 htd)
            go_roundg (us.length - (k + 1))
            case measure => omega
            case rel => exact ⟨k + 1, _, td, by omega, rfl, by go_num, rfl, rfl, by rw [HN.out, HP.out]; simp [HTD.out], by rw [HL.out, HTD.out], by omega, HB.out.trans (HB4.out.mono HB.out.size)⟩
      · have gu : u.toList.isEmpty = false := by rw [ByteArray.toList_eq]; simpa using hz
        rw [if_neg hz] at hN hL
        unfold cmtS at hN
        simp only at hN
        have HN := Lib.hid hN
        have HL := Lib.hid (hL.trans hld.symm)
        have HB := Lib.hid hB
        rcases hprev with ⟨h0, hla⟩ | ⟨h0, p, hp0, hp⟩
        · subst h0
          have HC : Hid ((if LA = 2 ∨ LA = 3 then [(10 : UInt8)] else []) = []) := Lib.hid (by rw [hla]; rfl)
          clear hla hN hL hST hod hld hu hz keep hc0 hc1 hc2 hc3 hc4 e hcap hroom hLA hB
          go_wp2_with fail
          go_roundg (us.length - (0 + 1))
          case measure => omega
          case rel => exact ⟨0 + 1, _, ld, by omega, rfl, rfl, rfl, rfl, by rw [HN.out, HC.out]; simp, by rw [HL.out], hlz, HB.out⟩
        · have gp0 : (0 : Int) < (k : Int) := by omega
          have gk : ((k : Int) - 1) = ((k - 1 : Nat) : Int) := by omega
          have gk1 : ((k - 1 : Nat) : Int) < (us.length : Int) := by omega
          have gk0 : (0 : Int) ≤ ((k - 1 : Nat) : Int) := by omega
          have z0 := keep wr hB _ _ hp0
          rcases hp with ⟨hp, hla⟩ | ⟨hp, hla⟩
          · have ep : p = ⟨#[]⟩ := by
              have : p.data = #[] := by simpa using hp
              cases p; simp at this; rw [this]
            subst ep
            have HC : Hid ((if LA = 2 ∨ LA = 3 then [(10 : UInt8)] else []) = [10]) := Lib.hid (by rw [hla, stI_wide]; split <;> rfl)
            clear hla hN hL hST hod hld hu hz keep hc0 hc1 hc2 hc3 hc4 e hcap hroom hLA hB hp hp0
            go_wp2_with fail
            go_roundg (us.length - (k + 1))
            case measure => omega
            case rel => exact ⟨k + 1, _, ld, by omega, rfl, by go_num, rfl, rfl, by rw [HN.out, HC.out]; simp, by rw [HL.out], hlz, HB.out⟩
          · have gp : p.toList.isEmpty = false := by
              rw [ByteArray.toList_eq]
              cases hpl : p.data.toList with
              | nil => exact absurd hpl hp
              | cons a r => rfl
            have HC : Hid ((if LA = 2 ∨ LA = 3 then [(10 : UInt8)] else []) = []) := Lib.hid (by rw [hla]; rfl)
            clear hla hN hL hST hod hld hu hz keep hc0 hc1 hc2 hc3 hc4 e hcap hroom hLA hB hp hp0
            go_wp2_with fail
            go_roundg (us.length - (k + 1))
            case measure => omega
            case rel => exact ⟨k + 1, _, ld, by omega, rfl, by go_num, rfl, rfl, by rw [HN.out, HC.out]; simp, by rw [HL.out], hlz, HB.out⟩
    · have gi : ¬ (k : Int) < (us.length : Int) := by omega
      rw [List.take_of_length_le (by omega)] at hod
      have HOD := Lib.hid (ba_list (hod.trans (by rw [HRUN.out])))
      have HBE := Lib.hid hB
      clear hod hld hroom hB
      go_wp2_with fail
      exact bodyPost_ret (v := .tuple #[.string od, .int .i64 0]) (by simp [results, Tryz.results20, go_sem]) rfl ⟨by rw [← HOD.out], up HB.out (up HO.out.below HBE.out)⟩
set_option linter.unusedSimpArgs false in
set_option maxHeartbeats 4000000 in
set_option maxRecDepth 100000 in
theorem rtext_any (s : ByteArray) (x : Int) (hx : I64 x) (hs : s.size ≤ maxLen) (w : World) (htab : Tab w.heap.size w) :
    Calls Tryz.prog 20 #[.string s, .int .i64 x] w fun e w' => FmtEnd w w' (textR s x) e := by
  obtain ⟨hx1, hx2⟩ := hx
  by_cases hlo : x < 20
  · have d1 : decide (x < 20) = true := by simpa using hlo
    rw [textR_no (by omega)]
    clear htab
    go_enter Tryz.func20, Tryz.ntmps20
    go_wp2_with fail
    exact bodyPost_ret (v := .tuple #[.string ⟨#[]⟩, .int .i64 1]) (by simp [results, Tryz.results20, go_sem]) rfl ⟨rfl, Below.refl _ _⟩
  · have d1 : decide (x < 20) = false := by simpa using hlo
    by_cases hhi : 200 < x
    · have d2 : decide (200 < x) = true := by simpa using hhi
      rw [textR_no (by omega)]
      clear htab
      go_enter Tryz.func20, Tryz.ntmps20
      go_wp2_with fail
      exact bodyPost_ret (v := .tuple #[.string ⟨#[]⟩, .int .i64 1]) (by simp [results, Tryz.results20, go_sem]) rfl ⟨rfl, Below.refl _ _⟩
    · have d2 : decide (200 < x) = false := by simpa using hhi
      obtain ⟨wd, rfl⟩ : ∃ wd : Nat, x = wd := ⟨x.toNat, by omega⟩
      cases hr : readR s with
      | ok fs =>
        rw [textR_ok (by omega) (by omega) hr]
        exact rtext_ok s fs wd (by omega) (by omega) hr w htab
      | err c =>
        rw [textR_err (by omega) hr]
        have HA := Q.read_any s w hs
        rw [hr] at HA
        have HA := Lib.hid HA
        have hc : (c != 0) = true := by have := readR_err hr; simpa using this
        clear hr htab
        go_enter Tryz.func20, Tryz.ntmps20
        go_wp2_with (go_at_call 52; (with_reducible refine HA.out.mono ?_); rintro e w2 ⟨rfl, hB⟩; have HB := Lib.hid hB; clear hB)
        exact bodyPost_ret (v := .tuple #[.string ⟨#[]⟩, .int .i64 c]) (by simp [results, Tryz.results20, go_sem]) rfl ⟨rfl, HB.out⟩
end Go.Proofs.YtedabholcldgbaaGreatDoor.Y

/- A form in lines is read as it was. Plain. -/
namespace Go.Proofs.YtedabholcldgbaaGreatDoor.Y
open Go.RowKit Go.Deep

/-- A text that is read as a form, wherever it stands. -/
def Reads (x : List UInt8) (f : Fm) : Prop := ∀ (s : ByteArray) (pos : Nat) (r : List UInt8) (O : List (List Fm)) (top : List Fm), Rest s pos (x ++ r) → Ends r → ∃ t, Reach s pos O top false (pos + x.length) O (top ++ [f]) t
theorem reads_tx {f : Fm} (h : fieldsF f = true) : Reads (txF f) f := fun s pos r O top hr he => reach_form _ f (Nat.lt_succ_self _) h s pos r O top hr he
/-- Forms, one behind the other, with blanks ahead of each (b: of the first one, too). -/
inductive Kids : Bool → List UInt8 → List Fm → Prop
  | nil (b : Bool) : Kids b [] []
  | cons {b : Bool} {sep x y : List UInt8} {f : Fm} {fs : List Fm} : (∀ c ∈ sep, blankB (c.toNat : Int) = true) → (b = true → sep ≠ []) → Reads x f → Kids true y fs → Kids b (sep ++ (x ++ y)) (f :: fs)
theorem Kids.append {b : Bool} {y z : List UInt8} {fs gs : List Fm} (h : Kids b y fs) (hz : Kids (b || !fs.isEmpty) z gs) : Kids b (y ++ z) (fs ++ gs) := by
  induction h with
  | nil b => simpa using hz
  | @cons b sep x y f fs h1 h2 h3 h4 ih =>
    have : Kids true (y ++ z) (fs ++ gs) := ih (by simpa using hz)
    simpa using Kids.cons (b := b) h1 h2 h3 this
theorem blank_tok {c : UInt8} (h : blankB (c.toNat : Int) = true) : tokB (c.toNat : Int) = false := by
  unfold blankB at h
  unfold tokB plainB
  simp only [Bool.or_eq_true, beq_iff_eq] at h
  cases hh : (decide (33 ≤ (c.toNat : Int)) && decide ((c.toNat : Int) ≤ 126)) with
  | false => rfl
  | true => simp at hh; omega
theorem Kids.ends {y : List UInt8} {fs : List Fm} (h : Kids true y fs) (r : List UInt8) : Ends (y ++ 41 :: r) := by
  intro c hc
  cases h with
  | nil => simp at hc; subst hc; decide
  | @cons _ sep x y f fs h1 h2 h3 h4 =>
    cases sep with
    | nil => exact absurd rfl (h2 rfl)
    | cons a q => simp at hc; subst hc; exact blank_tok (h1 _ (by simp))
theorem reach_blanks {s : ByteArray} : ∀ (sep : List UInt8) (pos : Nat) (r : List UInt8), Rest s pos (sep ++ r) → (∀ c ∈ sep, blankB (c.toNat : Int) = true) → ∀ (O : List (List Fm)) (top : List Fm) (t : Bool), Reach s pos O top t (pos + sep.length) O top (if sep = [] then t else false)
  | [], pos, r, _, _, O, top, t => by simpa using Reach.refl _ _ _ _ _
  | a :: sep, pos, r, h, hb, O, top, t => by
    have h1 := reach_blank h (hb a (by simp)) O top t
    have h2 := reach_blanks sep (pos + 1) r h.head.choose_spec.2 (fun c hc => hb c (by simp [hc])) O top false
    have h3 : (if sep = [] then false else false) = false := by split <;> rfl
    rw [h3] at h2
    have := h1.trans h2
    simp only [List.length_cons]
    rw [show pos + (sep.length + 1) = pos + 1 + sep.length by omega]
    simpa using this
theorem Kids.reach {b : Bool} {y : List UInt8} {fs : List Fm} (h : Kids b y fs) : ∀ (s : ByteArray) (p : Nat) (r : List UInt8) (O : List (List Fm)) (a : List Fm) (t : Bool), (b = false → t = false) → Rest s p (y ++ 41 :: r) → ∃ t', Reach s p O a t (p + y.length) O (a ++ fs) t' := by
  induction h with
  | nil b => intro s p r O a t _ _; exact ⟨t, by simpa using Reach.refl _ _ _ _ _⟩
  | @cons b sep x y f fs h1 h2 h3 h4 ih =>
    intro s p r O a t ht hr
    simp only [List.append_assoc] at hr
    have q1 := reach_blanks sep p _ hr h1 O a t
    have hf : (if sep = [] then t else false) = false := by
      split
      · rename_i e
        cases b with
        | false => exact ht rfl
        | true => exact absurd e (h2 rfl)
      · rfl
    rw [hf] at q1
    have r1 := hr.skip
    obtain ⟨t1, q2⟩ := h3 s _ _ O a r1 (h4.ends r)
    obtain ⟨t2, q3⟩ := ih s _ r O (a ++ [f]) t1 (fun e => by cases e) r1.skip
    refine ⟨t2, ?_⟩
    have := q1.trans (q2.trans q3)
    simp only [List.length_append]
    rw [show p + (sep.length + (x.length + y.length)) = p + sep.length + x.length + y.length by omega]
    simpa using this
theorem reads_list {y : List UInt8} {fs : List Fm} (h : Kids false y fs) : Reads (40 :: (y ++ [41])) (.mk 3 0 ⟨#[]⟩ fs) := by
  intro s pos r O top hr _
  have h0 : Rest s pos (40 :: (y ++ 41 :: r)) := by simpa using hr
  obtain ⟨t, h1⟩ := h.reach s (pos + 1) r (O ++ [top]) [] false (fun _ => rfl) h0.head.choose_spec.2
  have r1 := h0.head.choose_spec.2.skip
  refine ⟨false, ?_⟩
  have := (reach_open h0 O top false).trans (h1.trans (reach_close r1 O top _ t))
  simp only [List.length_cons, List.length_append, List.length_nil]
  rw [show pos + (y.length + (0 + 1) + 1) = pos + 1 + y.length + 1 by omega]
  simpa using this
theorem kids_join (l : List Fm) (h : ∀ g ∈ l, fieldsF g = true) : Kids false (joinB (l.map txF)) l := by
  have key : ∀ l : List Fm, (∀ g ∈ l, fieldsF g = true) → Kids true ((l.map txF).flatMap fun y => (32 : UInt8) :: y) l := by
    intro l
    induction l with
    | nil => intro _; exact Kids.nil _
    | cons g l ih =>
      intro h
      have := Kids.cons (b := true) (sep := [32]) (by intro c hc; simp at hc; subst hc; decide) (by simp) (reads_tx (h g (by simp))) (ih fun x hx => h x (by simp [hx]))
      simpa using this
  cases l with
  | nil => exact Kids.nil _
  | cons g l =>
    have := Kids.cons (b := false) (sep := []) (by simp) (by simp) (reads_tx (h g (by simp))) (key l fun x hx => h x (by simp [hx]))
    simpa [joinB] using this
theorem reads_lin (n : Nat) : ∀ f : Fm, SizeOf.sizeOf f < n → fieldsF f = true → ∀ c w k, Reads (linF f c w k) f := by
  induction n with
  | zero => intro f h; omega
  | succ n ih =>
    intro f hn hf c w k
    rw [linF_eq]
    split
    · exact reads_tx hf
    · rename_i hx
      have hk : f.kd = 3 := by
        by_cases e : f.kd = 3
        · exact e
        · exact absurd (.inr (.inl e)) hx
      have hks : f.kids = f.ks := by unfold Fm.kids; rw [if_pos hk]
      have hfl := hf
      rw [fieldsF_eq, Bool.and_eq_true, hks] at hfl
      have hkid : ∀ g ∈ f.ks, fieldsF g = true := fun g hg => fieldsL_mem hfl.2 hg
      have hrec : f = .mk 3 0 ⟨#[]⟩ f.ks := by
        rcases alone_cases hfl.1 with ⟨k1, _, _, _⟩ | ⟨k1, _, _, _⟩ | ⟨k1, _, _, _⟩ | ⟨k1, h0, hx2⟩
        · omega
        · omega
        · omega
        · obtain ⟨fk, fn, fs, fks⟩ := f
          simp only [Fm.kd, Fm.nn, Fm.tx, Fm.ks] at *
          subst k1 h0
          rw [bytes_nil hx2]
      have hl : ∀ (l : List Fm) (fr i : Nat), fr ≤ i → (∀ g ∈ l, fieldsF g = true ∧ SizeOf.sizeOf g < n) → Kids (decide (0 < i)) (linL l fr i (c + indN f.ks) w k) l := by
        intro l
        induction l with
        | nil => intro fr i _ _; rw [linL]; exact Kids.nil _
        | cons g l ihl =>
          intro fr i hi hall
          have hg := hall g (by simp)
          rw [linL, if_neg (by omega)]
          have hr := ihl fr (i + 1) (by omega) fun x hx => hall x (by simp [hx])
          rw [show decide (0 < i + 1) = true by simp] at hr
          have := Kids.cons (b := decide (0 < i)) (sep := if 0 < i then 10 :: blk (c + indN f.ks) else []) (by
            intro b hb
            split at hb
            · rcases List.mem_cons.1 hb with rfl | hb
              · decide
              · have := List.eq_of_mem_replicate hb
                subst this
                decide
            · cases hb) (by intro e; simp at e; rw [if_pos e]; simp) (ih g hg.2 hg.1 (c + indN f.ks) w (if l.isEmpty then k + 1 else 0)) hr
          simpa using this
      have hfr := frN_le f.ks
      have h1 := kids_join (f.ks.take (frN f.ks)) fun g hg => hkid g (List.mem_of_mem_take hg)
      have h2 := hl (f.ks.drop (frN f.ks)) (frN f.ks) (frN f.ks) (Nat.le_refl _) fun g hg => ⟨hkid g (List.mem_of_mem_drop hg), by have := Fm.kid_lt (List.mem_of_mem_drop hg); omega⟩
      have e0 := linL_skip (frN f.ks) f.ks (frN f.ks) 0 (c + indN f.ks) w k (by omega) hfr.1
      rw [Nat.zero_add] at e0
      rw [← e0] at h2
      have e1 : (false || !(f.ks.take (frN f.ks)).isEmpty) = decide (0 < frN f.ks) := by
        rw [Bool.eq_iff_iff]
        simp only [Bool.false_or, Bool.not_eq_true', List.isEmpty_eq_false_iff, ne_eq, List.take_eq_nil_iff, decide_eq_true_eq]
        constructor
        · intro h
          rcases Nat.eq_zero_or_pos (frN f.ks) with e | e
          · exact absurd (.inl e) h
          · exact e
        · rintro h (e | e)
          · omega
          · rw [e] at h; simp [frN] at h
      have h3 := Kids.append h1 (by rw [e1]; exact h2)
      rw [List.take_append_drop] at h3
      have h4 := reads_list h3
      rw [← hrec] at h4
      simpa using h4
/-- A form in lines is read as that form alone. -/
theorem read_lin {f : Fm} (hv : validF f = true) {w : Nat} {d : ByteArray} (hd : d.data.toList = linF f 0 w 0) (hs : d.size ≤ 60000) : readR d = .ok [f] := by
  have h0 : Rest d 0 (linF f 0 w 0 ++ []) := ⟨by simpa using hd, Nat.zero_le _⟩
  obtain ⟨t, h1⟩ := reads_lin _ f (Nat.lt_succ_self _) (valid_parts hv).2.2 0 w 0 d 0 [] [] [] h0 (by intro c hc; cases hc)
  have hz : 0 + (linF f 0 w 0).length = d.size := by rw [← hd]; simp
  rw [hz] at h1
  exact reach_end h1 hs (by simp [hv])
end Go.Proofs.YtedabholcldgbaaGreatDoor.Y

/- The document's own walk goes over a form in lines just to its end. Plain. -/
namespace Go.Proofs.YtedabholcldgbaaGreatDoor.Y
open Go.RowKit Go.Deep

theorem past_fuel (m : Nat) : ∀ (l : List UInt8) (d : Int), l.length ≤ m → ∀ n1 n2, l.length < n1 → l.length < n2 → pastF n1 l d = pastF n2 l d := by
  induction m with
  | zero =>
    intro l d hl n1 n2 h1 h2
    have e : l = [] := List.length_eq_zero_iff.1 (by omega)
    subst e
    cases n1 with
    | zero => simp at h1
    | succ n1 =>
      cases n2 with
      | zero => simp at h2
      | succ n2 => rw [pastF, pastF]
  | succ m ih =>
    intro l d hl n1 n2 h1 h2
    obtain ⟨n1, rfl⟩ : ∃ k, n1 = k + 1 := ⟨n1 - 1, by omega⟩
    obtain ⟨n2, rfl⟩ : ∃ k, n2 = k + 1 := ⟨n2 - 1, by omega⟩
    cases l with
    | nil => rw [pastF, pastF]
    | cons b r =>
      rw [pastF, pastF]
      have hc := (stC_le b r).1
      have hd : ((b :: r).drop (stC b r)).length + 1 ≤ (b :: r).length := by rw [List.length_drop]; simp only [List.length_cons]; omega
      rw [ih ((b :: r).drop (stC b r)) (stD b d) (by omega) n1 n2 (by omega) (by omega)]
def pastX (l : List UInt8) (d : Int) : Nat := pastF (l.length + 1) l d
theorem pastX_of {n : Nat} {l : List UInt8} (h : l.length < n) (d : Int) : pastF n l d = pastX l d := past_fuel _ l d (Nat.le_refl _) _ _ h (Nat.lt_succ_self _)
theorem pastX_cons (b : UInt8) (r : List UInt8) (d : Int) : pastX (b :: r) d = if stD b d = 0 then stC b r else stC b r + pastX ((b :: r).drop (stC b r)) (stD b d) := by
  have hc := (stC_le b r).1
  unfold pastX
  rw [pastF]
  have hd : ((b :: r).drop (stC b r)).length < (b :: r).length := by rw [List.length_drop]; simp only [List.length_cons]; omega
  rw [past_fuel _ _ _ (Nat.le_refl _) (b :: r).length _ hd (Nat.lt_succ_self _)]
/-- What may stand behind a token. -/
def Oth (z : List UInt8) : Prop := ∀ c, z.head? = some c → othB (c.toNat : Int) = false
theorem oth_nil : Oth [] := fun c h => by cases h
theorem oth_cons {b : UInt8} (h : othB (b.toNat : Int) = false) (r : List UInt8) : Oth (b :: r) := fun c e => by cases e; exact h
theorem oth_blank {b : UInt8} (h : blankB (b.toNat : Int) = true) : othB (b.toNat : Int) = false := by unfold othB; rw [h]; rfl
/-- One form's text. -/
structure PastOk (x : List UInt8) : Prop where
  first : ∃ b r, x = b :: r ∧ blankB (b.toNat : Int) = false ∧ b.toNat ≠ 59
  goes : ∀ (z : List UInt8) (d : Int), 0 ≤ d → Oth z → pastX (x ++ z) d = if d = 0 then x.length else x.length + pastX z d
def PastIn (y : List UInt8) : Prop := ∀ (z : List UInt8) (d : Int), 1 ≤ d → Oth z → pastX (y ++ z) d = y.length + pastX z d
theorem othF_all : ∀ (x z : List UInt8), (∀ c ∈ x, othB (c.toNat : Int) = true) → Oth z → othF (x ++ z) = x.length
  | [], z, _, hz => by
    cases z with
    | nil => rfl
    | cons c r => rw [List.nil_append, othF, if_neg (by rw [hz c rfl]; decide)]; rfl
  | b :: x, z, h, hz => by
    rw [List.cons_append, othF, if_pos (h b (by simp)), othF_all x z (fun c hc => h c (by simp [hc])) hz, List.length_cons]
theorem past_tok {x : List UInt8} (h : ∀ c ∈ x, tokB (c.toNat : Int) = true) (hne : x ≠ []) : PastOk x := by
  cases x with
  | nil => exact absurd rfl hne
  | cons b x =>
    have hb := tok_is_oth (h b (by simp))
    have hb2 := hb
    unfold othB at hb2
    simp only [Bool.and_eq_true, Bool.not_eq_true', bne_iff_ne, ne_eq] at hb2
    refine ⟨⟨b, x, rfl, hb2.1.1.1.1, by omega⟩, fun z d hd hz => ?_⟩
    have hC : stC b (x ++ z) = (b :: x).length := by
      unfold stC
      rw [if_neg (by omega), if_neg (by omega), if_neg (by rw [hb2.1.1.1.1]; simp; omega), othF_all x z (fun c hc => tok_is_oth (h c (by simp [hc]))) hz, List.length_cons]
    have hD : stD b d = d := by unfold stD; rw [if_neg (by omega), if_neg (by omega)]
    rw [List.cons_append, pastX_cons, hC, hD]
    have e : (b :: (x ++ z)).drop (b :: x).length = z := by
      rw [← List.cons_append, List.drop_left]
    rw [e]
theorem past_quo {l : List UInt8} (hl : ∀ c ∈ l, txtB (c.toNat : Int) = true) : PastOk (quoL l) := by
  refine ⟨⟨34, escL l ++ [34], by unfold quoL; simp, by decide, by decide⟩, fun z d hd hz => ?_⟩
  have hq := txt_qt _ _ (Nat.le_refl _) (txt_esc l z hl)
  have hx : quoL l ++ z = 34 :: (escL l ++ 34 :: z) := by unfold quoL; simp
  have hlen : (quoL l).length = (escL l).length + 2 := by unfold quoL; simp
  have hC : stC 34 (escL l ++ 34 :: z) = (quoL l).length := by
    unfold stC
    rw [if_pos (by decide), hlen]
    omega
  have hD : stD 34 d = d := by unfold stD; rw [if_neg (by decide), if_neg (by decide)]
  rw [hx, pastX_cons, hC, hD, ← hx, List.drop_left]
theorem past_blank {b : UInt8} (hb : blankB (b.toNat : Int) = true) (z : List UInt8) {d : Int} (hd : 1 ≤ d) : pastX (b :: z) d = 1 + pastX z d := by
  have hne : b.toNat ≠ 34 ∧ b.toNat ≠ 40 ∧ b.toNat ≠ 41 ∧ b.toNat ≠ 59 := by
    unfold blankB at hb
    simp only [Bool.or_eq_true, beq_iff_eq] at hb
    omega
  have hC : stC b z = 1 := by
    unfold stC
    rw [if_neg hne.1, if_neg hne.2.2.2, if_pos (.inr (.inr hb))]
  have hD : stD b d = d := by unfold stD; rw [if_neg hne.2.1, if_neg hne.2.2.1]
  rw [pastX_cons, hC, hD, if_neg (by omega), List.drop_succ_cons, List.drop_zero]
theorem past_blanks : ∀ (sep z : List UInt8) {d : Int}, (∀ c ∈ sep, blankB (c.toNat : Int) = true) → 1 ≤ d → pastX (sep ++ z) d = sep.length + pastX z d
  | [], z, d, _, _ => by simp
  | b :: sep, z, d, h, hd => by
    rw [List.cons_append, past_blank (h b (by simp)) _ hd, past_blanks sep z (fun c hc => h c (by simp [hc])) hd, List.length_cons]
    omega
/-- Forms' texts, one behind the other, with blanks ahead of each. -/
inductive KidsP : Bool → List UInt8 → Prop
  | nil (b : Bool) : KidsP b []
  | cons {b : Bool} {sep x y : List UInt8} : (∀ c ∈ sep, blankB (c.toNat : Int) = true) → (b = true → sep ≠ []) → PastOk x → KidsP true y → KidsP b (sep ++ (x ++ y))
theorem KidsP.append {b : Bool} {y z : List UInt8} (h : KidsP b y) (hz : KidsP (b || !y.isEmpty) z) : KidsP b (y ++ z) := by
  induction h with
  | nil b => simpa using hz
  | @cons b sep x y h1 h2 h3 h4 ih =>
    have e : (b || !(sep ++ (x ++ y)).isEmpty) = true := by
      obtain ⟨c, r, hx, _⟩ := h3.first
      rw [hx]
      cases sep <;> simp
    rw [e] at hz
    have : KidsP true (y ++ z) := ih (by simpa using hz)
    simpa using KidsP.cons (b := b) h1 h2 h3 this
theorem KidsP.oth {y z : List UInt8} (h : KidsP true y) (hz : Oth z) : Oth (y ++ z) := by
  cases h with
  | nil => simpa using hz
  | @cons _ sep x y h1 h2 h3 h4 =>
    cases sep with
    | nil => exact absurd rfl (h2 rfl)
    | cons a q => exact oth_cons (oth_blank (h1 a (by simp))) _
theorem KidsP.goes {b : Bool} {y : List UInt8} (h : KidsP b y) : PastIn y := by
  induction h with
  | nil b => intro z d _ _; simp
  | @cons b sep x y h1 h2 h3 h4 ih =>
    intro z d hd hz
    rw [List.append_assoc, List.append_assoc, past_blanks sep _ h1 hd, h3.goes (y ++ z) d (by omega) (h4.oth hz), if_neg (by omega), ih z d hd hz]
    simp only [List.length_append]
    omega
theorem past_list {y : List UInt8} (h : PastIn y) : PastOk (40 :: (y ++ [41])) := by
  refine ⟨⟨40, y ++ [41], rfl, by decide, by decide⟩, fun z d hd hz => ?_⟩
  have hC : ∀ r, stC 40 r = 1 := fun r => by unfold stC; rw [if_neg (by decide), if_neg (by decide), if_pos (.inl (by decide))]
  have hC2 : ∀ r, stC 41 r = 1 := fun r => by unfold stC; rw [if_neg (by decide), if_neg (by decide), if_pos (.inr (.inl (by decide)))]
  have hD : stD 40 d = d + 1 := by unfold stD; rw [if_pos (by decide)]
  have hD2 : stD 41 (d + 1) = d := by unfold stD; rw [if_neg (by decide), if_pos (by decide)]; omega
  rw [List.cons_append, pastX_cons, hC, hD, if_neg (by omega), List.drop_succ_cons, List.drop_zero, List.append_assoc, List.cons_append, List.nil_append, h _ (d + 1) (by omega) (oth_cons (by decide) _)]
  rw [pastX_cons, hC2, hD2, List.drop_succ_cons, List.drop_zero]
  simp only [List.length_cons, List.length_append, List.length_nil]
  split <;> omega
theorem kidsP_join (l : List (List UInt8)) (h : ∀ g ∈ l, PastOk g) : KidsP false (joinB l) := by
  have key : ∀ l : List (List UInt8), (∀ g ∈ l, PastOk g) → KidsP true (l.flatMap fun y => (32 : UInt8) :: y) := by
    intro l
    induction l with
    | nil => intro _; exact KidsP.nil _
    | cons g l ih =>
      intro h
      have := KidsP.cons (b := true) (sep := [32]) (by intro c hc; simp at hc; subst hc; decide) (by simp) (h g (by simp)) (ih fun x hx => h x (by simp [hx]))
      simpa using this
  cases l with
  | nil => exact KidsP.nil _
  | cons g l =>
    have := KidsP.cons (b := false) (sep := []) (by simp) (by simp) (h g (by simp)) (key l fun x hx => h x (by simp [hx]))
    simpa [joinB] using this
theorem past_tx (n : Nat) : ∀ f : Fm, SizeOf.sizeOf f < n → fieldsF f = true → PastOk (txF f) := by
  induction n with
  | zero => intro f h; omega
  | succ n ih =>
    intro f hn hf
    rw [fieldsF_eq, Bool.and_eq_true] at hf
    rw [txF_eq]
    rcases alone_cases hf.1 with ⟨k, hx, hk, h1, h2⟩ | ⟨k, h0, hk, hw⟩ | ⟨k, h0, hk, hw⟩ | ⟨k, h0, hx⟩
    · rw [if_pos k]
      exact past_tok (tok_itoa f.nn) (itoa_ne f.nn)
    · rw [if_neg (by omega), if_pos k]
      unfold wordB at hw
      simp only [Bool.and_eq_true, decide_eq_true_eq, Bool.not_eq_true'] at hw
      obtain ⟨⟨⟨w1, w2⟩, w3⟩, w4⟩ := hw
      exact past_tok (allB_mem w3) (by intro e; have : f.tx.size = 0 := (by have := congrArg List.length e; simpa using this); omega)
    · rw [if_neg (by omega), if_neg (by omega), if_pos k]
      unfold textB at hw
      simp only [Bool.and_eq_true, decide_eq_true_eq] at hw
      exact past_quo (allB_mem hw.2)
    · rw [if_neg (by omega), if_neg (by omega), if_neg (by omega)]
      have hks : f.kids = f.ks := by unfold Fm.kids; rw [if_pos k]
      rw [hks] at hf
      have := past_list (kidsP_join (f.ks.map txF) fun g hg => by
        obtain ⟨u, hu, rfl⟩ := List.mem_map.1 hg
        exact ih u (by have := Fm.kid_lt hu; omega) (fieldsL_mem hf.2 hu)).goes
      simpa using this
theorem past_lin (n : Nat) : ∀ f : Fm, SizeOf.sizeOf f < n → fieldsF f = true → ∀ c w k, PastOk (linF f c w k) := by
  induction n with
  | zero => intro f h; omega
  | succ n ih =>
    intro f hn hf c w k
    rw [linF_eq]
    split
    · exact past_tx _ f (Nat.lt_succ_self _) hf
    · rename_i hx
      have hk : f.kd = 3 := by
        by_cases e : f.kd = 3
        · exact e
        · exact absurd (.inr (.inl e)) hx
      have hks : f.kids = f.ks := by unfold Fm.kids; rw [if_pos hk]
      have hfl := hf
      rw [fieldsF_eq, Bool.and_eq_true, hks] at hfl
      have hkid : ∀ g ∈ f.ks, fieldsF g = true := fun g hg => fieldsL_mem hfl.2 hg
      have hl : ∀ (l : List Fm) (fr i : Nat), fr ≤ i → (∀ g ∈ l, fieldsF g = true ∧ SizeOf.sizeOf g < n) → KidsP (decide (0 < i)) (linL l fr i (c + indN f.ks) w k) := by
        intro l
        induction l with
        | nil => intro fr i _ _; rw [linL]; exact KidsP.nil _
        | cons g l ihl =>
          intro fr i hi hall
          have hg := hall g (by simp)
          rw [linL, if_neg (by omega)]
          have hr := ihl fr (i + 1) (by omega) fun x hx => hall x (by simp [hx])
          rw [show decide (0 < i + 1) = true by simp] at hr
          have := KidsP.cons (b := decide (0 < i)) (sep := if 0 < i then 10 :: blk (c + indN f.ks) else []) (by
            intro b hb
            split at hb
            · rcases List.mem_cons.1 hb with rfl | hb
              · decide
              · have := List.eq_of_mem_replicate hb
                subst this
                decide
            · cases hb) (by intro e; simp at e; rw [if_pos e]; simp) (ih g hg.2 hg.1 (c + indN f.ks) w (if l.isEmpty then k + 1 else 0)) hr
          simpa using this
      have hfr := frN_le f.ks
      have h1 := kidsP_join ((f.ks.take (frN f.ks)).map txF) fun g hg => by
        obtain ⟨u, hu, rfl⟩ := List.mem_map.1 hg
        exact past_tx _ u (Nat.lt_succ_self _) (hkid u (List.mem_of_mem_take hu))
      have h2 := hl (f.ks.drop (frN f.ks)) (frN f.ks) (frN f.ks) (Nat.le_refl _) fun g hg => ⟨hkid g (List.mem_of_mem_drop hg), by have := Fm.kid_lt (List.mem_of_mem_drop hg); omega⟩
      have e0 := linL_skip (frN f.ks) f.ks (frN f.ks) 0 (c + indN f.ks) w k (by omega) hfr.1
      rw [Nat.zero_add] at e0
      rw [← e0] at h2
      have e1 : (false || !(joinB ((f.ks.take (frN f.ks)).map txF)).isEmpty) = decide (0 < frN f.ks) := by
        rcases Nat.eq_zero_or_pos (frN f.ks) with e | e
        · rw [e]; simp [joinB]
        · cases hks2 : f.ks with
          | nil => rw [hks2] at e; simp [frN] at e
          | cons g r =>
            rw [hks2] at e
            obtain ⟨j, hj⟩ : ∃ j, frN (g :: r) = j + 1 := ⟨frN (g :: r) - 1, by omega⟩
            obtain ⟨b, q, hb, _⟩ := (past_tx _ g (Nat.lt_succ_self _) (hkid g (by rw [hks2]; simp))).first
            rw [hj, List.take_succ_cons, List.map_cons, joinB, hb]
            simp
      have h3 := KidsP.append h1 (by rw [e1]; exact h2)
      have h4 := past_list h3.goes
      simpa using h4
end Go.Proofs.YtedabholcldgbaaGreatDoor.Y

/- A formatted text has the same items and forms. Plain. -/
namespace Go.Proofs.YtedabholcldgbaaGreatDoor.Y
open Go.RowKit Go.Deep

def rendI (wd : Nat) : Int → List (Option (List UInt8)) → List Fm → List UInt8
  | _, [], _ => []
  | la, some c :: r, fs => ((if la = 2 ∨ la = 3 then [10] else []) ++ (c ++ [10])) ++ rendI wd 1 r fs
  | la, none :: r, [] => rendI wd la r []
  | la, none :: r, f :: fs => putI la (linF f 0 wd 0) ++ rendI wd (stI (linF f 0 wd 0)) r fs
theorem run_rend (wd : Nat) : ∀ (items : List (Option (List UInt8))) (fs : List Fm) (st : Int × List UInt8), (runI wd st items fs).2 = st.2 ++ rendI wd st.1 items fs
  | [], fs, st => by rw [runI, rendI, List.append_nil]
  | some c :: r, fs, st => by
    rw [runI, rendI, run_rend wd r fs]
    unfold cmtS
    simp only [List.append_assoc]
  | none :: r, [], st => by rw [runI, rendI, run_rend wd r []]
  | none :: r, f :: fs, st => by
    rw [runI, rendI, run_rend wd r fs]
    unfold frmS
    simp only [List.append_assoc]
/-- A comment as it is kept. -/
structure CmtOk (c : List UInt8) : Prop where
  first : ∃ x, c = 59 :: x
  line : ∀ b ∈ c, b.toNat ≠ 10
  trim : trmF c = c
theorem trm_twice (l : List UInt8) : trmF (trmF l) = trmF l := by
  unfold trmF
  rw [List.reverse_reverse]
  congr 1
  generalize l.reverse = m
  induction m with
  | nil => rfl
  | cons b m ih =>
    by_cases hb : blankB (b.toNat : Int) = true
    · rw [List.dropWhile_cons, if_pos hb]; exact ih
    · rw [List.dropWhile_cons, if_neg hb, List.dropWhile_cons, if_neg hb]
theorem trm_sub (l : List UInt8) : ∀ b ∈ trmF l, b ∈ l := by
  intro b hb
  unfold trmF at hb
  have := (List.dropWhile_sublist (fun b : UInt8 => blankB (b.toNat : Int)) (l := l.reverse)).subset (List.mem_reverse.1 hb)
  exact List.mem_reverse.1 this
theorem trm_first {b : UInt8} (h : blankB (b.toNat : Int) = false) (x : List UInt8) : ∃ y, trmF (b :: x) = b :: y := by
  unfold trmF
  rw [List.reverse_cons, List.dropWhile_append]
  split
  · rw [List.dropWhile_cons, if_neg (by rw [h]; decide)]
    exact ⟨[], by simp⟩
  · exact ⟨(x.reverse.dropWhile fun b => blankB (b.toNat : Int)).reverse, by simp⟩
theorem items_cmt (N : Nat) : ∀ (n : Nat) (l : List UInt8) (bare : Bool) (c : List UInt8), some c ∈ itemsL N n l bare → CmtOk c
  | 0, _, _, _, h => by rw [itemsL] at h; simp at h
  | n + 1, [], _, _, h => by rw [itemsL] at h; simp at h
  | n + 1, b :: r, bare, c, h => by
    rw [itemsL] at h
    split at h
    · exact items_cmt N n _ _ c h
    · split at h
      · exact items_cmt N n _ _ c h
      · split at h
        · rename_i h10 hb h59
          rcases List.mem_append.1 h with h | h
          · split at h
            · simp only [List.mem_singleton, Option.some.injEq] at h
              have e59 : b = 59 := UInt8.toNat_inj.1 (by rw [h59]; rfl)
              have ht : (b :: r).take (endF (b :: r)) = b :: r.take (endF r) := by rw [endF, if_neg (by omega), List.take_succ_cons]
              subst h
              refine ⟨?_, fun a ha => line_none (b :: r) a (trm_sub _ a ha), trm_twice _⟩
              rw [ht, e59]
              exact trm_first (by decide) _
            · simp at h
          · exact items_cmt N n _ _ c h
        · rcases List.mem_cons.1 h with h | h
          · cases h
          · exact items_cmt N n _ _ c h
theorem ends_nl (r : List UInt8) : Ends (10 :: r) := fun c h => by cases h; decide
/-- What is formatted is read. -/
theorem rend_reach (wd : Nat) : ∀ (items : List (Option (List UInt8))) (fs : List Fm) (la : Int), (∀ c, some c ∈ items → CmtOk c) → forms items = fs.length → (∀ f ∈ fs, validF f = true) →
    ∀ (s : ByteArray) (pos : Nat) (top : List Fm), Rest s pos (rendI wd la items fs) → ∃ t, Reach s pos [] top false s.size [] (top ++ fs) t
  | [], fs, la, _, hf, _, s, pos, top, hr => by
    have e : fs = [] := by cases fs with
      | nil => rfl
      | cons f r => simp [forms] at hf
    subst e
    have := hr.size
    rw [rendI] at this
    have e : pos = s.size := by simpa using this
    subst e
    exact ⟨false, by rw [List.append_nil]; exact Reach.refl _ _ _ _ _⟩
  | some c :: r, fs, la, hc, hf, hv, s, pos, top, hr => by
    rw [forms_cons_some] at hf
    obtain ⟨x, rfl⟩ := (hc c (by simp)).first
    have hline := (hc (59 :: x) (by simp)).line
    rw [rendI, List.append_assoc] at hr
    have h1 : ∃ p, Reach s pos [] top false p [] top false ∧ Rest s p (59 :: x ++ 10 :: rendI wd 1 r fs) := by
      by_cases hla : la = 2 ∨ la = 3
      · rw [if_pos hla] at hr
        refine ⟨pos + 1, reach_blank hr (by decide) [] top false, ?_⟩
        have := (Rest.head hr).2.2
        simpa using this
      · rw [if_neg hla] at hr
        exact ⟨pos, Reach.refl _ _ _ _ _, by simpa using hr⟩
    obtain ⟨p, h1, h2⟩ := h1
    have h3 := reach_comment h2 (fun a ha => hline a (by simp [ha])) [] top false
    have h4 := h2.skip
    have h5 := reach_blank h4 (by decide) [] top false
    rw [show p + (59 :: x).length = p + (x.length + 1) by simp] at h4 h5
    obtain ⟨t, h6⟩ := rend_reach wd r fs 1 (fun d hd => hc d (by simp [hd])) hf hv s _ top (Rest.head h4).2.2
    exact ⟨t, h1.trans (h3.trans (h5.trans h6))⟩
  | none :: r, [], la, hc, hf, hv, s, pos, top, hr => by rw [forms_cons_none] at hf; simp at hf
  | none :: r, f :: fs, la, hc, hf, hv, s, pos, top, hr => by
    rw [forms_cons_none, List.length_cons] at hf
    have hvf := hv f (by simp)
    rw [rendI] at hr
    unfold putI at hr
    rw [List.append_assoc, List.append_assoc] at hr
    have h1 : ∃ p, Reach s pos [] top false p [] top false ∧ Rest s p (linF f 0 wd 0 ++ 10 :: rendI wd (stI (linF f 0 wd 0)) r fs) := by
      by_cases hla : stI (linF f 0 wd 0) = 3 ∧ la = 3
      · rw [if_pos hla] at hr
        refine ⟨pos + 1, reach_blank hr (by decide) [] top false, ?_⟩
        have := (Rest.head hr).2.2
        simpa using this
      · rw [if_neg hla] at hr
        exact ⟨pos, Reach.refl _ _ _ _ _, by simpa using hr⟩
    obtain ⟨p, h1, h2⟩ := h1
    obtain ⟨t1, h3⟩ := reads_lin _ f (Nat.lt_succ_self _) (valid_parts hvf).2.2 0 wd 0 s p _ [] top h2 (ends_nl _)
    have h4 := h2.skip
    have h5 := reach_blank h4 (by decide) [] (top ++ [f]) t1
    obtain ⟨t, h6⟩ := rend_reach wd r fs (stI (linF f 0 wd 0)) (fun d hd => hc d (by simp [hd])) (by omega) (fun g hg => hv g (by simp [hg])) s _ (top ++ [f]) (Rest.head h4).2.2
    refine ⟨t, ?_⟩
    have := h1.trans (h3.trans (h5.trans h6))
    simpa using this
theorem items_nl (N n : Nat) (r : List UInt8) (bare : Bool) : itemsL N (n + 1) (10 :: r) bare = itemsL N n r true := by rw [itemsL, if_pos (by decide)]
theorem endF_line : ∀ (x r : List UInt8), (∀ b ∈ x, b.toNat ≠ 10) → endF (x ++ 10 :: r) = x.length
  | [], r, _ => by rw [List.nil_append, endF, if_pos (by decide)]; rfl
  | b :: x, r, h => by
    rw [List.cons_append, endF, if_neg (h b (by simp)), endF_line x r fun c hc => h c (by simp [hc]), List.length_cons]
/-- The items of what is formatted. -/
theorem rend_items (wd N : Nat) : ∀ (items : List (Option (List UInt8))) (fs : List Fm) (la : Int), (∀ c, some c ∈ items → CmtOk c) → forms items = fs.length → (∀ f ∈ fs, validF f = true) →
    (rendI wd la items fs).length < N → ∀ n, (rendI wd la items fs).length < n → itemsL N n (rendI wd la items fs) true = items
  | [], fs, la, _, _, _, _, n, hn => by
    rw [rendI]
    cases n <;> rw [itemsL]
  | some c :: r, fs, la, hc, hf, hv, hN, n, hn => by
    rw [forms_cons_some] at hf
    have hok := hc c (by simp)
    obtain ⟨x, rfl⟩ := hok.first
    rw [rendI] at hN hn ⊢
    simp only [List.length_append, List.length_cons, List.length_nil] at hN hn
    have key : ∀ m, x.length + 2 + (rendI wd 1 r fs).length < m → itemsL N m ((59 :: x) ++ 10 :: rendI wd 1 r fs) true = some (59 :: x) :: r := by
      intro m hm
      obtain ⟨m, rfl⟩ : ∃ k, m = k + 1 + 1 := ⟨m - 2, by omega⟩
      have he := endF_line (59 :: x) (rendI wd 1 r fs) hok.line
      rw [List.cons_append] at he ⊢
      rw [itemsL, if_neg (by decide), if_neg (by decide), if_pos (by decide), if_pos rfl, he, ← List.cons_append, List.take_left, List.drop_left, hok.trim, items_nl]
      rw [rend_items wd N r fs 1 (fun d hd => hc d (by simp [hd])) hf hv (by omega) m (by omega)]
      rfl
    by_cases hla : la = 2 ∨ la = 3
    · rw [if_pos hla] at hN hn ⊢
      simp only [List.length_cons, List.length_nil] at hN hn
      obtain ⟨n, rfl⟩ : ∃ k, n = k + 1 := ⟨n - 1, by omega⟩
      have e : (([10] : List UInt8) ++ (59 :: x ++ [10])) ++ rendI wd 1 r fs = 10 :: (59 :: x ++ 10 :: rendI wd 1 r fs) := by simp
      rw [e, items_nl]
      exact key n (by omega)
    · rw [if_neg hla] at hN hn ⊢
      simp only [List.length_nil] at hN hn
      have e : (([] : List UInt8) ++ (59 :: x ++ [10])) ++ rendI wd 1 r fs = (59 :: x ++ 10 :: rendI wd 1 r fs) := by simp
      rw [e]
      exact key n (by omega)
  | none :: r, [], la, hc, hf, hv, _, n, hn => by rw [forms_cons_none] at hf; simp at hf
  | none :: r, f :: fs, la, hc, hf, hv, hN, n, hn => by
    rw [forms_cons_none, List.length_cons] at hf
    have hp := past_lin _ f (Nat.lt_succ_self _) (valid_parts (hv f (by simp))).2.2 0 wd 0
    rw [rendI] at hN hn ⊢
    unfold putI at hN hn ⊢
    obtain ⟨X, hX⟩ : ∃ X, linF f 0 wd 0 = X := ⟨_, rfl⟩
    rw [hX] at hp hN hn ⊢
    simp only [List.length_append, List.length_cons, List.length_nil] at hN hn
    have hrec : ∀ m, (rendI wd (stI X) r fs).length < m → itemsL N m (rendI wd (stI X) r fs) true = r := fun m hm =>
      rend_items wd N r fs (stI X) (fun d hd => hc d (by simp [hd])) (by omega) (fun g hg => hv g (by simp [hg])) (by omega) m hm
    have key : ∀ m, X.length + 1 + (rendI wd (stI X) r fs).length < m → itemsL N m (X ++ 10 :: rendI wd (stI X) r fs) true = none :: r := by
      intro m hm
      obtain ⟨m, rfl⟩ : ∃ k, m = k + 1 + 1 := ⟨m - 2, by omega⟩
      have hx1 : 1 ≤ X.length := by
        obtain ⟨b, r, e, _⟩ := hp.first
        rw [e]; simp
      have hm2 : (rendI wd (stI X) r fs).length < m := by omega
      have hg := hp.goes (10 :: rendI wd (stI X) r fs) 0 (by decide) (oth_cons (by decide) _)
      rw [if_pos rfl] at hg
      have hlen : (X ++ 10 :: rendI wd (stI X) r fs).length < N := by simp only [List.length_append, List.length_cons]; omega
      rw [← pastX_of hlen 0] at hg
      obtain ⟨b, q, rfl, hb, h59⟩ := hp.first
      have h10 : b.toNat ≠ 10 := by intro e; rw [e] at hb; revert hb; decide
      rw [List.cons_append] at hg ⊢
      rw [itemsL, if_neg h10, if_neg (by rw [hb]; decide), if_neg h59, hg, ← List.cons_append, List.drop_left, items_nl, hrec m hm2]
    by_cases hla : stI X = 3 ∧ la = 3
    · rw [if_pos hla] at hN hn ⊢
      simp only [List.length_cons, List.length_nil] at hN hn
      obtain ⟨n, rfl⟩ : ∃ k, n = k + 1 := ⟨n - 1, by omega⟩
      have e : (([10] : List UInt8) ++ (X ++ [10])) ++ rendI wd (stI X) r fs = 10 :: (X ++ 10 :: rendI wd (stI X) r fs) := by simp
      rw [e, items_nl]
      exact key n (by omega)
    · rw [if_neg hla] at hN hn ⊢
      simp only [List.length_nil] at hN hn
      have e : (([] : List UInt8) ++ (X ++ [10])) ++ rendI wd (stI X) r fs = (X ++ 10 :: rendI wd (stI X) r fs) := by simp
      rw [e]
      exact key n (by omega)
/-- A formatted text that is not too long: the same forms, the same items. -/
theorem text_again {s : ByteArray} {fs : List Fm} (h : readR s = .ok fs) {wd : Nat} {t : ByteArray} (ht : t.data.toList = (runI wd (0, []) (itemsL (s.size + 1) (s.size + 1) s.data.toList true) fs).2) (hs : t.size ≤ 60000) :
    readR t = .ok fs ∧ itemsL (t.size + 1) (t.size + 1) t.data.toList true = itemsL (s.size + 1) (s.size + 1) s.data.toList true := by
  obtain ⟨I, hI⟩ : ∃ I, itemsL (s.size + 1) (s.size + 1) s.data.toList true = I := ⟨_, rfl⟩
  have hc : ∀ c, some c ∈ I → CmtOk c := fun c hc => items_cmt _ _ _ _ c (by rw [hI]; exact hc)
  have hf : forms I = fs.length := by rw [← hI]; exact items_read h
  have hv := readR_valid h
  rw [hI, run_rend] at ht
  rw [hI]
  simp only [List.nil_append] at ht
  have hz : t.size = t.data.toList.length := by simp
  constructor
  · obtain ⟨t', hr⟩ := rend_reach wd I fs 0 hc hf hv t 0 [] ⟨by rw [List.drop_zero]; exact ht, Nat.zero_le _⟩
    rw [List.nil_append] at hr
    exact reach_end hr hs (List.all_eq_true.2 hv)
  · rw [ht] at hz
    rw [ht]
    exact rend_items wd _ I fs 0 hc hf hv (by omega) _ (by omega)
end Go.Proofs.YtedabholcldgbaaGreatDoor.Y

/- The chapter's example. -/
namespace Go.Proofs.YtedabholcldgbaaGreatDoor.Y
open Go.RowKit Go.Shelf Go.Deep

def sD : ByteArray := ⟨#[40, 102, 32, 32, 32, 49, 41]⟩
def sF : Fm := .mk 3 0 ⟨#[]⟩ [.mk 1 0 ⟨#[102]⟩ [], .mk 0 1 ⟨#[]⟩ []]
theorem s_one : Lib.itoa 1 = [49] := by
  unfold Lib.itoa
  rw [if_neg (by decide)]
  show Lib.decDigits 1 = [49]
  rw [Lib.decDigits, dif_pos (by decide)]
  rfl
theorem s_fields : fieldsF sF = true ∧ fieldsF (.mk 1 0 ⟨#[102]⟩ []) = true ∧ fieldsF (.mk 0 1 ⟨#[]⟩ []) = true := by
  refine ⟨?_, ?_, ?_⟩ <;> rfl
theorem s_valid : validF sF = true := by rfl
theorem s_tx : txF sF = [40, 102, 32, 49, 41] := by
  simp [sF, txF_eq, joinB, s_one, Fm.kd, Fm.ks, Fm.tx, Fm.nn]
theorem s_read : readR sD = .ok [sF] := by
  have k2 : Kids true ([32, 32, 32] ++ (txF (.mk 0 1 ⟨#[]⟩ []) ++ [])) [.mk 0 1 ⟨#[]⟩ []] := Kids.cons (by intro c hc; simp at hc; subst hc; decide) (by simp) (reads_tx s_fields.2.2) (Kids.nil _)
  have k1 : Kids false ([] ++ (txF (.mk 1 0 ⟨#[102]⟩ []) ++ ([32, 32, 32] ++ (txF (.mk 0 1 ⟨#[]⟩ []) ++ [])))) [.mk 1 0 ⟨#[102]⟩ [], .mk 0 1 ⟨#[]⟩ []] := Kids.cons (by simp) (by simp) (reads_tx s_fields.2.1) k2
  have hl := reads_list k1
  have e : (40 : UInt8) :: ([] ++ (txF (.mk 1 0 ⟨#[102]⟩ []) ++ ([32, 32, 32] ++ (txF (.mk 0 1 ⟨#[]⟩ []) ++ []))) ++ [41]) = sD.data.toList := by
    simp [txF_eq, s_one, Fm.kd, Fm.tx, Fm.nn, sD]
  rw [e] at hl
  obtain ⟨t, h1⟩ := hl sD 0 [] [] [] ⟨by simp, Nat.zero_le _⟩ (by intro c hc; cases hc)
  simp only [Nat.zero_add, List.nil_append] at h1
  exact reach_end (top := [sF]) (t := t) h1 (by decide) (by rw [List.all_cons, s_valid]; rfl)
theorem s_lin : linF sF 0 40 0 = [40, 102, 32, 49, 41] := by
  rw [linF_eq, s_tx, if_pos (.inl (by decide))]
theorem s_ob : obF sD.data.toList false 0 = 0 := by
  simp [sD, obF]
theorem s_put : putI 0 (linF sF 0 40 0) = [40, 102, 32, 49, 41, 10] := by
  rw [s_lin]; rfl
set_option maxHeartbeats 2000000 in
theorem sane_any (w : World) (hg : Glob w) (h6 : 8 ≤ w.heap.size) (htab : Tab w.heap.size w) :
    Calls Tryz.prog 18 #[] w fun e w' => e = .returned (.bool true) ∧ Below w.heap.size w w' := by
  have HT : Hid (Calls Tryz.prog 19 #[.string ⟨#[40, 102, 32, 32, 32, 49, 41]⟩, .int .i64 40] w fun e w' => e = .returned (.tuple #[.string ⟨#[40, 102, 32, 49, 41, 10]⟩, .int .i64 0]) ∧ Below w.heap.size w w') := Lib.hid (by
    have := (callsIn_wide.1 (text_one 8 (by decide) sD ⟨(Lib.trimS sD.data.toList [32, 9]).toArray⟩ sF 40 (by decide) (by decide) (by decide) s_read s_valid (by decide) s_ob (fun W => trim_any sD (by decide) W) (by decide) w hg h6 htab))
    rw [s_put] at this
    exact this)
  clear hg htab
  go_enter Tryz.func18, Tryz.ntmps18
  go_wp2_with (go_at_call 19; (with_reducible refine HT.out.mono ?_); rintro e w1 ⟨rfl, hB⟩)
  go_ret
  exact ⟨rfl, hB⟩
end Go.Proofs.YtedabholcldgbaaGreatDoor.Y
