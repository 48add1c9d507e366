/- The scanner's readText. -/
import Derived.Test.YtedabholcldgbaaGreatDoorClose
import Derived.Laws.IdiomStrings
namespace Go.Proofs.YtedabholcldgbaaGreatDoor
open Go.RowKit Go.Deep

inductive TX where
  | err (e : Int)
  | done (bs : List UInt8) (used : Nat)
def TX.pre (a : List UInt8) (k : Nat) : TX → TX
  | .err e => .err e
  | .done bs n => .done (a ++ bs) (k + n)
def unV (b : Int) : Int := if b = 34 ∨ b = 92 then b else if b = 110 then 10 else 0
def unOk (b : Int) : Bool := b == 34 || b == 92 || b == 110
def unB (b : UInt8) : UInt8 := if b = 110 then 10 else b
/-- What stands in a text, and how many bytes it takes with its closing quote: of the bytes behind the opening one. -/
def txtL : List UInt8 → TX
  | [] => .err 12
  | b :: r => if b.toNat = 34 then .done [] 1 else if b.toNat = 92 then (match r with
      | [] => .err 12
      | c :: r' => if unOk (c.toNat : Int) = true then (txtL r').pre [unB c] 2 else .err 4)
    else if b.toNat = 32 ∨ plainB (b.toNat : Int) = true then (txtL r).pre [b] 1 else .err 4
theorem TX.pre_pre (a b : List UInt8) (k j : Nat) (t : TX) : (t.pre b j).pre a k = t.pre (a ++ b) (k + j) := by
  cases t <;> simp [TX.pre, Nat.add_assoc]
theorem TX.pre_nil (t : TX) : t.pre [] 0 = t := by cases t <;> simp [TX.pre]
theorem unV_eq (c : UInt8) (h : unOk (c.toNat : Int) = true) : unV (c.toNat : Int) = ((unB c).toNat : Int) := by
  unfold unOk at h
  simp only [Bool.or_eq_true, beq_iff_eq] at h
  have inj : ∀ n : UInt8, (c.toNat : Int) = (n.toNat : Int) → c = n := fun n e => UInt8.toNat_inj.1 (Int.ofNat.inj e)
  rcases h with (h | h) | h
  · obtain rfl := inj 34 h; rfl
  · obtain rfl := inj 92 h; rfl
  · obtain rfl := inj 110 h; rfl

theorem unescape_any (b : Int) (w : World) :
    Calls Tryz.prog 146 #[.int .u8 b] w fun e w' => e = .returned (.tuple #[.int .u8 (unV b), .bool (unOk b)]) ∧ w = w' := by
  by_cases h1 : b = 34
  · subst h1
    go_enter Tryz.func146, Tryz.ntmps146
    go_wp2
    go_ret2
    exact ⟨rfl, rfl⟩
  · by_cases h2 : b = 92
    · subst h2
      go_enter Tryz.func146, Tryz.ntmps146
      go_wp2
      go_ret2
      exact ⟨rfl, rfl⟩
    · by_cases h3 : b = 110
      · subst h3
        go_enter Tryz.func146, Tryz.ntmps146
        go_wp2
        go_ret2
        exact ⟨rfl, rfl⟩
      · have g1 : (b == 34) = false := by simpa using h1
        have g2 : (b == 92) = false := by simpa using h2
        have g3 : (b == 110) = false := by simpa using h3
        have e1 : unV b = 0 := by unfold unV; rw [if_neg (by omega), if_neg h3]
        have e2 : unOk b = false := by unfold unOk; rw [g1, g2, g3]; rfl
        rw [e1, e2]
        clear h1 h2 h3 e1 e2
        go_enter Tryz.func146, Tryz.ntmps146
        go_wp2
        go_ret2
        exact ⟨rfl, rfl⟩

section
variable {base : Nat} {w w' : World} {R : Nat} {s : ByteArray} {pos : Nat} {ov : Value} {L : List Lv} {tight : Bool}
/-- All that is meant lies below block B. -/
def Low (R : Nat) (ov : Value) (L : List Lv) (B : Nat) : Prop := (∀ b ∈ live R ov L, b < B) ∧ ∀ p ∈ L, ∀ t ∈ p.2, ∀ b, On t b → b < B
theorem Scan.low (h : Scan base w R s pos ov L tight) : Low R ov L w.heap.size :=
  ⟨fun b hb => (h.live_lt b hb).2, fun p hp t ht _ hb => ((h.lvl p hp).2 t ht).1.lt hb⟩
theorem Scan.belowB {B : Nat} (h : Scan base w R s pos ov L tight) (hl : Low R ov L B) (hb : Below B w w') : Scan base w' R s pos ov L tight := by
  have hs : ∀ k, k ∈ live R ov L → w'.heap[k]? = w.heap[k]? := fun k hk => hb.block k (hl.1 k hk)
  refine ⟨(hs R (by simp [live])).trans h.blk, own_same h.rows fun k hk => hs k (by simp [live, hk]), fun p hp => ⟨own_same (h.lvl p hp).1 fun k hk => hs k ?_, fun t ht => ⟨((h.lvl p hp).2 t ht).1.same _ (Nat.lt_succ_self _) fun b hb' => hb.block b (hl.2 p hp t ht b hb'), ((h.lvl p hp).2 t ht).2⟩⟩, h.nodup, h.hR, Nat.le_trans h.hw hb.size, h.hi⟩
  simp only [live, List.mem_cons, List.mem_append, List.mem_flatMap]
  exact .inr (.inr ⟨p, hp, by rw [hk]; simp⟩)
end
def bytesV (l : List UInt8) : List Value := l.map fun b => .int .u8 (b.toNat : Int)
theorem info5 : (Tryz.prog.info? 5).map (fun i => (i.zero, i.size, i.bytes)) = some (some (.int .u8 0), 1, 1) := by kernel_rfl
/-- The bytes of an own row as a string. -/
theorem conv_row {w : World} {B : Nat} {iv : Value} {l : List UInt8} (h : w.ownsRow B 5 1 iv l.length (bytesV l)) (n : Nat) :
    (convert 46 9 iv).run Tryz.prog (w.drewN n) = .ok (.string ⟨l.toArray⟩) (w.drewN n) := by
  cases hl : l with
  | nil =>
    subst hl
    rcases h.2 with ⟨e, _⟩ | ⟨g, c, cur, e, _⟩
    · rw [e]; exact run_convert_bytes_nil _ _ _ Tryz.underlying46 Tryz.underlying5 _ _ _ Tryz.underlying9
    · rw [e]
      exact run_convert_bytes_back _ _ _ _ _ c [] Tryz.underlying46 Tryz.underlying5 Tryz.underlying9 (fun j hj => absurd hj (Nat.not_lt_zero _))
  | cons b r =>
    rw [← hl]
    obtain ⟨g, c, e, _, _⟩ := h.form (by rw [hl]; simp)
    rw [e]
    rw [e] at h
    refine run_convert_bytes_back _ _ _ _ _ c l Tryz.underlying46 Tryz.underlying5 Tryz.underlying9 (fun j hj => ?_)
    have hadd : (⟨g, 0, none⟩ : Addr).add j = ⟨g, j, none⟩ := by unfold Addr.add; split <;> simp_all
    rw [hadd, World.cell?_drewN, h.cellAt j (by omega)]
    simp [bytesV, hj]
end Go.Proofs.YtedabholcldgbaaGreatDoor
