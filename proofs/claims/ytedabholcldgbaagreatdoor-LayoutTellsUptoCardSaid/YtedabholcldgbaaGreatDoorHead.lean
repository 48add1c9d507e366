/- reader.One, reader.Head and the chapter's example. -/
import Derived.Test.YtedabholcldgbaaGreatDoorRead
namespace Go.Proofs.YtedabholcldgbaaGreatDoor
open Go.RowKit Go.Deep

def headF (f : Fm) : ByteArray := match f.kids with
  | [] => ⟨#[]⟩
  | k :: _ => if k.kd = 1 then k.tx else ⟨#[]⟩
theorem headF_nil {f : Fm} (h : f.kids = []) : headF f = ⟨#[]⟩ := by unfold headF; rw [h]
theorem headF_cons {f k : Fm} {r : List Fm} (h : f.kids = k :: r) : headF f = if k.kd = 1 then k.tx else ⟨#[]⟩ := by unfold headF; rw [h]
theorem ret_str {a b : ByteArray} (h : a = b) : Ending.returned (.string a) = .returned (.string b) := by rw [h]
set_option maxHeartbeats 1000000 in
theorem head_any (t : T) (w : World) (hin : In w t) :
    Calls Tryz.prog 43 #[t.val] w fun e w' => e = .returned (.string (headF t.form)) ∧ Below w.heap.size w w' := by
  obtain ⟨a, c, xs, hxs, hlen, hmem, hInL, hkids⟩ := kids_any t
  have hlen := hlen hin.ok
  unfold maxLen at hlen
  have HK := Lib.hid hkids
  have HI := Lib.hid hInL
  have HIN := Lib.hid hin
  clear hkids hInL hin hmem
  rcases xs with _ | ⟨x, r⟩
  · rw [headF_nil (by rw [← hxs]; rfl)]
    simp only [List.length_nil] at HK
    clear hxs hlen
    go_enter Tryz.func43, Tryz.ntmps43
    go_wp2_with (go_at_call 71; refine (HK.out _).mono ?_; rintro e w2 ⟨rfl, hB⟩; have HB := Lib.hid hB; clear hB)
    go_ret
    exact ⟨rfl, up (bel1 _ _) HB.out⟩
  · have hh : headF t.form = if x.kd = 1 then x.tx else ⟨#[]⟩ := by
      rw [headF_cons (k := x.form) (r := r.map T.form) (by rw [← hxs]; rfl), T.form_kd, T.form_tx]
    have HX : Hid (∀ w', In w' t → ∃ b o, a = some ⟨b, o, none⟩ ∧ Cells4 w' b o x) := Lib.hid fun w' h => by
      have h0 := (HI.out w' h).at 0 (by simp)
      obtain ⟨⟨b, o, e, hc⟩, _⟩ := h0
      exact ⟨b, o, e, by simpa using hc⟩
    obtain ⟨b, o, rfl, _⟩ := HX.out w HIN.out
    have HC : Hid (∀ w', In w' t → Cells4 w' b o x) := Lib.hid fun w' h => by
      obtain ⟨b', o', e, hc⟩ := HX.out w' h
      injection e with e
      injection e with e1 e2 e3
      subst e1 e2
      exact hc
    obtain ⟨n, hn⟩ : ∃ n : Nat, (x :: r).length = n + 1 := ⟨r.length, rfl⟩
    rw [hn] at HK hlen
    have hn0 : (((n : Int) + 1) == 0) = false := by simp; omega
    have hn1 : (0 : Int) < (n : Int) + 1 := by omega
    rw [hh]
    clear hh hxs HX hn
    by_cases h1 : x.kd = 1
    · rw [if_pos h1]
      have g1 : (x.kd != 1) = false := by simpa using h1
      clear h1
      go_enter Tryz.func43, Tryz.ntmps43
      go_wp2_with (go_at_call 71; refine (HK.out _).mono ?_; rintro e w2 ⟨rfl, hB⟩; obtain ⟨k0, k1, k2, k3⟩ := HC.out w2 ((HIN.out.alloc _).below hB); have HB := Lib.hid hB; clear hB)
      go_ret
      exact ⟨rfl, up (bel1 _ _) HB.out⟩
    · rw [if_neg h1]
      have g1 : (x.kd != 1) = true := by simpa using h1
      clear h1
      go_enter Tryz.func43, Tryz.ntmps43
      go_wp2_with (go_at_call 71; refine (HK.out _).mono ?_; rintro e w2 ⟨rfl, hB⟩; obtain ⟨k0, k1, k2, k3⟩ := HC.out w2 ((HIN.out.alloc _).below hB); have HB := Lib.hid hB; clear hB)
      go_ret
      exact ⟨rfl, up (bel1 _ _) HB.out⟩

inductive OD where
  | err (e : Int)
  | ok (f : Fm)
def oneDone : RD → OD
  | .err c => .err c
  | .ok [f] => .ok f
  | .ok _ => .err 4
def oneR (s : ByteArray) : OD := oneDone (readR s)
def OneEnd (w w' : World) (r : OD) (e : Ending) : Prop :=
  match r with
  | .err c => e = .returned (.tuple #[.agg #[.int .i64 0, .int .i64 0, .string ⟨#[]⟩, .slice none 0 0], .int .i64 c]) ∧ Below w.heap.size w w'
  | .ok f => ∃ t : T, e = .returned (.tuple #[t.val, .int .i64 0]) ∧ t.form = f ∧ In w' t ∧ Below w.heap.size w w'
theorem loopS_err_code {s : ByteArray} {c : Int} : ∀ (k pos : Nat) (O : List (List Fm)) (top : List Fm) (tight : Bool), s.size - pos < k → pos ≤ s.size → tot O top ≤ pos → loopS s k pos O top tight = .err c → c ≠ 0 := by
  intro k
  induction k with
  | zero => intro pos O top tight h; omega
  | succ k ih =>
    intro pos O top tight hk hp ht h
    by_cases hlt : pos < s.size
    · cases hst : stepS s pos s[pos].toNat O top tight with
      | err c' =>
        rw [loopS_err hlt hst] at h
        injection h with h
        subst h
        rcases stepS_err hst with e | e | e <;> omega
      | ok q O' top' t' =>
        rw [loopS_ok hlt hst] at h
        obtain ⟨b1, b2, b3⟩ := stepS_bound hlt ht hst
        exact ih q O' top' t' (by omega) b2 b3 h
    · rw [loopS_end hlt] at h; cases h
theorem readR_err {s : ByteArray} {c : Int} (h : readR s = .err c) : c ≠ 0 := by
  unfold readR at h
  split at h
  · injection h with h; omega
  · cases hl : loopS s (s.size + 1) 0 [] [] false with
    | err c' =>
      rw [hl] at h
      simp only [readDone, RD.err.injEq] at h
      subst h
      exact loopS_err_code _ _ _ _ _ (by omega) (by omega) (by simp [tot, szO, szL]) hl
    | ok O top =>
      rw [hl] at h
      simp only [readDone] at h
      split at h
      · injection h with h; omega
      · split at h
        · cases h
        · injection h with h; omega
end Go.Proofs.YtedabholcldgbaaGreatDoor
