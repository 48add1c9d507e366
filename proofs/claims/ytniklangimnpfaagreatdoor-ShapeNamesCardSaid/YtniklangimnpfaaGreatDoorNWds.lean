/- The document's words: a text cut at its blanks. -/
import Derived.Test.YtniklangimnpfaaGreatDoorStr
import Derived.Deep.RegionHeld3
namespace Go.Proofs.YtniklangimnpfaaGreatDoor
open Go.RowKit Go.Deep

/-- How far words has come. -/
def SpRel (r : ByteArray) (L : List (List UInt8)) (f k : Nat) : Prop :=
  f ≤ k ∧ ((k ≤ r.size ∧ splitB [] r.data.toList = L ++ splitB ((r.data.toList.drop f).take (k - f)) (r.data.toList.drop k)) ∨ (k = r.size + 1 ∧ f = r.size + 1 ∧ splitB [] r.data.toList = L)) ∧ L.length ≤ k
theorem sp_end {r : ByteArray} {L : List (List UInt8)} {f k : Nat} (h : SpRel r L f k) (hk : k = r.size) : SpRel r (L ++ [(r.extract f k).data.toList]) (k + 1) (k + 1) := by
  obtain ⟨hf, ⟨_, h⟩ | ⟨h, _⟩, hl⟩ := h
  · have hd : r.data.toList.drop k = [] := List.drop_of_length_le (by rw [hk]; simp)
    rw [hd, splitB, ← sub_list] at h
    exact ⟨Nat.le_refl _, .inr ⟨by omega, by omega, h⟩, by simp; omega⟩
  · omega
theorem sp_blank {r : ByteArray} {L : List (List UInt8)} {f k : Nat} (h : SpRel r L f k) (hk : k < r.size) (hb : r[k].toNat = 32) : SpRel r (L ++ [(r.extract f k).data.toList]) (k + 1) (k + 1) := by
  obtain ⟨hf, ⟨_, h⟩ | ⟨h, _⟩, hl⟩ := h
  · have hd : r.data.toList.drop k = 32 :: r.data.toList.drop (k + 1) := by
      rw [List.drop_eq_getElem_cons (by simpa using hk)]
      have : r.data.toList[k]'(by simpa using hk) = 32 := by
        have : r[k] = 32 := by rw [← UInt8.toNat_inj, hb]; rfl
        rw [← this]; rfl
      rw [this]
    rw [hd, splitB, if_pos rfl, ← sub_list] at h
    exact ⟨Nat.le_refl _, .inl ⟨hk, by rw [h]; simp⟩, by simp; omega⟩
  · omega
theorem sp_step {r : ByteArray} {L : List (List UInt8)} {f k : Nat} (h : SpRel r L f k) (hk : k < r.size) (hb : ¬ r[k].toNat = 32) : SpRel r L f (k + 1) := by
  obtain ⟨hf, ⟨_, h⟩ | ⟨h, _⟩, hl⟩ := h
  · refine ⟨by omega, .inl ⟨hk, ?_⟩, by omega⟩
    have hlt : k < r.data.toList.length := by simpa using hk
    have hne : ¬ r.data.toList[k] = 32 := fun e => hb (by
      have : r[k] = 32 := by rw [← e]; rfl
      rw [this]; rfl)
    rw [List.drop_eq_getElem_cons hlt, splitB, if_neg hne] at h
    rw [h]
    congr 2
    rw [show k + 1 - f = (k - f) + 1 by omega, List.take_add_one, List.getElem?_drop, show f + (k - f) = k by omega, List.getElem?_eq_getElem hlt]
    rfl
  · omega

set_option maxHeartbeats 2000000 in
theorem words_any (r : ByteArray) (hr : r.size ≤ 1000000) (w : World) :
    Calls Tryz.prog 17 #[.string r] w fun e w' => ∃ v, e = .returned v ∧ OwnS w.heap.size w w' v (splitB [] r.data.toList) := by
  go_enter Tryz.func17, Tryz.ntmps17
  go_wp2_with fail
  go_loopg [3, 4, 5] (r.size + 1) (fun m v from' i wr => ∃ (k f : Nat) (L : List (List UInt8)), m = r.size + 1 - k ∧ k ≤ r.size + 1 ∧ i = .int .i64 k ∧ from' = .int .i64 f ∧ SpRel r L f k ∧ OwnS w.heap.size w wr v L)
  case atStart => exact ⟨0, 0, [], by omega, by omega, rfl, rfl, ⟨Nat.le_refl _, .inl ⟨by omega, by simp⟩, by simp⟩, OwnS.start (Nat.le_refl _)⟩
  case round =>
    obtain ⟨k, f, L, rfl, hk, rfl, rfl, hI, hO⟩ := hrel
    have HO := Lib.hid hO
    have HL : Hid (L.length ≤ k) := Lib.hid hI.2.2
    clear hO
    by_cases hlt : k ≤ r.size
    · have hf := hI.1
      have gk : (f : Int) ≤ (k : Int) := by omega
      have gk2 : (k : Int) ≤ (r.size : Int) := by omega
      by_cases he : k = r.size
      · subst he
        have HS := Lib.hid (sp_end hI rfl)
        obtain ⟨u, hu⟩ : ∃ u, r.extract f r.size = u := ⟨_, rfl⟩
        rw [hu] at HS
        clear hI
        go_wp2_with (at_builtin; refine ownS_push rfl _ _ 24 rfl Tryz.underlying24 rfl (HO.out.next (bel1 _ _)) u 1 _ rfl (by rw [← hu]; exact heap_alloc_new _ _) (by have := HL.out; omega) ?_; intro v4 w4 ho4 hg4; have HO4 := Lib.hid ho4; clear ho4 hg4)
        go_roundg (0)
        case measure => omega
        case rel => exact ⟨r.size + 1, r.size + 1, _, by omega, by omega, by go_num, by go_num, HS.out, HO4.out⟩
      · have hlt2 : k < r.size := by omega
        by_cases hb : r[k].toNat = 32
        · have hb' : ((r[k].toNat : Int) == 32) = true := by rw [hb]; rfl
          have HS := Lib.hid (sp_blank hI hlt2 hb)
          obtain ⟨u, hu⟩ : ∃ u, r.extract f k = u := ⟨_, rfl⟩
          rw [hu] at HS
          clear hI hb
          go_wp2_with (at_builtin; refine ownS_push rfl _ _ 24 rfl Tryz.underlying24 rfl (HO.out.next (bel1 _ _)) u 1 _ rfl (by rw [← hu]; exact heap_alloc_new _ _) (by have := HL.out; omega) ?_; intro v4 w4 ho4 hg4; have HO4 := Lib.hid ho4; clear ho4 hg4)
          go_roundg (r.size + 1 - (k + 1))
          case measure => omega
          case rel => exact ⟨k + 1, k + 1, _, by omega, by omega, by go_num, by go_num, HS.out, HO4.out⟩
        · have hb' : ((r[k].toNat : Int) == 32) = false := by simp; omega
          have HS := Lib.hid (sp_step hI hlt2 hb)
          clear hI hb
          go_wp2_with fail
          go_roundg (r.size + 1 - (k + 1))
          case measure => omega
          case rel => exact ⟨k + 1, f, L, by omega, by omega, by go_num, rfl, HS.out, HO.out⟩
    · have HS : Hid (splitB [] r.data.toList = L) := Lib.hid (by
        obtain ⟨_, ⟨h, _⟩ | ⟨_, _, h⟩, _⟩ := hI
        · omega
        · exact h)
      have hlt' : decide ((k : Int) ≤ (r.size : Int)) = false := by simp; omega
      clear hI
      go_wp2_with fail
      go_ret
      exact ⟨_, rfl, by rw [HS.out]; exact HO.out⟩
end Go.Proofs.YtniklangimnpfaaGreatDoor
