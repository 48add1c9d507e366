/- reader.appendText: a text as it is written. -/
import Derived.Test.YtedabholcldgbaaGreatDoorBuf
namespace Go.Proofs.YtedabholcldgbaaGreatDoor
open Go.RowKit Go.Deep

/-- It returns what owns these bytes. -/
def BufEnd (B : Nat) (w w' : World) (l : List UInt8) (e : Ending) : Prop := ∃ v', e = .returned v' ∧ Buf B w w' v' l
theorem take_byte (s : ByteArray) (k : Nat) (h : k < s.size) : s.data.toList.take (k + 1) = s.data.toList.take k ++ [s[k]] := by
  rw [List.take_succ_eq_append_getElem (by simpa using h)]; rfl
theorem esc_next {l : List UInt8} {s : ByteArray} {k : Nat} (h : k < s.size) {x : List UInt8} (hx : escB s[k] = x) : l ++ 34 :: escL (s.data.toList.take k) ++ x = l ++ 34 :: escL (s.data.toList.take (k + 1)) := by
  rw [take_byte s k h, escL_snoc, hx]; simp
theorem quo_done (l : List UInt8) (s : ByteArray) {k : Nat} (h : s.size ≤ k) : l ++ 34 :: escL (s.data.toList.take k) ++ [34] = l ++ quoL s.data.toList := by
  rw [List.take_of_length_le (by simp; omega)]; simp [quoL]
theorem esc_small (l : List UInt8) (s : ByteArray) (k : Nat) (hs : s.size ≤ 2000) (hl : l.length ≤ 1000000000) : (l ++ 34 :: escL (s.data.toList.take k)).length ≤ 1000010000 := by
  have h1 := escL_len (s.data.toList.take k)
  have h2 : (s.data.toList.take k).length ≤ s.data.toList.length := List.length_take_le' _ _
  have e : s.data.toList.length = s.size := by simp
  simp only [List.length_append, List.length_cons]
  omega

set_option maxHeartbeats 2000000 in
theorem appendText_any (B : Nat) (s : ByteArray) (hs : s.size ≤ 2000) (v : Value) (l : List UInt8) (hl : l.length ≤ 1000000000) (w : World) (hb : Buf B w w v l) :
    Calls Tryz.prog 61 #[v, .string s] w fun e w' => BufEnd B w w' (l ++ quoL s.data.toList) e := by
  have HB := Lib.hid hb
  clear hb
  go_enter Tryz.func61, Tryz.ntmps61
  go_wp2_with (at_builtin; refine buf_bytes rfl _ _ 46 rfl Tryz.underlying46 rfl HB.out [34] _ (by simp [bytesV]) 1 rfl 1 _ rfl (by simp) (by omega) ?_; intro v1 w1 hb1; have HB1 := Lib.hid hb1; clear hb1)
  go_loopg [0, 12] (s.size) (fun m o i wr => ∃ k : Nat, k ≤ s.size ∧ m = s.size - k ∧ i = .int .i64 k ∧ Buf B w wr o (l ++ 34 :: escL (s.data.toList.take k)))
  case atStart => exact ⟨0, by omega, rfl, rfl, by simpa [escL] using HB1.out⟩
  case round =>
    obtain ⟨k, hk, rfl, rfl, hbk⟩ := hrel
    have HBK := Lib.hid hbk
    have hlen := esc_small l s k hs hl
    clear hbk
    by_cases hlt : k < s.size
    · by_cases b34 : s[k].toNat = 34
      · have g34 : ((s[k].toNat : Int) == 34) = true := by simp; omega
        have HX := Lib.hid (esc_next (l := l) hlt (x := [92, s[k]]) (by unfold escB; rw [if_pos (.inl b34)]))
        clear b34
        go_wp2_with (at_builtin; refine buf_bytes rfl _ _ 46 rfl Tryz.underlying46 rfl HBK.out [92, s[k]] _ (by simp [bytesV]) 2 rfl 2 _ rfl (by simp) (by omega) ?_; intro v2 w2 hb2; have HB2 := Lib.hid hb2; clear hb2)
        go_roundg (s.size - (k + 1))
        case measure => omega
        case rel => exact ⟨k + 1, by omega, rfl, by go_num, by rw [← HX.out]; exact HB2.out⟩
      · have g34 : ((s[k].toNat : Int) == 34) = false := by simp; omega
        by_cases b92 : s[k].toNat = 92
        · have g92 : ((s[k].toNat : Int) == 92) = true := by simp; omega
          have HX := Lib.hid (esc_next (l := l) hlt (x := [92, s[k]]) (by unfold escB; rw [if_pos (.inr b92)]))
          clear b34 b92
          go_wp2_with (at_builtin; refine buf_bytes rfl _ _ 46 rfl Tryz.underlying46 rfl HBK.out [92, s[k]] _ (by simp [bytesV]) 2 rfl 2 _ rfl (by simp) (by omega) ?_; intro v2 w2 hb2; have HB2 := Lib.hid hb2; clear hb2)
          go_roundg (s.size - (k + 1))
          case measure => omega
          case rel => exact ⟨k + 1, by omega, rfl, by go_num, by rw [← HX.out]; exact HB2.out⟩
        · have g92 : ((s[k].toNat : Int) == 92) = false := by simp; omega
          by_cases b10 : s[k].toNat = 10
          · have g10 : ((s[k].toNat : Int) == 10) = true := by simp; omega
            have HX := Lib.hid (esc_next (l := l) hlt (x := [92, 110]) (by unfold escB; rw [if_neg (by omega), if_pos b10]))
            clear b34 b92 b10
            go_wp2_with (at_builtin; refine buf_bytes rfl _ _ 46 rfl Tryz.underlying46 rfl HBK.out [92, 110] _ (by simp [bytesV]) 2 rfl 2 _ rfl (by simp) (by omega) ?_; intro v2 w2 hb2; have HB2 := Lib.hid hb2; clear hb2)
            go_roundg (s.size - (k + 1))
            case measure => omega
            case rel => exact ⟨k + 1, by omega, rfl, by go_num, by rw [← HX.out]; exact HB2.out⟩
          · have g10 : ((s[k].toNat : Int) == 10) = false := by simp; omega
            have HX := Lib.hid (esc_next (l := l) hlt (x := [s[k]]) (by unfold escB; rw [if_neg (by omega), if_neg b10]))
            clear b34 b92 b10
            go_wp2_with (at_builtin; refine buf_bytes rfl _ _ 46 rfl Tryz.underlying46 rfl HBK.out [s[k]] _ (by simp [bytesV]) 1 rfl 1 _ rfl (by simp) (by omega) ?_; intro v2 w2 hb2; have HB2 := Lib.hid hb2; clear hb2)
            go_roundg (s.size - (k + 1))
            case measure => omega
            case rel => exact ⟨k + 1, by omega, rfl, by go_num, by rw [← HX.out]; exact HB2.out⟩
    · have HX := Lib.hid (quo_done l s (k := k) (by omega))
      go_wp2_with (at_builtin; refine buf_bytes rfl _ _ 46 rfl Tryz.underlying46 rfl HBK.out [34] _ (by simp [bytesV]) 1 rfl 1 _ rfl (by simp) (by omega) ?_; intro v2 w2 hb2; have HB2 := Lib.hid hb2; clear hb2)
      go_ret
      exact ⟨_, rfl, by rw [← HX.out]; exact HB2.out⟩
end Go.Proofs.YtedabholcldgbaaGreatDoor
