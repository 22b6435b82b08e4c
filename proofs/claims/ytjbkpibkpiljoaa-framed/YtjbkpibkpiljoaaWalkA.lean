import Derived.Test.YtjbkpibkpiljoaaRows
import Derived.Test.YtjbkpibkpiljoaaPure
import Derived.WalkKit
import Derived.ProofKit
import Derived.OpenShut
import Derived.JoinedCond
namespace Go.Proofs.Ytjbkpibkpiljoaa
open Go.ChangeShapes Go.WideShapes Go.ChangeAt Go.RowKit

theorem take_snoc (s : ByteArray) (k : Nat) (h : k < s.size) : s.data.toList.take (k + 1) = s.data.toList.take k ++ [s[k]] := by
  rw [List.take_succ_eq_append_getElem (by simpa using h)]; rfl
theorem ret_int {k : IntKind} {a b : Int} (h : a = b) : Ending.returned (.int k a) = .returned (.int k b) := by rw [h]

set_option maxHeartbeats 400000 in
theorem check_any (s : ByteArray) (w : World) (hs : s.size ≤ maxLen) :
    Calls Try.prog 18 #[.string s] w fun e w' => e = .returned (.int .u32 (crc s.data.toList : Nat)) ∧ w' = w := by
  unfold maxLen at hs
  go_enter Try.func18, Try.ntmps18
  go_wp2
  go_loop [3, 8] (fun n i => ∃ k c : Nat, k ≤ s.size ∧ i = .int .i64 k ∧ n = .int .u32 c ∧ c < 4294967296 ∧ Hid (c = crcF 4294967295 (s.data.toList.take k))) (fun _ i => s.size - (intOf i).toNat)
  case atStart => exact ⟨0, 4294967295, Nat.zero_le _, rfl, rfl, by omega, rfl⟩
  case round =>
    obtain ⟨k, c, hk, rfl, rfl, hc, Hc⟩ := hrel
    by_cases hlt : k < s.size
    · have hb : s[k].toNat < 256 := s[k].toNat_lt
      have hx : bits BinOp.xor IntKind.u32 (c : Int) (s[k].toNat : Int) = ((c ^^^ s[k].toNat : Nat) : Int) :=
        bits_xor_u32_nat _ _ hc (by omega)
      have hxl := xor_lt32 hc (show s[k].toNat < 4294967296 by omega)
      have HB : Hid (byteS c s[k] = stepK 8 (c ^^^ s[k].toNat)) := rfl
      have HT : Hid (crcF 4294967295 (s.data.toList.take (k + 1)) = byteS c s[k]) := by show _ = _; rw [take_snoc s k hlt, crcF_snoc, ← Hc.out]
      generalize c ^^^ s[k].toNat = x at hx hxl HB
      go_wp2
      go_loop [3, 17] (fun n i => ∃ j d : Nat, j ≤ 8 ∧ i = .int .i64 j ∧ n = .int .u32 d ∧ d < 4294967296 ∧ Hid (d = stepK j x)) (fun _ i => 8 - (intOf i).toNat)
      case atStart => exact ⟨0, x, by omega, rfl, by rfl, hxl, rfl⟩
      case round =>
        obtain ⟨j, d, hj, rfl, rfl, hd, Hd⟩ := hrel
        by_cases hjl : j < 8
        · have ha := bits_and1_u32_nat d hd
          have hh : bits BinOp.xor IntKind.u32 ((d : Int) / 2) 2197175160 = ((d / 2 ^^^ 2197175160 : Nat) : Int) := by
            have := bits_xor_u32_nat (d / 2) 2197175160 (by omega) (by omega)
            simpa using this
          by_cases hod : d % 2 = 1
          · have hs1 : stepN d = d / 2 ^^^ 2197175160 := by unfold stepN; rw [if_pos hod]
            have Hs : Hid (stepK (j + 1) x = d / 2 ^^^ 2197175160) := by show _ = _; rw [stepK, ← Hd.out, hs1]
            have hl := stepN_lt hd
            rw [hs1] at hl
            rw [hod] at ha
            have ha' : bits BinOp.and IntKind.u32 (d : Int) 1 = 1 := by simpa using ha
            clear hs1 ha hod
            generalize d / 2 ^^^ 2197175160 = y at *
            go_wp2
            go_round
            case rel => exact ⟨j + 1, y, by omega, by go_num, rfl, hl, Hs.out.symm⟩
            case measure => simp [intOf]; omega
          · have hs1 : stepN d = d / 2 := by unfold stepN; rw [if_neg hod]
            have Hs : Hid (stepK (j + 1) x = d / 2) := by show _ = _; rw [stepK, ← Hd.out, hs1]
            have h0 : d % 2 = 0 := by omega
            rw [h0] at ha
            have ha' : bits BinOp.and IntKind.u32 (d : Int) 1 = 0 := by simpa using ha
            clear hs1 ha hod hh h0
            go_wp2
            go_round
            case rel => exact ⟨j + 1, d / 2, by omega, by go_num, by simp, by omega, Hs.out.symm⟩
            case measure => simp [intOf]; omega
        · obtain rfl : j = 8 := by omega
          go_wp2
          go_round
          case rel => exact ⟨k + 1, d, by omega, by go_num, rfl, hd, (by show _ = _; rw [HT.out, HB.out, Hd.out])⟩
          case measure => simp [intOf]; omega
    · go_wp2
      go_ret
      refine ⟨ret_int ?_, rfl⟩
      have e : s.data.toList.take k = s.data.toList := List.take_of_length_le (by simp; omega)
      have := Hc.out
      rw [e] at this
      unfold crc
      rw [← this]
      exact bits_not_u32_nat c hc
end Go.Proofs.Ytjbkpibkpiljoaa
