import Derived.Test.YtjbkpibkpiljoaaWalkA
namespace Go.Proofs.Ytjbkpibkpiljoaa
open Go.ChangeShapes Go.WideShapes Go.ChangeAt Go.RowKit

set_option maxHeartbeats 400000 in
theorem part_any (x : Nat) (w : World) (hx : x < 4294967296) :
    Calls Try.prog 23 #[.int .u32 (x : Int)] w fun e w' => e = .returned (.int .u32 (stepK 8 x : Nat)) ∧ w' = w := by
  go_enter Try.func23, Try.ntmps23
  go_wp2
  go_loop [0, 3] (fun n i => ∃ j d : Nat, j ≤ 8 ∧ i = .int .i64 j ∧ n = .int .u32 d ∧ d < 4294967296 ∧ Hid (d = stepK j x)) (fun _ i => 8 - (intOf i).toNat)
  case atStart => exact ⟨0, x, by omega, rfl, by rfl, hx, rfl⟩
  case round =>
    obtain ⟨j, d, hj, rfl, rfl, hd, Hd⟩ := hrel
    by_cases hjl : j < 8
    · have hh : bits BinOp.xor IntKind.u32 ((d : Int) / 2) 2197175160 = ((d / 2 ^^^ 2197175160 : Nat) : Int) := by
        have := bits_xor_u32_nat (d / 2) 2197175160 (by omega) (by omega)
        simpa using this
      by_cases hod : d % 2 = 1
      · have hs1 : stepN d = d / 2 ^^^ 2197175160 := by unfold stepN; rw [if_pos hod]
        have Hs : Hid (stepK (j + 1) x = d / 2 ^^^ 2197175160) := by show _ = _; rw [stepK, ← Hd.out, hs1]
        have hl := stepN_lt hd
        rw [hs1] at hl
        have ha : ((d : Int) % 2 == 1) = true := by rw [beq_iff_eq]; omega
        clear hs1 hod
        generalize d / 2 ^^^ 2197175160 = y at *
        go_wp2
        go_round
        case rel => exact ⟨j + 1, y, by omega, by go_num, rfl, hl, Hs.out.symm⟩
        case measure => simp [intOf]; omega
      · have hs1 : stepN d = d / 2 := by unfold stepN; rw [if_neg hod]
        have Hs : Hid (stepK (j + 1) x = d / 2) := by show _ = _; rw [stepK, ← Hd.out, hs1]
        have ha : ((d : Int) % 2 == 1) = false := by rw [beq_eq_false_iff_ne]; omega
        clear hs1 hod hh
        go_wp2
        go_round
        case rel => exact ⟨j + 1, d / 2, by omega, by go_num, by simp, by omega, Hs.out.symm⟩
        case measure => simp [intOf]; omega
    · obtain rfl : j = 8 := by omega
      go_wp2
      go_ret
      exact ⟨ret_int (by rw [Hd.out]), rfl⟩

set_option maxHeartbeats 400000 in
theorem refcheck_any (s : ByteArray) (w : World) (hs : s.size ≤ maxLen) :
    Calls Try.prog 20 #[.string s] w fun e w' => e = .returned (.int .u32 (crc s.data.toList : Nat)) ∧ w' = w := by
  unfold maxLen at hs
  go_enter Try.func20, Try.ntmps20
  go_wp2
  go_loop [3, 4] (fun n i => ∃ k c : Nat, k ≤ s.size ∧ i = .int .i64 k ∧ n = .int .u32 c ∧ c < 4294967296 ∧ Hid (c = crcF 4294967295 (s.data.toList.take k))) (fun _ i => s.size - (intOf i).toNat)
  case atStart => exact ⟨0, 4294967295, Nat.zero_le _, rfl, rfl, by omega, rfl⟩
  case round =>
    obtain ⟨k, c, hk, rfl, rfl, hc, Hc⟩ := hrel
    by_cases hlt : k < s.size
    · have hb : s[k].toNat < 256 := s[k].toNat_lt
      have hx : bits BinOp.xor IntKind.u32 ((c : Int) % 256) (s[k].toNat : Int) = ((c % 256 ^^^ s[k].toNat : Nat) : Int) := by
        have := bits_xor_u32_nat (c % 256) s[k].toNat (by omega) (by omega)
        simpa using this
      have hxl := xor_lt32 (show c % 256 < 4294967296 by omega) (show s[k].toNat < 4294967296 by omega)
      have HB : Hid (byteS c s[k] = (c / 256) ^^^ stepK 8 (c % 256 ^^^ s[k].toNat)) := byteS_eq c s[k]
      have HT : Hid (crcF 4294967295 (s.data.toList.take (k + 1)) = byteS c s[k]) := by show _ = _; rw [take_snoc s k hlt, crcF_snoc, ← Hc.out]
      have hbl := byteS_lt s[k] hc
      generalize c % 256 ^^^ s[k].toNat = x at hx hxl HB
      have hyl := stepK_lt 8 hxl
      have hy : bits BinOp.xor IntKind.u32 ((c : Int) / 256) ((stepK 8 x : Nat) : Int) = ((c / 256 ^^^ stepK 8 x : Nat) : Int) := by
        have := bits_xor_u32_nat (c / 256) (stepK 8 x) (by omega) hyl
        simpa using this
      have HP := part_any x
      have HP' : Hid (∀ (w : World), x < 4294967296 → Calls Try.prog 23 #[.int .u32 (x : Int)] w fun e w' => e = .returned (.int .u32 (stepK 8 x : Nat)) ∧ w' = w) := HP
      clear HP
      generalize stepK 8 x = y at *
      go_wp2_with (go_at_call 23; refine (HP'.out _ hxl).mono ?_; rintro e w' ⟨rfl, rfl⟩)
      go_round
      case rel => exact ⟨k + 1, _, by omega, by go_num, rfl, (by rw [← HB.out]; exact hbl), (by show _ = _; rw [HT.out, HB.out])⟩
      case measure => simp [intOf]; omega
    · go_wp2
      go_ret
      refine ⟨ret_int ?_, rfl⟩
      have e : s.data.toList.take k = s.data.toList := List.take_of_length_le (by simp; omega)
      have := Hc.out
      rw [e] at this
      unfold crc
      rw [← this]
      omega
end Go.Proofs.Ytjbkpibkpiljoaa
