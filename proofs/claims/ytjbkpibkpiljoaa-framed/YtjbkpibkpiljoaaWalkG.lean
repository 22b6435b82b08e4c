import Derived.Test.YtjbkpibkpiljoaaWalkF
import Derived.Deep.QuietTactic
import Derived.BigQuiet
namespace Go.Proofs.Ytjbkpibkpiljoaa
open Go.ChangeShapes Go.WideShapes Go.ChangeAt Go.RowKit

def firstOf (d : List UInt8) : Option (List UInt8) :=
  if d.length < fromL (d.take 2) + 6 then none
  else if (d.drop (fromL (d.take 2) + 2)).take 4 = wideL (crc (d.take (fromL (d.take 2) + 2))) 4 then some ((d.drop 2).take (fromL (d.take 2))) else none

theorem extract_list (s : ByteArray) (a b : Nat) : (s.extract a b).data.toList = (s.data.toList.drop a).take (b - a) := by
  simp [ByteArray.data_extract, Array.toList_extract, List.extract_eq_take_drop]
theorem extract_eq (s : ByteArray) (a b : Nat) : s.extract a b = ⟨((s.data.toList.drop a).take (b - a)).toArray⟩ := by
  apply ByteArray.ext
  rw [← extract_list]
theorem size_list (s : ByteArray) : s.data.toList.length = s.size := by rw [Array.length_toList]; rfl

set_option maxHeartbeats 400000 in
theorem first_any (s : ByteArray) (w : World) (hs : s.size ≤ 1152921504606846976) :
    Calls Try.prog 21 #[.string s] w fun e w' => (∃ n, w' = w.drewN n) ∧ match firstOf s.data.toList with | some p => e = .returned (.tuple #[.string ⟨p.toArray⟩, .bool true]) | none => ∃ p, e = .returned (.tuple #[.string p, .bool false]) := by
  by_cases h2 : s.size < 2
  · have hn : firstOf s.data.toList = none := by
      unfold firstOf
      rw [if_pos (by rw [size_list]; omega)]
    rw [hn]
    go_enter Try.func21, Try.ntmps21
    go_wp2
    go_ret2
    exact ⟨⟨0, rfl⟩, _, rfl⟩
  · have h2' : 2 ≤ s.size := by omega
    have hd : decide ((s.size : Int) < 2) = false := by simp; omega
    have hf := fromHigh_any (s.extract 0 2)
    rw [extract_list] at hf
    simp only [List.drop_zero, Nat.sub_zero] at hf
    have hn := fromL_lt' 2 (s.data.toList.take 2) (by rw [List.length_take, size_list]; omega)
    have hsz : (s.extract 0 2).size ≤ 4 := by rw [ByteArray.size_extract]; omega
    have HF : Hid (∀ (w : World), Calls Try.prog 24 #[.string (s.extract 0 2)] w fun e w' => e = .returned (.int .u32 (fromL (s.data.toList.take 2) : Nat)) ∧ w' = w) := fun w => hf w hsz
    clear hf hsz
    have HD : Hid (firstOf s.data.toList = if s.data.toList.length < fromL (s.data.toList.take 2) + 6 then none else if (s.data.toList.drop (fromL (s.data.toList.take 2) + 2)).take 4 = wideL (crc (s.data.toList.take (fromL (s.data.toList.take 2) + 2))) 4 then some ((s.data.toList.drop 2).take (fromL (s.data.toList.take 2))) else none) := rfl
    generalize hno : fromL (s.data.toList.take 2) = n at *
    clear hno
    by_cases h6 : s.size < n + 6
    · have hd2 : decide ((s.size : Int) < 2 + (n : Int) + 4) = true := by simp; omega
      have hn : firstOf s.data.toList = none := by rw [HD.out, if_pos (by rw [size_list]; omega)]
      rw [hn]
      clear hn HD
      go_enter Try.func21, Try.ntmps21
      go_wp2_with (go_at_call 24; refine (HF.out _).mono ?_; rintro e w1 ⟨rfl, rfl⟩)
      go_ret2
      exact ⟨⟨0, rfl⟩, _, rfl⟩
    · have hd2 : decide ((s.size : Int) < 2 + (n : Int) + 4) = false := by simp; omega
      have hck := check_any (s.extract 0 (2 + n))
      have hfr := fromHigh_any (s.extract (2 + n) (2 + n + 4))
      rw [extract_list] at hck hfr
      simp only [List.drop_zero, Nat.sub_zero] at hck
      rw [show 2 + n + 4 - (2 + n) = 4 by omega] at hfr
      have hq := from_eq_iff (crc (s.data.toList.take (2 + n))) (crc_lt _) ((s.data.toList.drop (2 + n)).take 4) (by rw [List.length_take, List.length_drop, size_list]; omega)
      have hsz : (s.extract 0 (2 + n)).size ≤ maxLen := by rw [ByteArray.size_extract]; unfold maxLen; omega
      have hsz2 : (s.extract (2 + n) (2 + n + 4)).size ≤ 4 := by rw [ByteArray.size_extract]; omega
      have HC : Hid (∀ (w : World), Calls Try.prog 18 #[.string (s.extract 0 (2 + n))] w fun e w' => e = .returned (.int .u32 (crc (s.data.toList.take (2 + n)) : Nat)) ∧ w' = w) := fun w => hck w hsz
      have HG : Hid (∀ (w : World), Calls Try.prog 24 #[.string (s.extract (2 + n) (2 + n + 4))] w fun e w' => e = .returned (.int .u32 (fromL ((s.data.toList.drop (2 + n)).take 4) : Nat)) ∧ w' = w) := fun w => hfr w hsz2
      clear hck hfr hsz hsz2
      have hD := HD.out
      rw [if_neg (by rw [size_list]; omega), Nat.add_comm n 2] at hD
      clear HD
      generalize crc (s.data.toList.take (2 + n)) = c at *
      generalize (s.data.toList.drop (2 + n)).take 4 = l4 at *
      generalize fromL l4 = g at *
      have hx : (⟨((s.data.toList.drop 2).take n).toArray⟩ : ByteArray) = s.extract 2 (2 + n) := by
        rw [extract_eq, show 2 + n - 2 = n by omega]
      by_cases hcg : c = g
      · rw [if_pos (hq.1 hcg)] at hD
        rw [hD]
        simp only []
        rw [hx]
        clear hx hD hq
        have he : (((c : Nat) : Int) == ((g : Nat) : Int)) = true := by rw [hcg]; exact beq_self_eq_true _
        clear hcg
        have h7 : 2 + n + 4 ≤ s.size := by omega
        have h8 : (2 : Int) + (n : Int) + 4 ≤ (s.size : Int) := by omega
        have h9 : (2 : Int) + (n : Int) ≤ (s.size : Int) := by omega
        have hsl : ∀ u : World, (Instr.slice 9 (.string s) (some (.int .i64 (2 + (n : Int)))) (some (.int .i64 (2 + (n : Int) + 4))) none).run Try.prog u = .ok (.string (s.extract (2 + n) (2 + n + 4))) u := fun u => by
          have h := run_slice_string (P := Try.prog) u 9 s .i64 .i64 (2 + (n : Int)) (2 + (n : Int) + 4) Try.underlying9 (by omega) (by omega) (by omega)
          rw [show ((2 : Int) + n).toNat = 2 + n by omega, show ((2 : Int) + n + 4).toNat = 2 + n + 4 by omega] at h
          exact h
        have hsl2 : ∀ u : World, (Instr.slice 9 (.string s) (some (.int .i64 2)) (some (.int .i64 (2 + (n : Int)))) none).run Try.prog u = .ok (.string (s.extract 2 (2 + n))) u := fun u => by
          have h := run_slice_string (P := Try.prog) u 9 s .i64 .i64 2 (2 + (n : Int)) Try.underlying9 (by omega) (by omega) (by omega)
          rw [show ((2 : Int) + n).toNat = 2 + n by omega] at h
          exact h
        clear h6 h2 hn
        go_enter Try.func21, Try.ntmps21
        go_wp2_with (go_at_call 24; refine (HF.out _).mono ?_; rintro e w1 ⟨rfl, rfl⟩)
        go_quiet (first | (go_at_call 18; exact Calls.quiet_of_same (HC.out _)) | (go_at_call 24; exact Calls.quiet_of_same (HG.out _)))
        go_wp2
        go_ret2
        exact ⟨⟨_, rfl⟩, rfl⟩
      · rw [if_neg (fun h => hcg (hq.2 h))] at hD
        rw [hD]
        simp only []
        clear hx hD hq
        have he : (((c : Nat) : Int) == ((g : Nat) : Int)) = false := by rw [beq_eq_false_iff_ne]; omega
        clear hcg
        have h7 : 2 + n + 4 ≤ s.size := by omega
        have h8 : (2 : Int) + (n : Int) + 4 ≤ (s.size : Int) := by omega
        have h9 : (2 : Int) + (n : Int) ≤ (s.size : Int) := by omega
        have hsl : ∀ u : World, (Instr.slice 9 (.string s) (some (.int .i64 (2 + (n : Int)))) (some (.int .i64 (2 + (n : Int) + 4))) none).run Try.prog u = .ok (.string (s.extract (2 + n) (2 + n + 4))) u := fun u => by
          have h := run_slice_string (P := Try.prog) u 9 s .i64 .i64 (2 + (n : Int)) (2 + (n : Int) + 4) Try.underlying9 (by omega) (by omega) (by omega)
          rw [show ((2 : Int) + n).toNat = 2 + n by omega, show ((2 : Int) + n + 4).toNat = 2 + n + 4 by omega] at h
          exact h
        have hsl2 : ∀ u : World, (Instr.slice 9 (.string s) (some (.int .i64 2)) (some (.int .i64 (2 + (n : Int)))) none).run Try.prog u = .ok (.string (s.extract 2 (2 + n))) u := fun u => by
          have h := run_slice_string (P := Try.prog) u 9 s .i64 .i64 2 (2 + (n : Int)) Try.underlying9 (by omega) (by omega) (by omega)
          rw [show ((2 : Int) + n).toNat = 2 + n by omega] at h
          exact h
        clear h6 h2 hn
        go_enter Try.func21, Try.ntmps21
        go_wp2_with (go_at_call 24; refine (HF.out _).mono ?_; rintro e w1 ⟨rfl, rfl⟩)
        go_quiet (first | (go_at_call 18; exact Calls.quiet_of_same (HC.out _)) | (go_at_call 24; exact Calls.quiet_of_same (HG.out _)))
        go_wp2
        go_ret2
        exact ⟨⟨_, rfl⟩, _, rfl⟩
end Go.Proofs.Ytjbkpibkpiljoaa
