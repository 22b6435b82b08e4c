import Derived.Test.YtjbkpibkpiljoaaWalkA
import Derived.Laws.IdiomStrings
import Derived.Deep.OwnRows
namespace Go.Proofs.Ytjbkpibkpiljoaa
open Go.ChangeShapes Go.WideShapes Go.ChangeAt Go.RowKit

theorem info5 : (Try.prog.info? 5).map (fun i => (i.zero, i.size, i.bytes)) = some (some (.int .u8 0), 1, 1) := by kernel_rfl
set_option maxHeartbeats 400000 in
theorem high_any (v n : Nat) (w : World) (_hv : v < 4294967296) (hn : n ≤ 4) :
    Calls Try.prog 17 #[.int .u32 (v : Int), .int .i64 (n : Int)] w fun e w' => e = .returned (.string ⟨(highL v n).toArray⟩) ∧ Below w.heap.size w w' := by
  obtain ⟨i0, hi, hz0, hz1, hz2⟩ := info_parts info5
  have hmk : ∀ u : World, (Instr.makeSlice 43 (.int .i64 (n : Int)) (.int .i64 (n : Int))).run Try.prog u =
      .ok (.slice (some ⟨u.heap.size, 0, none⟩) n n) (u.alloc (.cells (madeCells #[.int .u8 0] n) 5)) := fun u => by
    have h := run_make (P := Try.prog) u 43 5 i0 (.int .u8 0) Try.underlying43 hi hz0 .i64 .i64 (n : Int) (n : Int) (by omega) (Int.le_refl _) (by rw [hz2]; omega) (by omega)
    simpa [hz1, Value.cells] using h
  go_enter Try.func17, Try.ntmps17
  go_wp2
  go_loopw [11] (fun i wr => ∃ (k : Nat), k ≤ n ∧ i = .int .i64 (k : Int) ∧ Below w.heap.size w wr ∧ wr.rowIs w.heap.size 5 n (fun j => .int .u8 (if j < k then ((highB v n j).toNat : Int) else 0))) (fun i _ => n - (intOf i).toNat)
  case atStart => exact ⟨0, Nat.zero_le _, rfl, (Below.refl _ _).alloc (Nat.le_refl _) _, by simpa using World.rowIs_made w (.int .u8 0) n 5⟩
  case round =>
    obtain ⟨k, hk, rfl, hb, hr⟩ := hrel
    by_cases hlt : k < n
    · have hce := hr.cell hlt
      have hfr := hr.frozen k
      have hset := hr.set k (Value.int IntKind.u8 ((v : Int) / 2 ^ (8 * (n - 1 - k)) % 256))
      go_wp2
      go_roundw
      case rel =>
        refine ⟨k + 1, by omega, by go_num, hb.setCell (Nat.le_refl _) _, hset.congr ?_⟩
        intro j hj
        by_cases e : j = k
        · subst e
          simp [highB]
        · by_cases e2 : j < k
          · simp [e, e2, show j < k + 1 by omega]
          · simp [e, e2, show ¬ j < k + 1 by omega]
      case measure => simp [intOf]; omega
    · obtain rfl : k = n := by omega
      have hcv : (convert 43 9 (Value.slice (some { block := w.heap.size, off := 0 }) k k)).run Try.prog wr = .ok (.string ⟨(highL v k).toArray⟩) wr := by
        have := run_convert_bytes_back (P := Try.prog) wr 43 9 5 ⟨w.heap.size, 0, none⟩ k (highL v k) Try.underlying43 Try.underlying5 Try.underlying9 (fun j hj => by
          have hj' : j < k := by simpa [highL] using hj
          have := hr.cell hj'
          rw [show (⟨w.heap.size, 0, none⟩ : Addr).add j = ⟨w.heap.size, j, none⟩ by (unfold Addr.add; split <;> simp_all), this]
          simp [hj', highL])
        simpa [highL] using this
      go_wp2
      go_ret
      exact ⟨rfl, hb⟩
end Go.Proofs.Ytjbkpibkpiljoaa
