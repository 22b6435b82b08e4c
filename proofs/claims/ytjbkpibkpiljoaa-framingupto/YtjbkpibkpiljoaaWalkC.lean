import Derived.Test.YtjbkpibkpiljoaaWalkA
import Derived.Laws.IdiomStrings
import Derived.Deep.OwnRows
namespace Go.Proofs.Ytjbkpibkpiljoaa
open Go.ChangeShapes Go.WideShapes Go.ChangeAt Go.RowKit

set_option maxHeartbeats 400000 in
theorem fromHigh_any (s : ByteArray) (w : World) (hs : s.size ≤ 4) :
    Calls Try.prog 24 #[.string s] w fun e w' => e = .returned (.int .u32 (fromL s.data.toList : Nat)) ∧ w' = w := by
  go_enter Try.func24, Try.ntmps24
  go_wp2
  go_loop [3, 7] (fun n i => ∃ k c : Nat, k ≤ s.size ∧ i = .int .i64 k ∧ n = .int .u32 c ∧ Hid (c = fromL (s.data.toList.take k))) (fun _ i => s.size - (intOf i).toNat)
  case atStart => exact ⟨0, 0, Nat.zero_le _, rfl, rfl, rfl⟩
  case round =>
    obtain ⟨k, c, hk, rfl, rfl, Hc⟩ := hrel
    by_cases hlt : k < s.size
    · have hb : s[k].toNat < 256 := s[k].toNat_lt
      have hc : c < 16777216 := by
        have h1 := fromL_lt (s.data.toList.take k)
        rw [← Hc.out] at h1
        have h2 : (s.data.toList.take k).length ≤ 3 := by rw [List.length_take]; omega
        have h3 := Nat.pow_le_pow_right (show 0 < 256 by omega) h2
        omega
      have HT : Hid (c * 256 + s[k].toNat = fromL (s.data.toList.take (k + 1))) := by show _ = _; rw [take_snoc s k hlt, fromL_snoc, ← Hc.out]
      have ho : bits BinOp.or IntKind.u32 ((c : Int) * 256) (s[k].toNat : Int) = ((c * 256 + s[k].toNat : Nat) : Int) := by
        have := bits_or_u32_nat (c * 256) s[k].toNat (by omega) (by omega)
        rw [or_add _ _ hb] at this
        simpa using this
      generalize c * 256 + s[k].toNat = x at *
      go_wp2
      go_round
      case rel => exact ⟨k + 1, x, by omega, by go_num, rfl, HT⟩
      case measure => simp [intOf]; omega
    · go_wp2
      go_ret
      refine ⟨ret_int ?_, rfl⟩
      have e : s.data.toList.take k = s.data.toList := List.take_of_length_le (by simp; omega)
      rw [Hc.out, e]

theorem lists_add (x y : List UInt8) : (⟨x.toArray⟩ : ByteArray) ++ ⟨y.toArray⟩ = ⟨(x ++ y).toArray⟩ := by
  apply ByteArray.ext; simp

theorem one_cell (w : World) (z : Int) : (w.alloc (Obj.cells #[Value.int IntKind.u8 z] 5)).cell? ⟨w.heap.size, 0, none⟩ = some (.int .u8 z) := by
  have h : ∀ i, i < (#[Value.int IntKind.u8 z] : Array Value).size → (#[Value.int IntKind.u8 z] : Array Value)[i]? = some ((fun _ => Value.int IntKind.u8 z) i) := by
    intro i hi
    have h0 : i = 0 := by
      have h1 : (#[Value.int IntKind.u8 z] : Array Value).size = 1 := rfl
      omega
    subst h0
    rfl
  exact (World.rowIs_alloc w #[Value.int IntKind.u8 z] 5 (fun _ => .int .u8 z) h).cell (i := 0) (by show 0 < 1; omega)

set_option maxHeartbeats 400000 in
theorem wide_any (v n : Nat) (w : World) (hv : v < 4294967296) (hn : n ≤ 4) :
    Calls Try.prog 19 #[.int .u32 (v : Int), .int .i64 (n : Int)] w fun e w' => e = .returned (.string ⟨(wideL v n).toArray⟩) ∧ Below w.heap.size w w' := by
  go_enter Try.func19, Try.ntmps19
  go_wp2
  go_loopw [0, 1, 5] (fun c i t wr => ∃ (k d : Nat) (l : List UInt8), k ≤ n ∧ d < 4294967296 ∧ i = .int .i64 (k : Int) ∧ c = .int .u32 d ∧ t = .string ⟨l.toArray⟩ ∧ l.length ≤ n - k ∧ Hid (wideL v n = wideL d k ++ l) ∧ Below w.heap.size w wr) (fun _ i _ _ => (intOf i).toNat)
  case atStart => exact ⟨n, v, [], Nat.le_refl _, hv, rfl, rfl, rfl, by simp, by show _ = _; simp, Below.refl _ _⟩
  case round =>
    obtain ⟨k, d, l, hk, hd, rfl, rfl, rfl, hl, Hl, hb⟩ := hrel
    by_cases hlt : 0 < k
    · have hcv : (convert 43 9 (Value.slice (some { block := wr.heap.size, off := 0 }) 1 1)).run Try.prog (wr.alloc (Obj.cells #[Value.int IntKind.u8 ((d : Int) % 256)] 5)) = .ok (.string ⟨[UInt8.ofNat (d % 256)].toArray⟩) (wr.alloc (Obj.cells #[Value.int IntKind.u8 ((d : Int) % 256)] 5)) := by
        refine run_convert_bytes_back _ 43 9 5 ⟨wr.heap.size, 0, none⟩ 1 [UInt8.ofNat (d % 256)] Try.underlying43 Try.underlying5 Try.underlying9 ?_
        intro j hj
        obtain rfl : j = 0 := by simpa using hj
        have hcc := one_cell wr ((d : Int) % 256)
        rw [show (⟨wr.heap.size, 0, none⟩ : Addr).add 0 = ⟨wr.heap.size, 0, none⟩ from rfl, hcc]
        simp
      obtain ⟨k, rfl⟩ : ∃ j, k = j + 1 := ⟨k - 1, by omega⟩
      go_wp2
      go_roundw
      case rel =>
        refine ⟨k, d / 256, [UInt8.ofNat (d % 256)] ++ l, by omega, by omega, by go_num, by simp, (by rw [← lists_add]), (by simp only [List.length_append, List.length_singleton]; omega), ?_, hb.alloc hb.size _⟩
        show _ = _
        rw [Hl.out]
        simp [wideL]
      case measure => simp [intOf]
    · obtain rfl : k = 0 := by omega
      go_wp2
      go_ret
      refine ⟨?_, hb⟩
      rw [Hl.out]
      simp [wideL]
end Go.Proofs.Ytjbkpibkpiljoaa
