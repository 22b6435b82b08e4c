import Derived.Test.YtjbkpibkpiljoaaWalkB
import Derived.Test.YtjbkpibkpiljoaaWalkC
import Derived.Test.YtjbkpibkpiljoaaWalkD
namespace Go.Proofs.Ytjbkpibkpiljoaa
open Go.ChangeShapes Go.WideShapes Go.ChangeAt Go.RowKit

def headL (p : List UInt8) : List UInt8 := wideL p.length 2 ++ p
def frameL (p : List UInt8) : List UInt8 := headL p ++ wideL (crc (headL p)) 4

theorem bcell {W w1 : World} (hb : Below W.heap.size W w1) : (∀ b o, b < W.heap.size → w1.cell? ⟨b, o, none⟩ = W.cell? ⟨b, o, none⟩) ∧ (∀ b o, b < W.heap.size → w1.frozen? ⟨b, o, none⟩ = W.frozen? ⟨b, o, none⟩) :=
  ⟨fun b o h => hb.cell (p := ⟨b, o, none⟩) h, fun b o h => hb.frozen (p := ⟨b, o, none⟩) h⟩

theorem high2 (v : Nat) (w : World) (hv : v < 4294967296) :
    Calls Try.prog 17 #[.int .u32 (v : Int), .int .i64 2] w fun e w' => e = .returned (.string ⟨(wideL v 2).toArray⟩) ∧ Below w.heap.size w w' := by
  rw [← highL_2]; exact high_any v 2 w hv (by omega)
theorem high4 (v : Nat) (w : World) (hv : v < 4294967296) :
    Calls Try.prog 17 #[.int .u32 (v : Int), .int .i64 4] w fun e w' => e = .returned (.string ⟨(wideL v 4).toArray⟩) ∧ Below w.heap.size w w' := by
  rw [← highL_4]; exact high_any v 4 w hv (by omega)
theorem wide2 (v : Nat) (w : World) (hv : v < 4294967296) :
    Calls Try.prog 19 #[.int .u32 (v : Int), .int .i64 2] w fun e w' => e = .returned (.string ⟨(wideL v 2).toArray⟩) ∧ Below w.heap.size w w' :=
  wide_any v 2 w hv (by omega)
theorem wide4 (v : Nat) (w : World) (hv : v < 4294967296) :
    Calls Try.prog 19 #[.int .u32 (v : Int), .int .i64 4] w fun e w' => e = .returned (.string ⟨(wideL v 4).toArray⟩) ∧ Below w.heap.size w w' :=
  wide_any v 4 w hv (by omega)

set_option maxHeartbeats 400000 in
theorem make_yes (s : ByteArray) (w : World) (hs : s.size ≤ 65535) :
    Calls Try.prog 12 #[.string s] w fun e w' => e = .returned (.tuple #[.string ⟨(frameL s.data.toList).toArray⟩, .bool true]) ∧ Below w.heap.size w w' := by
  have hd : decide (65535 < (s.size : Int)) = false := by simp; omega
  have hlen : s.data.toList.length = s.size := by rw [Array.length_toList]; rfl
  have HT : Hid ((⟨(wideL s.size 2).toArray⟩ : ByteArray) ++ s = ⟨(headL s.data.toList).toArray⟩) := by
    show _ = _
    apply ByteArray.ext
    simp [headL, hlen]
  have HL : Hid ((headL s.data.toList).length = s.size + 2) := by
    show _ = _
    simp [headL, wideL_length, hlen]; omega
  have HF : Hid (frameL s.data.toList = headL s.data.toList ++ wideL (crc (headL s.data.toList)) 4) := rfl
  clear hlen
  go_enter Try.func12, Try.ntmps12
  go_wp2_with fail
  refine (high2 s.size _ (by omega)).mono ?_
  rintro e w1 ⟨rfl, hb1⟩
  have hl2 : (wideL s.size 2).length ≤ 2 := by rw [wideL_length]; exact Nat.le_refl 2
  go_wp2_with fail
  rw [HT.out]
  have hhl : (headL s.data.toList).length ≤ 65537 := by rw [HL.out]; omega
  have HC : Hid (crc (headL s.data.toList) < 4294967296) := crc_lt _
  clear HT HL hl2
  generalize headL s.data.toList = h at *
  have hsz : (⟨h.toArray⟩ : ByteArray).size = h.length := by show h.toArray.size = _; simp
  refine (check_any ⟨h.toArray⟩ _ (by unfold maxLen; rw [hsz]; omega)).mono ?_
  rintro e w2 ⟨rfl, rfl⟩
  rw [show (⟨h.toArray⟩ : ByteArray).data.toList = h from by simp]
  generalize crc h = c at *
  go_wp2_with fail
  refine (high4 c _ HC.out).mono ?_
  rintro e w3 ⟨rfl, hb3⟩
  have hl4 : (wideL c 4).length ≤ 4 := by rw [wideL_length]; exact Nat.le_refl 4
  go_wp2_with fail
  go_ret2
  refine ⟨?_, hb1.trans (hb3.mono hb1.size)⟩
  rw [HF.out, lists_add]
  rfl
set_option maxHeartbeats 400000 in
theorem make_no (s : ByteArray) (w : World) (hs : 65535 < s.size) (hm : s.size ≤ maxLen) :
    Calls Try.prog 12 #[.string s] w fun e w' => e = .returned (.tuple #[.string ⟨#[]⟩, .bool false]) ∧ w' = w := by
  unfold maxLen at hm
  go_enter Try.func12, Try.ntmps12
  go_wp2
  go_ret2
  exact ⟨rfl, rfl⟩

set_option maxHeartbeats 400000 in
theorem refframed_any (s : ByteArray) (w : World) (hs : s.size ≤ 65535) :
    Calls Try.prog 13 #[.string s] w fun e w' => e = .returned (.string ⟨(frameL s.data.toList).toArray⟩) ∧ Below w.heap.size w w' := by
  have hlen : s.data.toList.length = s.size := by rw [Array.length_toList]; rfl
  have HT : Hid ((⟨(wideL s.size 2).toArray⟩ : ByteArray) ++ s = ⟨(headL s.data.toList).toArray⟩) := by
    show _ = _
    apply ByteArray.ext
    simp [headL, hlen]
  have HL : Hid ((headL s.data.toList).length = s.size + 2) := by
    show _ = _
    simp [headL, wideL_length, hlen]; omega
  have HF : Hid (frameL s.data.toList = headL s.data.toList ++ wideL (crc (headL s.data.toList)) 4) := rfl
  clear hlen
  go_enter Try.func13, Try.ntmps13
  go_wp2_with fail
  refine (wide2 s.size _ (by omega)).mono ?_
  rintro e w1 ⟨rfl, hb1⟩
  have hl2 : (wideL s.size 2).length ≤ 2 := by rw [wideL_length]; exact Nat.le_refl 2
  go_wp2_with fail
  rw [HT.out]
  have hhl : (headL s.data.toList).length ≤ 65537 := by rw [HL.out]; omega
  have HC : Hid (crc (headL s.data.toList) < 4294967296) := crc_lt _
  clear HT HL hl2
  generalize headL s.data.toList = h at *
  have hsz : (⟨h.toArray⟩ : ByteArray).size = h.length := by show h.toArray.size = _; simp
  refine (refcheck_any ⟨h.toArray⟩ _ (by unfold maxLen; rw [hsz]; omega)).mono ?_
  rintro e w2 ⟨rfl, rfl⟩
  rw [show (⟨h.toArray⟩ : ByteArray).data.toList = h from by simp]
  generalize crc h = c at *
  go_wp2_with fail
  refine (wide4 c _ HC.out).mono ?_
  rintro e w3 ⟨rfl, hb3⟩
  have hl4 : (wideL c 4).length ≤ 4 := by rw [wideL_length]; exact Nat.le_refl 4
  go_wp2_with fail
  go_ret
  refine ⟨?_, hb1.trans (hb3.mono hb1.size)⟩
  rw [HF.out, lists_add]
  rfl

set_option maxHeartbeats 400000 in
theorem frame_yes (s : ByteArray) (w : World) (hs : s.size ≤ 65535) :
    Calls Try.prog 5 #[.string s] w fun e w' => e = .returned (.tuple #[.string ⟨(frameL s.data.toList).toArray⟩, .int .i64 0]) ∧ Below w.heap.size w w' := by
  go_enter Try.func5, Try.ntmps5
  go_wp2_with (go_at_call 12; refine (make_yes _ _ hs).mono ?_; rintro e w1 ⟨rfl, hb1⟩)
  go_ret2
  exact ⟨rfl, hb1⟩
set_option maxHeartbeats 400000 in
theorem frame_no (s : ByteArray) (w : World) (hs : 65535 < s.size) (hm : s.size ≤ maxLen) :
    Calls Try.prog 5 #[.string s] w fun e w' => e = .returned (.tuple #[.string ⟨#[]⟩, .int .i64 1]) ∧ w' = w := by
  go_enter Try.func5, Try.ntmps5
  go_wp2_with (go_at_call 12; refine (make_no _ _ hs hm).mono ?_; rintro e w1 ⟨rfl, rfl⟩)
  go_ret2
  exact ⟨rfl, rfl⟩
set_option maxHeartbeats 400000 in
theorem refframe_yes (s : ByteArray) (w : World) (hs : s.size ≤ 65535) :
    Calls Try.prog 6 #[.string s] w fun e w' => e = .returned (.tuple #[.string ⟨(frameL s.data.toList).toArray⟩, .int .i64 0]) ∧ Below w.heap.size w w' := by
  have hd : decide (65535 < (s.size : Int)) = false := by simp; omega
  go_enter Try.func6, Try.ntmps6
  go_wp2_with (go_at_call 13; refine (refframed_any _ _ hs).mono ?_; rintro e w1 ⟨rfl, hb1⟩)
  go_ret2
  exact ⟨rfl, hb1⟩
set_option maxHeartbeats 400000 in
theorem refframe_no (s : ByteArray) (w : World) (hs : 65535 < s.size) (hm : s.size ≤ maxLen) :
    Calls Try.prog 6 #[.string s] w fun e w' => e = .returned (.tuple #[.string ⟨#[]⟩, .int .i64 1]) ∧ w' = w := by
  unfold maxLen at hm
  go_enter Try.func6, Try.ntmps6
  go_wp2
  go_ret2
  exact ⟨rfl, rfl⟩
end Go.Proofs.Ytjbkpibkpiljoaa
