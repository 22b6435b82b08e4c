import Derived.Test.YtjbkpibkpiljoaaWalkJ
namespace Go.Proofs.Ytjbkpibkpiljoaa
open Go.ChangeShapes Go.WideShapes Go.ChangeAt Go.RowKit

theorem framesL_len (d : List UInt8) : 6 * (framesL d).1.length ≤ d.length := by
  suffices h : ∀ n (d : List UInt8), d.length = n → 6 * (framesL d).1.length ≤ d.length from h _ d rfl
  intro n
  induction n using Nat.strongRecOn with
  | ind n ih =>
    intro d hd
    cases hf : firstOf d with
    | none => rw [framesL_none hf]; simp
    | some p =>
      have hl := firstOf_len hf
      rw [framesL_some hf]
      have := ih (d.drop (p.length + 6)).length (by rw [List.length_drop]; omega) _ rfl
      rw [List.length_drop] at this
      simp only [List.length_cons]
      omega

set_option maxHeartbeats 400000 in
theorem frames_any (s : ByteArray) (w : World) (hs : s.size ≤ 1152921504606846976) (hcount : (framesL s.data.toList).1.length ≤ 8796093022208) :
    Calls Try.prog 9 #[.string s] w fun e w' => ∃ v, e = .returned (.tuple #[v, .int .i64 ((framesL s.data.toList).2 : Nat)]) ∧ w'.ownsRow w.heap.size 9 1 v (framesL s.data.toList).1.length ((framesL s.data.toList).1.map strV) ∧ Below w.heap.size w w' := by
  go_enter Try.func9, Try.ntmps9
  go_wp2_with fail
  refine (readAll_any s _ hs hcount).mono ?_
  rintro e w1 ⟨v, rfl, hown, hb⟩
  go_wp2_with fail
  go_ret2
  exact ⟨v, rfl, hown, hb⟩

set_option maxHeartbeats 400000 in
theorem lawframes_any (s : ByteArray) (w : World) (hs : s.size ≤ 100000000) :
    Calls Try.prog 7 #[.string s] w fun e w' => ∃ v, e = .returned (.tuple #[v, .bool true]) ∧ Below w.heap.size w w' := by
  have hlen := framesL_len s.data.toList
  rw [size_list] at hlen
  have H1 := show Hid (∀ w, _) from fun w => frames_any s w (by omega) (by omega)
  have H2 := show Hid (∀ w, _) from fun w => refFrames_any s w hs
  generalize (framesL s.data.toList).2 = n at *
  generalize (framesL s.data.toList).1 = xs at *
  go_enter Try.func7, Try.ntmps7
  go_wp2_with fail
  refine (H1.out _).mono ?_
  rintro e w1 ⟨v1, rfl, hown1, hb1⟩
  go_wp2_with fail
  refine (H2.out _).mono ?_
  rintro e w2 ⟨v2, rfl, hown2, hb2⟩
  have HS1 := show Hid (Strs w2 v1 xs) from (Strs.of_owns hown1).cells_same hb2
  have HS2 := show Hid (Strs w2 v2 xs) from Strs.of_owns hown2
  clear hown1 hown2
  go_wp2_with fail
  refine (sameTexts_any v1 v2 xs _ (by omega) HS1.out HS2.out).mono ?_
  rintro e w3 ⟨rfl, nd, rfl⟩
  go_wp2
  go_ret2
  exact ⟨v1, rfl, (hb1.trans (hb2.mono hb1.size)).trans (below_drewN _ _ _)⟩

set_option maxHeartbeats 400000 in
theorem framing_yes (p d : ByteArray) (w : World) (hp : p.size ≤ 65535) (hd : d.size ≤ 10000000) :
    Calls Try.prog 3 #[.string p, .string d] w fun e w' => e = .returned (.bool true) ∧ Below w.heap.size w w' := by
  have HL : Hid ((frameL p.data.toList).length = p.size + 6) := by
    show _ = _
    simp [frameL, headL, wideL_length]; omega
  have H5 := show Hid (∀ w, _) from fun w => frame_yes p w hp
  have H6 := show Hid (∀ w, _) from fun w => refframe_yes p w hp
  have hfl : (frameL p.data.toList).length ≤ 70000 := by rw [HL.out]; omega
  clear HL
  generalize frameL p.data.toList = f at *
  go_enter Try.func3, Try.ntmps3
  go_wp2_with fail
  refine (H5.out _).mono ?_
  rintro e w1 ⟨rfl, hb1⟩
  go_wp2_with fail
  refine (H6.out _).mono ?_
  rintro e w2 ⟨rfl, hb2⟩
  go_wp2_with fail
  refine (lawframes_any d _ (by omega)).mono ?_
  rintro e w3 ⟨v3, rfl, hb3⟩
  go_wp2_with fail
  have hsz : ((⟨f.toArray⟩ : ByteArray) ++ d).size = f.length + d.size := by
    rw [ByteArray.size_append]; show f.toArray.size + _ = _; simp
  refine (lawframes_any _ _ (by rw [hsz]; omega)).mono ?_
  rintro e w4 ⟨v4, rfl, hb4⟩
  clear hsz
  go_wp2
  go_ret
  exact ⟨rfl, ((hb1.trans (hb2.mono hb1.size)).trans (hb3.mono (Nat.le_trans hb1.size hb2.size))).trans (hb4.mono (Nat.le_trans (Nat.le_trans hb1.size hb2.size) hb3.size))⟩

set_option maxHeartbeats 400000 in
theorem framing_no (p d : ByteArray) (w : World) (hp : 65535 < p.size) (hm : p.size ≤ maxLen) (hd : d.size ≤ 10000000) :
    Calls Try.prog 3 #[.string p, .string d] w fun e w' => e = .returned (.bool true) ∧ Below w.heap.size w w' := by
  have H5 := show Hid (∀ w, _) from fun w => frame_no p w hp hm
  have H6 := show Hid (∀ w, _) from fun w => refframe_no p w hp hm
  unfold maxLen at hm
  go_enter Try.func3, Try.ntmps3
  go_wp2_with fail
  refine (H5.out _).mono ?_
  rintro e w1 ⟨rfl, rfl⟩
  go_wp2_with fail
  refine (H6.out _).mono ?_
  rintro e w2 ⟨rfl, rfl⟩
  go_wp2_with fail
  refine (lawframes_any d _ (by omega)).mono ?_
  rintro e w3 ⟨v3, rfl, hb3⟩
  go_wp2_with fail
  refine (lawframes_any _ _ (by rw [ByteArray.size_append]; show 0 + _ ≤ _; omega)).mono ?_
  rintro e w4 ⟨v4, rfl, hb4⟩
  go_wp2
  go_ret
  exact ⟨rfl, hb3.trans (hb4.mono hb3.size)⟩
end Go.Proofs.Ytjbkpibkpiljoaa
