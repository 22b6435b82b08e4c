import Derived.Test.YtjbkpibkpiljoaaWalkK
namespace Go.Proofs.Ytjbkpibkpiljoaa

theorem headL_length (p : List UInt8) : (headL p).length = p.length + 2 := by
  simp [headL, wideL_length]; omega
theorem frameL_length (p : List UInt8) : (frameL p).length = p.length + 6 := by
  simp [frameL, headL_length, wideL_length]
theorem frame_take2 (p r : List UInt8) : (frameL p ++ r).take 2 = wideL p.length 2 := by
  have h : frameL p ++ r = wideL p.length 2 ++ (p ++ (wideL (crc (headL p)) 4 ++ r)) := by simp [frameL, headL]
  rw [h, List.take_append_of_le_length (by rw [wideL_length]; exact Nat.le_refl 2), List.take_of_length_le (by rw [wideL_length]; exact Nat.le_refl 2)]
theorem firstOf_frame (p r : List UInt8) (hp : p.length ≤ 65535) : firstOf (frameL p ++ r) = some p := by
  have hn : fromL ((frameL p ++ r).take 2) = p.length := by
    rw [frame_take2, from_wide 2 p.length (by omega)]
  have h : frameL p ++ r = headL p ++ (wideL (crc (headL p)) 4 ++ r) := by simp [frameL]
  unfold firstOf
  rw [hn, if_neg (by rw [List.length_append, frameL_length]; omega)]
  have h1 : (frameL p ++ r).take (p.length + 2) = headL p := by
    rw [h, List.take_append_of_le_length (by rw [headL_length]; exact Nat.le_refl _), List.take_of_length_le (by rw [headL_length]; exact Nat.le_refl _)]
  have h2 : ((frameL p ++ r).drop (p.length + 2)).take 4 = wideL (crc (headL p)) 4 := by
    rw [h, List.drop_append_of_le_length (by rw [headL_length]; exact Nat.le_refl _), List.drop_of_length_le (by rw [headL_length]; exact Nat.le_refl _), List.nil_append, List.take_append_of_le_length (by rw [wideL_length]; exact Nat.le_refl 4), List.take_of_length_le (by rw [wideL_length]; exact Nat.le_refl 4)]
  have h3 : ((frameL p ++ r).drop 2).take p.length = p := by
    have h4 : frameL p ++ r = wideL p.length 2 ++ (p ++ (wideL (crc (headL p)) 4 ++ r)) := by simp [frameL, headL]
    rw [h4, List.drop_append_of_le_length (by rw [wideL_length]; exact Nat.le_refl 2), List.drop_of_length_le (by rw [wideL_length]; exact Nat.le_refl 2), List.nil_append, List.take_append_of_le_length (Nat.le_refl _), List.take_of_length_le (Nat.le_refl _)]
  rw [h1, h2, h3, if_pos rfl]
theorem firstOf_short (p : List UInt8) (k : Nat) (hp : p.length ≤ 65535) (hk : k < p.length + 6) : firstOf ((frameL p).take k) = none := by
  unfold firstOf
  rw [if_pos]
  rw [List.length_take, frameL_length]
  by_cases h2 : k < 2
  · omega
  · have e : ((frameL p).take k).take 2 = (frameL p ++ []).take 2 := by
      rw [List.take_take, List.append_nil]; congr 1; omega
    rw [e, frame_take2, from_wide 2 p.length (by omega)]
    omega

def catL (ps : List (List UInt8)) : List UInt8 := (ps.map frameL).flatten
theorem catL_snoc (ps : List (List UInt8)) (p : List UInt8) : catL (ps ++ [p]) = catL ps ++ frameL p := by simp [catL]
theorem catL_cons (ps : List (List UInt8)) (p : List UInt8) : catL (p :: ps) = frameL p ++ catL ps := by simp [catL]
theorem framesL_cat (ps : List (List UInt8)) (r : List UInt8) (h : ∀ p ∈ ps, p.length ≤ 65535) (hr : firstOf r = none) : framesL (catL ps ++ r) = (ps, (catL ps).length) := by
  induction ps with
  | nil => simpa [catL] using framesL_none hr
  | cons p ps ih =>
    have hp := h p (by simp)
    have ih' := ih (fun q hq => h q (by simp [hq]))
    have hf : firstOf (catL (p :: ps) ++ r) = some p := by
      rw [catL_cons, List.append_assoc]; exact firstOf_frame p _ hp
    rw [framesL_some hf]
    have hd : (catL (p :: ps) ++ r).drop (p.length + 6) = catL ps ++ r := by
      rw [catL_cons, List.append_assoc, List.drop_append_of_le_length (by rw [frameL_length]; exact Nat.le_refl _), List.drop_of_length_le (by rw [frameL_length]; exact Nat.le_refl _), List.nil_append]
    rw [hd, ih', catL_cons, List.length_append, frameL_length]
theorem firstOf_nil : firstOf [] = none := by
  unfold firstOf
  rw [if_pos]
  show 0 < _
  omega
theorem framesL_all (ps : List (List UInt8)) (h : ∀ p ∈ ps, p.length ≤ 65535) : framesL (catL ps) = (ps, (catL ps).length) := by
  have := framesL_cat ps [] h firstOf_nil
  rwa [List.append_nil] at this
theorem catL_length (ps : List (List UInt8)) (h : ∀ p ∈ ps, p.length ≤ 65535) : (catL ps).length ≤ ps.length * 65541 := by
  induction ps with
  | nil => simp [catL]
  | cons p ps ih =>
    have hp := h p (by simp)
    have ih' := ih (fun q hq => h q (by simp [hq]))
    rw [catL_cons, List.length_append, frameL_length, List.length_cons]
    omega
theorem frame_none : frameL [] = [0, 0, 241, 97, 119, 210] := by decide +kernel
end Go.Proofs.Ytjbkpibkpiljoaa
