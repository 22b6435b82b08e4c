import Derived.Test.YtjbkpibkpiljoaaWalkG
import Derived.Deep.AppendLies
namespace Go.Proofs.Ytjbkpibkpiljoaa
open Go.ChangeShapes Go.WideShapes Go.ChangeAt Go.RowKit

theorem firstOf_len {d p : List UInt8} (h : firstOf d = some p) : p.length + 6 ≤ d.length := by
  unfold firstOf at h
  split at h
  · cases h
  · split at h
    · simp only [Option.some.injEq] at h
      rw [← h, List.length_take, List.length_drop]; omega
    · cases h

theorem firstOf_small {d p : List UInt8} (h : firstOf d = some p) : p.length ≤ 65535 := by
  unfold firstOf at h
  split at h
  · cases h
  · split at h
    · simp only [Option.some.injEq] at h
      rename_i hl _
      have h2 := fromL_lt (d.take 2)
      rw [List.length_take] at h2
      have h3 : min 2 d.length = 2 := by omega
      rw [h3] at h2
      rw [← h, List.length_take]; omega
    · cases h

def framesL (d : List UInt8) : List (List UInt8) × Nat :=
  match h : firstOf d with
  | none => ([], 0)
  | some p => (p :: (framesL (d.drop (p.length + 6))).1, p.length + 6 + (framesL (d.drop (p.length + 6))).2)
termination_by d.length
decreasing_by all_goals (have := firstOf_len h; simp; omega)

theorem framesL_none {d : List UInt8} (h : firstOf d = none) : framesL d = ([], 0) := by
  unfold framesL
  split
  · rfl
  · rename_i p hp; rw [h] at hp; cases hp
theorem framesL_some {d p : List UInt8} (h : firstOf d = some p) : framesL d = (p :: (framesL (d.drop (p.length + 6))).1, p.length + 6 + (framesL (d.drop (p.length + 6))).2) := by
  conv => lhs; unfold framesL
  split
  · rename_i hp; rw [h] at hp; cases hp
  · rename_i q hq
    rw [h] at hq
    cases hq
    rfl

def strV (l : List UInt8) : Value := .string ⟨l.toArray⟩

theorem info9 : (Try.prog.info? 9).map (fun i => (i.zero, i.size, i.bytes)) = some (some (.string ⟨#[]⟩), 1, 16) := by kernel_rfl
theorem below_grown {w w' : World} (h : Below w.heap.size w w') : w.grownBy w' none :=
  ⟨h.os, h.tape, h.output, h.size, fun k hk _ => h.block k hk⟩
theorem below_drewN (w : World) (n : Nat) (B : Nat) : Below B w (w.drewN n) := ⟨rfl, rfl, rfl, Nat.le_refl _, fun _ _ => rfl⟩
theorem grown_below {B : Nat} {w w' : World} {row : Option Nat} (h : w.grownBy w' row) (hB : B ≤ w.heap.size) (hr : ∀ k, row = some k → B ≤ k) : Below B w w' :=
  ⟨h.os, h.tape, h.output, h.size, fun k hk => h.block k (by omega) (fun e => by have := hr k e.symm; omega)⟩

/-- what the loops of both readers keep -/
structure Read (d : List UInt8) (r : Nat) (xs : List (List UInt8)) : Prop where
  le : r ≤ d.length
  six : 6 * xs.length ≤ r
  fst : (framesL d).1 = xs ++ (framesL (d.drop r)).1
  snd : (framesL d).2 = r + (framesL (d.drop r)).2
theorem Read.zero (d : List UInt8) : Read d 0 [] := ⟨Nat.zero_le _, by simp, by simp, by simp⟩
theorem Read.step {d p : List UInt8} {r : Nat} {xs : List (List UInt8)} (h : Read d r xs) (hf : firstOf (d.drop r) = some p) : Read d (r + (p.length + 6)) (xs ++ [p]) := by
  have hl := firstOf_len hf
  rw [List.length_drop] at hl
  have h1 := h.le
  have h6 := h.six
  have e := framesL_some hf
  refine ⟨by omega, by simp; omega, ?_, ?_⟩
  · rw [h.fst, e, List.drop_drop]; simp
  · rw [h.snd, e, List.drop_drop]; simp; omega
theorem Read.done {d : List UInt8} {r : Nat} {xs : List (List UInt8)} (h : Read d r xs) (hf : firstOf (d.drop r) = none) : framesL d = (xs, r) := by
  have e := framesL_none hf
  have h1 := h.fst
  have h2 := h.snd
  rw [e] at h1 h2
  simp at h1 h2
  rw [← h1, ← h2]

theorem new_cell (w : World) (p : List UInt8) : ∀ j u, [strV p][j]? = some u → (w.alloc (.cells #[strV p] 9)).cell? ((⟨w.heap.size, 0, none⟩ : Addr).add j) = some u :=
  World.news_of_block (cs := #[strV p]) (t := 9) (fr := (0, 0)) (heap_alloc_new w _)

set_option maxHeartbeats 400000 in
theorem readAll_any (s : ByteArray) (w : World) (hs : s.size ≤ 1152921504606846976) (hcount : (framesL s.data.toList).1.length ≤ 8796093022208) :
    Calls Try.prog 16 #[.string s] w fun e w' => ∃ v, e = .returned (.tuple #[v, .int .i64 ((framesL s.data.toList).2 : Nat)]) ∧ w'.ownsRow w.heap.size 9 1 v (framesL s.data.toList).1.length ((framesL s.data.toList).1.map strV) ∧ Below w.heap.size w w' := by
  obtain ⟨i0, hi, hz0, hz1, hz2⟩ := info_parts info9
  go_enter Try.func16, Try.ntmps16
  go_wp2
  go_loopw [4, 5] (fun v i wr => ∃ (r : Nat) (xs : List (List UInt8)), i = .int .i64 r ∧ r ≤ s.size ∧ wr.ownsRow w.heap.size 9 1 v xs.length (xs.map strV) ∧ Below w.heap.size w wr ∧ Read s.data.toList r xs) (fun _ i _ => s.size - (intOf i).toNat)
  case atStart => exact ⟨0, [], rfl, Nat.zero_le _, World.ownsRow_nil _ _ _ _, Below.refl _ _, Read.zero _⟩
  case round =>
    obtain ⟨r, xs, rfl, hr, hown, hb, hR⟩ := hrel
    go_wp2_with fail
    have hfst := first_any (s.extract r s.size) wr (by rw [ByteArray.size_extract]; omega)
    rw [extract_list, List.take_of_length_le (by rw [List.length_drop, size_list]; omega)] at hfst
    refine hfst.mono ?_
    rintro e w1 ⟨⟨nd, rfl⟩, hm⟩
    clear hfst
    cases hf : firstOf (s.data.toList.drop r) with
    | none =>
      have HR : Hid (framesL s.data.toList = (xs, r)) := hR.done hf
      rw [hf] at hm
      obtain ⟨p, rfl⟩ := hm
      clear hf hR
      go_wp2
      go_ret2
      refine ⟨u4, ?_, ?_, hb.trans (below_drewN _ _ _)⟩
      · rw [HR.out]; rfl
      · rw [HR.out]; exact hown
    | some p =>
      have hR' := hR.step hf
      have hpl := firstOf_len hf
      rw [List.length_drop, size_list] at hpl
      have hp16 := firstOf_small hf
      have hxl : xs.length + 1 ≤ 8796093022208 := by
        have h1 := congrArg List.length hR'.fst
        simp only [List.length_append, List.length_singleton] at h1
        omega
      have h6 := hR.six
      rw [hf] at hm
      simp only [] at hm
      subst hm
      clear hf hR
      have hps : (⟨p.toArray⟩ : ByteArray).size = p.length := by show p.toArray.size = _; simp
      have hown1 : (wr.drewN nd).ownsRow w.heap.size 9 1 u4 xs.length (xs.map strV) := hown
      have hb1 : Below w.heap.size w (wr.drewN nd) := hb.trans (below_drewN _ _ _)
      clear hown hb
      generalize wr.drewN nd = wq at *
      go_wp2_with fail
      refine (clone_any ⟨p.toArray⟩ _ (by rw [hps]; omega)).mono ?_
      rintro e w2 ⟨rfl, hb2⟩
      have hown2 := hown1.kept (below_grown hb2) (by cases hv : u4.ownBlock <;> simp)
      have hb3 := hb1.trans (hb2.mono hb1.size)
      clear hown1 hb1 hb2
      go_wp2_with (at_builtin; refine wpList_append_own _ rfl _ _ 27 rfl w.heap.size 9 i0 _ 1 16 Try.underlying27 hi hz0 hz1 hz2 rfl (by decide) _ _ _ rfl (hown2.alloc _) ⟨w2.heap.size, 0, none⟩ 1 1 [strV p] rfl rfl (new_cell _ _) (fun x hx => by simp at hx; subst hx; rfl) (by unfold maxLen; omega) (by omega) (by have := hb3.size; simp; omega) ?_; intro v' w3 hown' hgrow3 hnil3)
      go_roundw
      case rel =>
        refine ⟨r + (p.length + 6), xs ++ [p], by congr 1; omega, by omega, ?_, ?_, hR'⟩
        · simpa using hown'
        · refine (hb3.alloc hb3.size _).trans (grown_below hgrow3 (by have := hb3.size; simp; omega) (fun k hk => (hown2.lt k hk).1))
      case measure => simp [intOf]; omega
end Go.Proofs.Ytjbkpibkpiljoaa
