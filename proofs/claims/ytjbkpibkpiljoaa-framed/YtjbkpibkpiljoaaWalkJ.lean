import Derived.Test.YtjbkpibkpiljoaaWalkI
namespace Go.Proofs.Ytjbkpibkpiljoaa
open Go.ChangeShapes Go.WideShapes Go.ChangeAt Go.RowKit

set_option maxHeartbeats 400000 in
theorem sameTexts_zero (pa pb : Option Addr) (ca cb : Nat) (w : World) :
    Calls Try.prog 15 #[.slice pa 0 ca, .slice pb 0 cb] w fun e w' => e = .returned (.bool true) ∧ ∃ n, w' = w.drewN n := by
  go_enter Try.func15, Try.ntmps15
  go_wp2
  go_loop [5] (fun i => i = .int .i64 0) (fun _ => 0)
  case atStart => rfl
  case round =>
    subst hrel
    go_wp2
    go_ret
    exact ⟨rfl, 0, rfl⟩

set_option maxHeartbeats 400000 in
theorem sameTexts_some (a b : Addr) (ca cb : Nat) (xs : List (List UInt8)) (w : World) (hx : xs.length ≤ 1000000000000000000)
    (ha : ∀ i (h : i < xs.length), w.cell? (a.add i) = some (strV xs[i])) (hb : ∀ i (h : i < xs.length), w.cell? (b.add i) = some (strV xs[i])) :
    Calls Try.prog 15 #[.slice (some a) xs.length ca, .slice (some b) xs.length cb] w fun e w' => e = .returned (.bool true) ∧ ∃ n, w' = w.drewN n := by
  have HA := show Hid (∀ i (h : i < xs.length), w.cell? (a.add i) = some (strV xs[i])) from ha
  have HB := show Hid (∀ i (h : i < xs.length), w.cell? (b.add i) = some (strV xs[i])) from hb
  clear ha hb
  go_enter Try.func15, Try.ntmps15
  go_wp2
  go_loopw [5] (fun i wr => ∃ k : Nat, k ≤ xs.length ∧ i = .int .i64 k ∧ ∃ n, wr = w.drewN n) (fun i _ => xs.length - (intOf i).toNat)
  case atStart => exact ⟨0, Nat.zero_le _, rfl, 0, rfl⟩
  case round =>
    obtain ⟨k, hk, rfl, n, rfl⟩ := hrel
    by_cases hlt : k < xs.length
    · have h1 : w.cell? (a.add k) = some (.string ⟨xs[k].toArray⟩) := HA.out k hlt
      have h2 : w.cell? (b.add k) = some (.string ⟨xs[k].toArray⟩) := HB.out k hlt
      go_wp2
      go_quiet (fail)
      go_wp2
      go_roundw
      case rel => exact ⟨k + 1, by omega, by go_num, n + nq, rfl⟩
      case measure => simp [intOf]; omega
    · go_wp2
      go_ret
      exact ⟨rfl, n, rfl⟩
set_option maxHeartbeats 400000 in
theorem same_zero (pa pb : Option Addr) (ca cb : Nat) (w : World) :
    Calls Try.prog 10 #[.slice pa 0 ca, .slice pb 0 cb] w fun e w' => e = .returned (.bool true) ∧ ∃ n, w' = w.drewN n := by
  go_enter Try.func10, Try.ntmps10
  go_wp2
  go_loop [5] (fun i => i = .int .i64 0) (fun _ => 0)
  case atStart => rfl
  case round =>
    subst hrel
    go_wp2
    go_ret
    exact ⟨rfl, 0, rfl⟩

set_option maxHeartbeats 400000 in
theorem same_some (a b : Addr) (ca cb : Nat) (xs : List (List UInt8)) (w : World) (hx : xs.length ≤ 1000000000000000000)
    (ha : ∀ i (h : i < xs.length), w.cell? (a.add i) = some (strV xs[i])) (hb : ∀ i (h : i < xs.length), w.cell? (b.add i) = some (strV xs[i])) :
    Calls Try.prog 10 #[.slice (some a) xs.length ca, .slice (some b) xs.length cb] w fun e w' => e = .returned (.bool true) ∧ ∃ n, w' = w.drewN n := by
  have HA := show Hid (∀ i (h : i < xs.length), w.cell? (a.add i) = some (strV xs[i])) from ha
  have HB := show Hid (∀ i (h : i < xs.length), w.cell? (b.add i) = some (strV xs[i])) from hb
  clear ha hb
  go_enter Try.func10, Try.ntmps10
  go_wp2
  go_loopw [5] (fun i wr => ∃ k : Nat, k ≤ xs.length ∧ i = .int .i64 k ∧ ∃ n, wr = w.drewN n) (fun i _ => xs.length - (intOf i).toNat)
  case atStart => exact ⟨0, Nat.zero_le _, rfl, 0, rfl⟩
  case round =>
    obtain ⟨k, hk, rfl, n, rfl⟩ := hrel
    by_cases hlt : k < xs.length
    · have h1 : w.cell? (a.add k) = some (.string ⟨xs[k].toArray⟩) := HA.out k hlt
      have h2 : w.cell? (b.add k) = some (.string ⟨xs[k].toArray⟩) := HB.out k hlt
      go_wp2
      go_quiet (fail)
      go_wp2
      go_roundw
      case rel => exact ⟨k + 1, by omega, by go_num, n + nq, rfl⟩
      case measure => simp [intOf]; omega
    · go_wp2
      go_ret
      exact ⟨rfl, n, rfl⟩
/-- v is a slice of these strings -/
def Strs (w : World) (v : Value) (xs : List (List UInt8)) : Prop :=
  (∃ p c, v = .slice p 0 c ∧ xs = []) ∨ ∃ (a : Addr) (c : Nat), v = .slice (some a) xs.length c ∧ ∀ i (h : i < xs.length), w.cell? (a.add i) = some (strV xs[i])
theorem Strs.of_owns {w : World} {B : Nat} {v : Value} {xs : List (List UInt8)} (h : w.ownsRow B 9 1 v xs.length (xs.map strV)) : Strs w v xs := by
  by_cases h0 : xs.length = 0
  · have e : xs = [] := List.eq_nil_of_length_eq_zero h0
    rcases h.2 with ⟨h1, _⟩ | ⟨g, cap, cur, hv, _⟩
    · exact .inl ⟨_, _, h1, e⟩
    · rw [h0] at hv
      exact .inl ⟨_, _, hv, e⟩
  · obtain ⟨g, cap, hv, hg, _⟩ := h.form (by omega)
    refine .inr ⟨⟨g, 0, none⟩, cap, hv, fun i hi => h.cells (g := g) (by rw [hv]; rfl) i _ ?_⟩
    simp [List.getElem?_eq_getElem hi]
theorem Strs.cells_same {w w' : World} {v : Value} {xs : List (List UInt8)} (h : Strs w v xs) (hb : Below w.heap.size w w') : Strs w' v xs := by
  rcases h with h | ⟨a, c, hv, hc⟩
  · exact .inl h
  · refine .inr ⟨a, c, hv, fun i hi => ?_⟩
    have h1 := hc i hi
    have hlt := World.block_lt_of_cell? w _ h1
    rw [World.cell?_of_block (w := w) (hb.block _ hlt)]
    exact h1
theorem sameTexts_any (va vb : Value) (xs : List (List UInt8)) (w : World) (hx : xs.length ≤ 1000000000000000000) (ha : Strs w va xs) (hb : Strs w vb xs) :
    Calls Try.prog 15 #[va, vb] w fun e w' => e = .returned (.bool true) ∧ ∃ n, w' = w.drewN n := by
  rcases ha with ⟨pa, ca, rfl, rfl⟩ | ⟨a, ca, rfl, hca⟩
  · rcases hb with ⟨pb, cb, rfl, _⟩ | ⟨b, cb, rfl, _⟩
    · exact sameTexts_zero _ _ _ _ _
    · exact sameTexts_zero _ _ _ _ _
  · rcases hb with ⟨pb, cb, rfl, rfl⟩ | ⟨b, cb, rfl, hcb⟩
    · exact sameTexts_zero _ _ _ _ _
    · exact sameTexts_some a b ca cb xs w hx hca hcb
theorem same_any (va vb : Value) (xs : List (List UInt8)) (w : World) (hx : xs.length ≤ 1000000000000000000) (ha : Strs w va xs) (hb : Strs w vb xs) :
    Calls Try.prog 10 #[va, vb] w fun e w' => e = .returned (.bool true) ∧ ∃ n, w' = w.drewN n := by
  rcases ha with ⟨pa, ca, rfl, rfl⟩ | ⟨a, ca, rfl, hca⟩
  · rcases hb with ⟨pb, cb, rfl, _⟩ | ⟨b, cb, rfl, _⟩
    · exact same_zero _ _ _ _ _
    · exact same_zero _ _ _ _ _
  · rcases hb with ⟨pb, cb, rfl, rfl⟩ | ⟨b, cb, rfl, hcb⟩
    · exact same_zero _ _ _ _ _
    · exact same_some a b ca cb xs w hx hca hcb
end Go.Proofs.Ytjbkpibkpiljoaa
