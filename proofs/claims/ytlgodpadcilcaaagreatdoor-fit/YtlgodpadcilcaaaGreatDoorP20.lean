import Derived.Test.YtlgodpadcilcaaaGreatDoorP07
import Derived.Test.YtlgodpadcilcaaaGreatDoorP19
import Derived.Deep.QuietTactic
import Derived.BigQuiet
import Derived.Test.YtlgodpadcilcaaaGreatDoorP04
import Derived.Test.YtlgodpadcilcaaaGreatDoorP05
import Derived.Test.YtlgodpadcilcaaaGreatDoorP06
namespace Go.Proofs.YtlgodpadcilcaaaGreatDoor
open Go.ChangeShapes Go.WideShapes Go.ChangeAt Go.RowKit

def z6 : List Value := [.string ⟨#[]⟩, .string ⟨#[]⟩, .string ⟨#[]⟩, .string ⟨#[]⟩, .string ⟨#[]⟩, .string ⟨#[]⟩]
theorem Made.drew {w : World} {B : Nat} {C : Array Value} {T : TypeId} (h : Made w B C T) (n : Nat) : Made (w.drewN n) B C T := ⟨h.at'⟩

set_option maxHeartbeats 2000000 in
theorem parseTuple_no (s : ByteArray) (w : World) (hs : s.size ≤ 9223372036854775807) (h : cutF 64 s.data.toList = none ∨ ∃ L R, cutF 64 s.data.toList = some (L, R) ∧ (cutF 35 L = none ∨ ∃ o r, cutF 35 L = some (o, r) ∧ nameL r = false)) :
    Calls Tryz.prog 17 #[.string s] w fun e w' => e = .returned (.tuple #[.agg z6.toArray, .bool false]) ∧ Below w.heap.size w w' := by
  have hC := fun u => cut_big s 64 u hs
  unfold cutV at hC
  rcases h with hc | ⟨L, R, hc, h⟩
  · rw [hc] at hC
    simp only at hC
    clear hc
    go_enter Tryz.func17, Tryz.ntmps17
    go_wp2_with (go_at_call 44; refine (hC _).mono ?_; rintro e w1 ⟨n, rfl, rfl⟩)
    refine post_cells rfl w.heap.size z6 (.bool false) rfl rfl rfl Tryz.underlying35 rfl sizeTu (range_puts z6 (Nat.le_refl _) (range_newD w z6.toArray 35 n)) ?_
    exact ⟨rfl, belowCells (Nat.le_refl _) z6 _ _ (below_newD _ _ _)⟩
  · have hl := extract_le hc
    rw [hc] at hC
    simp only at hC
    have hC2 := fun u => cut_big ⟨L.toArray⟩ 35 u (by simp [ByteArray.size]; omega)
    unfold cutV at hC2
    rw [show (⟨L.toArray⟩ : ByteArray).data.toList = L from rfl] at hC2
    clear hc
    unfold strV at hC
    generalize (⟨R.toArray⟩ : ByteArray) = RA at *
    rcases h with hc2 | ⟨o, r, hc2, hn⟩
    · rw [hc2] at hC2
      simp only at hC2
      clear hc2
      generalize (⟨L.toArray⟩ : ByteArray) = LA at *
      go_enter Tryz.func17, Tryz.ntmps17
      go_upto_region 4 with (go_at_call 44; refine (hC _).mono ?_; rintro e w1 ⟨n, rfl, rfl⟩)
      go_wp2_with (go_at_call 44; refine (hC2 _).mono ?_; rintro e w1 ⟨m, rfl, rfl⟩)
      refine post_cells rfl w.heap.size z6 (.bool false) rfl rfl rfl Tryz.underlying35 rfl sizeTu (range_puts z6 (Nat.le_refl _) (Made.new w z6.toArray 35 (n + m)).range) ?_
      exact ⟨rfl, belowCells (Nat.le_refl _) z6 _ _ (below_newD _ _ _)⟩
    · rw [hc2] at hC2
      simp only at hC2
      clear hc2
      unfold strV at hC2
      have hN := fun u => isName_any ⟨r.toArray⟩ u
      rw [show (⟨r.toArray⟩ : ByteArray).data.toList = r from rfl, hn] at hN
      generalize (⟨L.toArray⟩ : ByteArray) = LA at *
      generalize (⟨r.toArray⟩ : ByteArray) = rA at *
      generalize (⟨o.toArray⟩ : ByteArray) = oA at *
      go_enter Tryz.func17, Tryz.ntmps17
      go_upto_region 4 with (go_at_call 44; refine (hC _).mono ?_; rintro e w1 ⟨n, rfl, rfl⟩)
      go_wp2_with first | (go_at_call 44; refine (hC2 _).mono ?_; rintro e w1 ⟨m, rfl, rfl⟩) | (go_at_call 45; refine (hN _).mono ?_; rintro e w2 ⟨rfl, rfl⟩)
      refine post_cells rfl w.heap.size z6 (.bool false) rfl rfl rfl Tryz.underlying35 rfl sizeTu (range_puts z6 (Nat.le_refl _) (Made.new w z6.toArray 35 (n + m)).range) ?_
      exact ⟨rfl, belowCells (Nat.le_refl _) z6 _ _ (below_newD _ _ _)⟩

set_option maxHeartbeats 4000000 in
theorem parseTuple_in (s : ByteArray) (w : World) (hs : s.size ≤ 9223372036854775807) {L R o r : List UInt8} (hc : cutF 64 s.data.toList = some (L, R)) (hc2 : cutF 35 L = some (o, r)) (hn : nameL r = true) (a1 a2 b1 b2 b3 : ByteArray) (c1 c2 : Bool)
    (hO : ∀ u, Calls Tryz.prog 46 #[.string ⟨o.toArray⟩] u fun e w' => e = .returned (.tuple #[.agg #[.string a1, .string a2], .bool c1]) ∧ Below u.heap.size u w')
    (hS : ∀ u, Calls Tryz.prog 47 #[.string ⟨R.toArray⟩] u fun e w' => e = .returned (.tuple #[.agg #[.string b1, .string b2, .string b3], .bool c2]) ∧ Below u.heap.size u w') :
    Calls Tryz.prog 17 #[.string s] w fun e w' => e = .returned (.tuple #[.agg (bif c1 && c2 then [.string a1, .string a2, .string ⟨r.toArray⟩, .string b1, .string b2, .string b3] else z6).toArray, .bool (c1 && c2)]) ∧ Below w.heap.size w w' := by
  have hC := fun u => cut_big s 64 u hs
  unfold cutV at hC
  have hl := extract_le hc
  rw [hc] at hC
  simp only at hC
  have hC2 := fun u => cut_big ⟨L.toArray⟩ 35 u (by simp [ByteArray.size]; omega)
  unfold cutV at hC2
  rw [show (⟨L.toArray⟩ : ByteArray).data.toList = L from rfl, hc2] at hC2
  simp only at hC2
  clear hc hc2 hl
  unfold strV at hC hC2
  have hN := fun u => isName_any ⟨r.toArray⟩ u
  rw [show (⟨r.toArray⟩ : ByteArray).data.toList = r from rfl, hn] at hN
  clear hn
  generalize (⟨L.toArray⟩ : ByteArray) = LA at *
  generalize (⟨R.toArray⟩ : ByteArray) = RA at *
  generalize (⟨r.toArray⟩ : ByteArray) = rA at *
  generalize (⟨o.toArray⟩ : ByteArray) = oA at *
  go_enter Tryz.func17, Tryz.ntmps17
  go_upto_region 4 with (go_at_call 44; refine (hC _).mono ?_; rintro e w1 ⟨n, rfl, rfl⟩)
  go_upto_region 7 with first | (go_at_call 44; refine (hC2 _).mono ?_; rintro e w1 ⟨m, rfl, rfl⟩) | (go_at_call 45; refine (hN _).mono ?_; rintro e w2 ⟨rfl, rfl⟩)
  have HM0 := Made.new w z6.toArray 35 (n + m)
  have HB0 : Hid (Below w.heap.size w ((w.alloc (Obj.cells z6.toArray 35)).drewN (n + m))) := below_newD _ _ _
  unfold z6 at HM0 HB0
  generalize (w.alloc (Obj.cells #[Value.string ⟨#[]⟩, .string ⟨#[]⟩, .string ⟨#[]⟩, .string ⟨#[]⟩, .string ⟨#[]⟩, .string ⟨#[]⟩] 35)).drewN (n + m) = W0 at *
  go_upto_region 8 with (go_at_call 46; refine (hO _).mono ?_; rintro e w3 ⟨rfl, hb3⟩)
  have HM1 := HM0.below hb3
  have HB1 : Hid (Below w.heap.size w w3) := HB0.out.trans (hb3.mono (Nat.le_of_lt HM0.lt))
  have hl1 := HM1.lt
  clear HM0 HB0 hb3
  have HM2 := HM1.alloc (.cells #[.string a1, .string a2] 31)
  have HN2 : Made (w3.alloc (.cells #[.string a1, .string a2] 31)) w3.heap.size #[.string a1, .string a2] 31 := ⟨heap_alloc_new _ _⟩
  have HB2 : Hid (Below w.heap.size w (w3.alloc (.cells #[.string a1, .string a2] 31))) := HB1.out.alloc (Nat.le_of_lt hl1) _
  clear HM1 HB1
  generalize w3.alloc (.cells #[.string a1, .string a2] 31) = W3 at *
  generalize w3.heap.size = B3 at *
  go_upto_region 9 with (go_at_call 47; refine (hS _).mono ?_; rintro e w5 ⟨rfl, hb5⟩)
  have HM3 := HM2.below hb5
  have HN3 := HN2.below hb5
  have HB3 : Hid (Below w.heap.size w w5) := HB2.out.trans (hb5.mono (Nat.le_of_lt HM2.lt))
  have hl5 := HM3.lt
  have hl6 := HN3.lt
  clear HM2 HN2 HB2 hb5
  have c0 := HM3.cell 0
  have c1' := HM3.cell 1
  have c2' := HM3.cell 2
  have c3 := HM3.cell 3
  have c4 := HM3.cell 4
  have c5 := HM3.cell 5
  have f0 := HM3.frz 0
  have f1 := HM3.frz 1
  have f2 := HM3.frz 2
  have f3 := HM3.frz 3
  have f4 := HM3.frz 4
  have f5 := HM3.frz 5
  have d0 := HN3.cell 0
  have d1 := HN3.cell 1
  simp only [List.getElem?_toArray, List.getElem?_cons_zero, List.getElem?_cons_succ] at c0 c1' c2' c3 c4 c5 d0 d1
  cases c1 with
  | false =>
    go_wp2
    refine post_cells rfl w.heap.size z6 (.bool false) rfl rfl rfl Tryz.underlying35 rfl sizeTu (HM3.puts z6 (Nat.le_refl 6) _) ?_
    exact ⟨rfl, Made.belowPuts HB3.out (Nat.le_refl _) (Nat.le_of_lt hl5) z6 _⟩
  | true =>
    cases c2 with
    | false =>
      go_wp2
      refine post_cells rfl w.heap.size z6 (.bool false) rfl rfl rfl Tryz.underlying35 rfl sizeTu (HM3.puts z6 (Nat.le_refl 6) _) ?_
      exact ⟨rfl, Made.belowPuts HB3.out (Nat.le_refl _) (Nat.le_of_lt hl5) z6 _⟩
    | true =>
      go_wp2
      refine post_cells rfl w.heap.size [.string a1, .string a2, .string rA, .string b1, .string b2, .string b3] (.bool true) rfl rfl rfl Tryz.underlying35 rfl sizeTu (HM3.puts [.string a1, .string a2, .string rA, .string b1, .string b2, .string b3] (Nat.le_refl 6) _) ?_
      exact ⟨rfl, Made.belowPuts HB3.out (Nat.le_refl _) (Nat.le_of_lt hl5) [.string a1, .string a2, .string rA, .string b1, .string b2, .string b3] _⟩

theorem ParseTuple_any (s : ByteArray) (w : World) (hs : s.size ≤ 9223372036854775807) :
    Calls Tryz.prog 17 #[.string s] w fun e w' => e = .returned (.tuple #[.agg (tupC (tupS s.data.toList)).toArray, .bool (tupS s.data.toList).isSome]) ∧ Below w.heap.size w w' := by
  cases hc : cutF 64 s.data.toList with
  | none =>
    have e : tupS s.data.toList = none := by unfold tupS; rw [hc]
    rw [e]
    exact parseTuple_no s w hs (.inl hc)
  | some x =>
    obtain ⟨L, R⟩ := x
    have hl := extract_le hc
    cases hc2 : cutF 35 L with
    | none =>
      have e : tupS s.data.toList = none := by unfold tupS; rw [hc]; simp only [hc2]
      rw [e]
      exact parseTuple_no s w hs (.inr ⟨L, R, hc, .inl hc2⟩)
    | some y =>
      obtain ⟨o, r⟩ := y
      have hl2 : o.length < L.length := by
        have := congrArg List.length (cutF_spec hc2).1
        simp at this
        omega
      cases hn : nameL r with
      | false =>
        have e : tupS s.data.toList = none := by unfold tupS; rw [hc]; simp only [hc2, hn]; rfl
        rw [e]
        exact parseTuple_no s w hs (.inr ⟨L, R, hc, .inr ⟨o, r, hc2, hn⟩⟩)
      | true =>
        have hO := fun u => parseObject_any ⟨o.toArray⟩ u (by simp [ByteArray.size]; omega)
        have hS := fun u => parseSubject_any ⟨R.toArray⟩ u (by simp [ByteArray.size]; omega)
        rw [show (⟨o.toArray⟩ : ByteArray).data.toList = o from rfl] at hO
        rw [show (⟨R.toArray⟩ : ByteArray).data.toList = R from rfl] at hS
        refine (parseTuple_in s w hs hc hc2 hn _ _ _ _ _ _ _ hO hS).mono ?_
        rintro e w' ⟨rfl, hb⟩
        refine ⟨?_, hb⟩
        have e : tupS s.data.toList = match objS o, subS R with
          | some a, some b => some ⟨a.1, a.2, r, b.1, b.2.1, b.2.2⟩
          | _, _ => none := by unfold tupS; rw [hc]; simp only [hc2, hn, if_true]; rfl
        rw [e]
        cases objS o with
        | none => rfl
        | some a =>
          cases subS R with
          | none => rfl
          | some b => rfl
end Go.Proofs.YtlgodpadcilcaaaGreatDoor
namespace Go.Proofs.YtlgodpadcilcaaaGreatDoor
open Go.ChangeShapes Go.WideShapes Go.ChangeAt Go.RowKit

/-- six texts in their cells -/
def cells6 (ps : List (List UInt8)) : List Value := [strV (ps.getD 0 []), strV (ps.getD 1 []), strV (ps.getD 2 []), strV (ps.getD 3 []), strV (ps.getD 4 []), strV (ps.getD 5 [])]
theorem cells6_at (ps : List (List UInt8)) {j : Nat} (hj : j < 6) : (cells6 ps)[j]? = some (strV (ps.getD j [])) := by
  match j, hj with
  | 0, _ => rfl
  | 1, _ => rfl
  | 2, _ => rfl
  | 3, _ => rfl
  | 4, _ => rfl
  | 5, _ => rfl
theorem cells6_len (ps : List (List UInt8)) : (cells6 ps).length = 6 := rfl
theorem cells6_ext {ps qs : List (List UInt8)} (h : ∀ j, j < 6 → ps.getD j [] = qs.getD j []) : cells6 ps = cells6 qs := by
  unfold cells6
  rw [h 0 (by decide), h 1 (by decide), h 2 (by decide), h 3 (by decide), h 4 (by decide), h 5 (by decide)]
theorem grow1_sign {cs : List UInt8} {ps : List (List UInt8)} {b : UInt8} (h : cs[ps.length - 1]? = some b) : cells6 (grow1 cs ps b) = cells6 ps ∧ (grow1 cs ps b).length = ps.length + 1 := by
  unfold grow1
  rw [if_pos h]
  refine ⟨cells6_ext (fun j _ => ?_), by simp⟩
  by_cases hj : j < ps.length
  · simp [List.getD, List.getElem?_append_left hj]
  · rw [List.getD, List.getD, List.getElem?_append_right (by omega), List.getElem?_eq_none (by omega : ps.length ≤ j)]
    cases h : ([[]] : List (List UInt8))[j - ps.length]? with
    | none => rfl
    | some x =>
      have := List.mem_of_getElem? h
      simp at this
      subst this
      rfl
theorem grow1_text {cs : List UInt8} {ps : List (List UInt8)} {b : UInt8} {n : Nat} (hn : ps.length = n + 1) (h : cs[ps.length - 1]? ≠ some b) : cells6 (grow1 cs ps b) = (cells6 ps).set n (strV (ps.getD n [] ++ [b])) ∧ (grow1 cs ps b).length = ps.length := by
  unfold grow1
  rw [if_neg h]
  refine ⟨?_, by simp; omega⟩
  have hl : ps.getLastD [] = ps.getD n [] := by
    rw [List.getLastD_eq_getLast?, List.getLast?_eq_getElem?, hn]
    rfl
  rw [hl]
  generalize ps.getD n [] ++ [b] = t
  have hd : ∀ j, (ps.dropLast ++ [t]).getD j [] = if j = n then t else ps.getD j [] := fun j => by
    rw [List.getD, List.getD]
    have hdl : ps.dropLast.length = n := by simp; omega
    by_cases hj : j < n
    · rw [List.getElem?_append_left (by omega), if_neg (by omega), List.getElem?_dropLast, if_pos (by omega)]
    · rw [List.getElem?_append_right (by omega), hdl]
      by_cases e : j = n
      · subst e; simp
      · rw [if_neg e, List.getElem?_eq_none (by simp; omega), List.getElem?_eq_none (by omega)]
  refine List.ext_getElem? (fun j => ?_)
  by_cases hj : j < 6
  · rw [cells6_at _ hj, List.getElem?_set, cells6_at _ hj, cells6_len, hd]
    by_cases e : n = j
    · subst e; simp [hj]
    · rw [if_neg e, if_neg (fun h => e h.symm)]
  · rw [List.getElem?_eq_none (by rw [cells6_len]; omega), List.getElem?_eq_none (by rw [List.length_set, cells6_len]; omega)]
theorem piecesR_small : ∀ (cs t : List UInt8), ∀ p ∈ piecesR cs t, p.length ≤ t.length
  | [], t => by simp [piecesR]
  | c :: cs, t => by
    unfold piecesR
    split
    · simp
    · rename_i p r h
      have e := congrArg List.length (cutF_spec h).1
      simp at e
      intro q hq
      rcases List.mem_cons.1 hq with rfl | hq
      · omega
      · have := piecesR_small cs r q hq; omega
theorem getD_small {ps : List (List UInt8)} {m : Nat} (h : ∀ p ∈ ps, p.length ≤ m) (j : Nat) : (ps.getD j []).length ≤ m := by
  rw [List.getD]
  cases hj : ps[j]? with
  | none => simp
  | some p => exact h p (List.mem_of_getElem? hj)
theorem Made.set {w : World} {B : Nat} {C : List Value} {T : TypeId} (h : Made w B C.toArray T) (i : Nat) (v : Value) : Made (w.setCell ⟨B, i, none⟩ v) B (C.set i v).toArray T := ⟨by rw [blk_set h.at']; simp⟩
theorem Made.far {w : World} {B B' : Nat} {C : Array Value} {T : TypeId} (h : Made w B C T) (hB : B ≠ B') (i : Nat) (v : Value) : Made (w.setCell ⟨B', i, none⟩ v) B C T := ⟨by rw [Below.heap_setCell _ _ _ _ hB]; exact h.at'⟩

/-- what the loop of Split keeps: B the first of three new blocks -/
structure SpI (w : World) (s : ByteArray) (B k n : Nat) (wr : World) : Prop where
  len : (piecesR signsR (s.data.toList.take k)).length = n + 1
  low : n ≤ 5
  m2 : Made wr B z6.toArray 77
  m4 : Made wr (B + 1) z6.toArray 77
  m6 : Made wr (B + 1 + 1) (cells6 (piecesR signsR (s.data.toList.take k))).toArray 125
  below : Below B w wr
theorem SpI.drew {w : World} {s : ByteArray} {B k n : Nat} {wr : World} (h : SpI w s B k n wr) (m : Nat) : SpI w s B k n (wr.drewN m) := ⟨h.len, h.low, ⟨h.m2.at'⟩, ⟨h.m4.at'⟩, ⟨h.m6.at'⟩, h.below.trans (below_drewN _ _ _)⟩
theorem SpI.sign {w : World} {s : ByteArray} {B k n : Nat} {wr : World} (h : SpI w s B k n wr) (hk : k < s.size) (hn : n < 5) (hb : signsR[n]? = some s[k]) : SpI w s B (k + 1) (n + 1) wr := by
  have e := piecesR_snoc signsR (s.data.toList.take k) s[k]
  rw [← take_snoc s k hk] at e
  have hl := h.len
  obtain ⟨g1, g2⟩ := grow1_sign (cs := signsR) (ps := piecesR signsR (s.data.toList.take k)) (b := s[k]) (by rw [hl]; exact hb)
  exact ⟨by rw [e, g2, hl], by omega, h.m2, h.m4, by rw [e, g1]; exact h.m6, h.below⟩
theorem SpI.text {w : World} {s : ByteArray} {B k n : Nat} {wr : World} (h : SpI w s B k n wr) (hk : k < s.size) (hb : signsR[n]? ≠ some s[k]) : SpI w s B (k + 1) n (wr.setCell ⟨B + 1 + 1, n, none⟩ (strV ((piecesR signsR (s.data.toList.take k)).getD n [] ++ [s[k]]))) := by
  have e := piecesR_snoc signsR (s.data.toList.take k) s[k]
  rw [← take_snoc s k hk] at e
  have hl := h.len
  obtain ⟨g1, g2⟩ := grow1_text (cs := signsR) (b := s[k]) hl (by rw [hl]; exact hb)
  exact ⟨by rw [e, g2, hl], h.low, h.m2.far (by omega) _ _, h.m4.far (by omega) _ _, by rw [e, g1]; exact h.m6.set _ _, h.below.setCell (p := ⟨B + 1 + 1, n, none⟩) (by show B ≤ B + 1 + 1; omega) _⟩
end Go.Proofs.YtlgodpadcilcaaaGreatDoor
namespace Go.Proofs.YtlgodpadcilcaaaGreatDoor
open Go.ChangeShapes Go.WideShapes Go.ChangeAt Go.RowKit

theorem sizeRT : (Tryz.prog.info? 77).map (·.size) = some 6 := by kernel_rfl
theorem signs_at (n : Nat) (hn : n < 5) : ∃ c : UInt8, signsR[n]? = some c ∧ ∀ w : World, (Instr.index 9 (.string ⟨#[58, 35, 64, 58, 35]⟩) (.int .i64 (n : Int))).run Tryz.prog w = .ok (.int .u8 (c.toNat : Int)) w := by
  refine ⟨signsR[n]'(by show n < 5; exact hn), List.getElem?_eq_getElem _, fun w => ?_⟩
  rw [run_index_string w 9 _ .i64 (n : Int) Tryz.underlying9, dif_pos ⟨by omega, by show (n : Int) < 5; omega⟩]
  match n, hn with
  | 0, _ => rfl
  | 1, _ => rfl
  | 2, _ => rfl
  | 3, _ => rfl
  | 4, _ => rfl
set_option maxRecDepth 100000 in
set_option maxHeartbeats 4000000 in
theorem rSplit_any (s : ByteArray) (w : World) (hs : s.size ≤ 9223372036854775807) :
    Calls Tryz.prog 25 #[.string s] w fun e w' => e = .returned (.tuple #[.agg (cells6 (piecesR signsR s.data.toList)).toArray, .bool (okR (piecesR signsR s.data.toList))]) ∧ Below w.heap.size w w' := by
  go_enter Tryz.func25, Tryz.ntmps25
  go_upto_region 4 with fail
  have hI0 : SpI w s w.heap.size 0 0 (((w.alloc (Obj.cells z6.toArray 77)).alloc (Obj.cells z6.toArray 77)).alloc (Obj.cells z6.toArray 125)) := by
    refine ⟨rfl, by decide, ?_, ?_, ?_, ?_⟩
    · exact Made.alloc (Made.alloc (⟨heap_alloc_new _ _⟩ : Made _ _ _ _) _) _
    · refine Made.alloc (⟨?_⟩ : Made _ _ _ _) _
      have := heap_alloc_new (w.alloc (Obj.cells z6.toArray 77)) (Obj.cells z6.toArray 77)
      simpa using this
    · have e : cells6 (piecesR signsR (s.data.toList.take 0)) = z6 := rfl
      rw [e]
      refine ⟨?_⟩
      have := heap_alloc_new ((w.alloc (Obj.cells z6.toArray 77)).alloc (Obj.cells z6.toArray 77)) (Obj.cells z6.toArray 125)
      simpa using this
    · exact (((Below.refl _ _).alloc (Nat.le_refl _) _).alloc (by simp) _).alloc (by simp; omega) _
  unfold z6 at hI0
  have HI0 : Hid _ := hI0
  clear hI0
  generalize (((w.alloc (Obj.cells #[Value.string ⟨#[]⟩, .string ⟨#[]⟩, .string ⟨#[]⟩, .string ⟨#[]⟩, .string ⟨#[]⟩, .string ⟨#[]⟩] 77)).alloc (Obj.cells #[Value.string ⟨#[]⟩, .string ⟨#[]⟩, .string ⟨#[]⟩, .string ⟨#[]⟩, .string ⟨#[]⟩, .string ⟨#[]⟩] 77)).alloc (Obj.cells #[Value.string ⟨#[]⟩, .string ⟨#[]⟩, .string ⟨#[]⟩, .string ⟨#[]⟩, .string ⟨#[]⟩, .string ⟨#[]⟩] 125)) = W at *
  generalize hB : w.heap.size = B at *
  have HBe : Hid (w.heap.size = B) := hB
  clear hB
  go_wp2
  go_loopw [7, 8] (fun s7 s8 wr => ∃ k n : Nat, k ≤ s.size ∧ n ≤ 5 ∧ s8 = .int .i64 (k : Int) ∧ s7 = .int .i64 (n : Int) ∧ Hid (SpI w s B k n wr)) (fun _ s8 _ => s.size - (intOf s8).toNat)
  case atStart => exact ⟨0, 0, Nat.zero_le _, by decide, rfl, rfl, HI0.out⟩
  case round =>
    clear HI0
    obtain ⟨k, n, hk, hn, rfl, rfl, HI⟩ := hrel
    by_cases hlt : k < s.size
    · have hkI : (k : Int) < (s.size : Int) := by omega
      have hm := HI.out.m6
      have hlt6 := hm.lt
      have hc : wr.cell? ⟨B + 1 + 1, n, none⟩ = some (strV ((piecesR signsR (s.data.toList.take k)).getD n [])) := by rw [hm.cell]; simpa using cells6_at _ (by omega)
      have hf : wr.frozen? ⟨B + 1 + 1, n, none⟩ = false := hm.frz n
      have HTx : Hid (signsR[n]? ≠ some s[k] → ∀ m, SpI w s B (k + 1) n ((wr.drewN m).setCell ⟨B + 1 + 1, n, none⟩ (strV ((piecesR signsR (s.data.toList.take k)).getD n [] ++ [s[k]])))) := fun h m => (HI.out.drew m).text hlt h
      have hsl : ∀ u : World, (Instr.slice 9 (.string s) (some (.int .i64 (k : Int))) (some (.int .i64 ((k : Int) + 1))) none).run Tryz.prog u = .ok (.string (s.extract k (k + 1))) u := fun u => by
        have h := run_slice_string (P := Tryz.prog) u 9 s .i64 .i64 (k : Int) ((k : Int) + 1) Tryz.underlying9 (by omega) (by omega) (by omega)
        rw [show ((k : Int)).toNat = k by omega, show ((k : Int) + 1).toNat = k + 1 by omega] at h
        exact h
      have hw1 : IntKind.i64.wrap ((k : Int) + 1) = (k : Int) + 1 := by rw [IntKind.wrap_i64]; omega
      have hcat : ∀ A : List UInt8, strV (A ++ [s[k]]) = .string (⟨A.toArray⟩ ++ s.extract k (k + 1)) := fun A => by
        rw [← strV_of]
        refine congrArg strV ?_
        have e : (s.extract k (k + 1)).data.toList = [s[k]] := by
          rw [extract_list, Nat.add_sub_cancel_left, List.drop_eq_getElem_cons (by rw [size_list]; exact hlt)]
          rfl
        rw [ByteArray.data_append, Array.toList_append, e]
      have hsm : (⟨((piecesR signsR (s.data.toList.take k)).getD n []).toArray⟩ : ByteArray).size ≤ k := by
        have h1 := getD_small (piecesR_small signsR (s.data.toList.take k)) n
        have h2 : (s.data.toList.take k).length ≤ k := by rw [List.length_take]; omega
        show ((piecesR signsR (s.data.toList.take k)).getD n []).toArray.size ≤ k
        rw [List.size_toArray]
        omega
      have hex : (s.extract k (k + 1)).size = 1 := by rw [ByteArray.size_extract]; omega
      rw [hcat] at HTx
      unfold strV at hc
      generalize (⟨((piecesR signsR (s.data.toList.take k)).getD n []).toArray⟩ : ByteArray) = A at *
      have hadd : ∀ u : World, (Op.stringOp .add A (s.extract k (k + 1))).run Tryz.prog u = .ok (.string (A ++ s.extract k (k + 1))) u := fun u => run_string_add_sum u _ _ (by omega)
      clear hm hcat hsm hex
      by_cases hn5 : n < 5
      · obtain ⟨c, hc1, hc2⟩ := signs_at n hn5
        have hn5I : (n : Int) < 5 := by omega
        by_cases hb : s[k] = c
        · have HS : Hid (∀ m, SpI w s B (k + 1) (n + 1) (wr.drewN m)) := fun m => (HI.out.sign hlt hn5 (by rw [hc1, hb])).drew m
          have hq : (((s[k]).toNat : Int) == ((c.toNat : Nat) : Int)) = true := by rw [hb]; simp
          have hq2 : ((s[k]).toNat : Int) = ((c.toNat : Nat) : Int) := by rw [hb]
          clear HTx hsl hc1 hb hc hf
          go_upto_region 8 with fail
          go_quiet (fail)
          go_wp2
          go_roundw
          case rel => exact ⟨k + 1, n + 1, by omega, by omega, by go_num, by go_num, HS.out _⟩
          case measure => simp [intOf]; omega
        · have hq : (((s[k]).toNat : Int) == ((c.toNat : Nat) : Int)) = false := by
            rw [beq_eq_false_iff_ne]
            intro h
            exact hb (UInt8.toNat_inj.1 (by omega))
          have HT := HTx.out (by rw [hc1]; intro h; exact hb (Option.some.inj h).symm)
          have HT' : Hid _ := HT
          clear HTx HT hb hc1
          go_upto_region 8 with fail
          go_quiet (fail)
          go_upto_region 10 with fail
          go_region
          all_goals go_wp2
          all_goals exact ⟨⟨k + 1, n, by omega, by omega, by go_num, rfl, HT'.out _⟩, by simp [intOf]; omega⟩
      · have HT := HTx.out (by rw [List.getElem?_eq_none (by show 5 ≤ n; omega)]; intro h; cases h)
        have HT' : Hid _ := HT
        have hn5I : ¬ (n : Int) < 5 := by omega
        have hn5D : decide ((n : Int) < 5) = false := by simp; omega
        clear HTx HT
        go_upto_region 8 with fail
        go_quiet (fail)
        go_upto_region 10 with fail
        go_region
        all_goals go_wp2
        all_goals exact ⟨⟨k + 1, n, by omega, by omega, by go_num, rfl, HT'.out _⟩, by simp [intOf]; omega⟩
    · obtain rfl : k = s.size := by omega
      have hI := HI.out
      obtain ⟨hlen, _, hM2, hM4, hM6, hbel⟩ := hI
      rw [List.take_of_length_le (by rw [size_list]; omega)] at hlen hM6
      have hsm := fun j => getD_small (piecesR_small signsR s.data.toList) j
      rw [size_list] at hsm
      have hN : ∀ j u, Calls Tryz.prog 51 #[.string ⟨((piecesR signsR s.data.toList).getD j []).toArray⟩] u fun e w' => e = .returned (.bool (nameL ((piecesR signsR s.data.toList).getD j []))) ∧ w' = u := fun j u => rname_big _ u (by have := hsm j; show ((piecesR signsR s.data.toList).getD j []).toArray.size ≤ _; rw [List.size_toArray]; omega)
      have hW : ∀ j u, Calls Tryz.prog 53 #[.string ⟨((piecesR signsR s.data.toList).getD j []).toArray⟩, .bool true] u fun e w' => e = .returned (.bool (idL ((piecesR signsR s.data.toList).getD j []))) ∧ w' = u := fun j u => word_big _ true u (by have := hsm j; show ((piecesR signsR s.data.toList).getD j []).toArray.size ≤ _; rw [List.size_toArray]; omega)
      have HOk : Hid (okR (piecesR signsR s.data.toList) = (nameL ((piecesR signsR s.data.toList).getD 0 []) && idL ((piecesR signsR s.data.toList).getD 1 []) && nameL ((piecesR signsR s.data.toList).getD 2 []) && nameL ((piecesR signsR s.data.toList).getD 3 []) && idL ((piecesR signsR s.data.toList).getD 4 []) && (decide (n = 4) || decide (n = 5) && nameL ((piecesR signsR s.data.toList).getD 5 [])))) := by
        show _ = _
        unfold okR
        rw [hlen, show decide (n + 1 = 5) = decide (n = 4) by simp, show decide (n + 1 = 6) = decide (n = 5) by simp]
        rfl
      unfold cells6 strV at hM6
      have HC6 : Hid (cells6 (piecesR signsR s.data.toList) = [strV ((piecesR signsR s.data.toList).getD 0 []), strV ((piecesR signsR s.data.toList).getD 1 []), strV ((piecesR signsR s.data.toList).getD 2 []), strV ((piecesR signsR s.data.toList).getD 3 []), strV ((piecesR signsR s.data.toList).getD 4 []), strV ((piecesR signsR s.data.toList).getD 5 [])]) := rfl
      have n0 := hN 0
      have n1 := hW 1
      have n2 := hN 2
      have n3 := hN 3
      have n4 := hW 4
      have n5 := hN 5
      clear hN hW hsm hlen HI
      unfold strV at HC6
      generalize (⟨((piecesR signsR s.data.toList).getD 0 []).toArray⟩ : ByteArray) = P0 at *
      generalize (⟨((piecesR signsR s.data.toList).getD 1 []).toArray⟩ : ByteArray) = P1 at *
      generalize (⟨((piecesR signsR s.data.toList).getD 2 []).toArray⟩ : ByteArray) = P2 at *
      generalize (⟨((piecesR signsR s.data.toList).getD 3 []).toArray⟩ : ByteArray) = P3 at *
      generalize (⟨((piecesR signsR s.data.toList).getD 4 []).toArray⟩ : ByteArray) = P4 at *
      generalize (⟨((piecesR signsR s.data.toList).getD 5 []).toArray⟩ : ByteArray) = P5 at *
      generalize nameL ((piecesR signsR s.data.toList).getD 0 []) = a0 at *
      generalize idL ((piecesR signsR s.data.toList).getD 1 []) = a1 at *
      generalize nameL ((piecesR signsR s.data.toList).getD 2 []) = a2 at *
      generalize nameL ((piecesR signsR s.data.toList).getD 3 []) = a3 at *
      generalize idL ((piecesR signsR s.data.toList).getD 4 []) = a4 at *
      generalize nameL ((piecesR signsR s.data.toList).getD 5 []) = a5 at *
      have c0 := hM6.cell 0
      have c1 := hM6.cell 1
      have c2 := hM6.cell 2
      have c3 := hM6.cell 3
      have c4 := hM6.cell 4
      have c5 := hM6.cell 5
      unfold z6 at hM4 hM2
      have q0 := hM4.cell 0
      have q1 := hM4.cell 1
      have q2 := hM4.cell 2
      have q3 := hM4.cell 3
      have q4 := hM4.cell 4
      have q5 := hM4.cell 5
      have g0 := hM4.frz 0
      have g1 := hM4.frz 1
      have g2 := hM4.frz 2
      have g3 := hM4.frz 3
      have g4 := hM4.frz 4
      have g5 := hM4.frz 5
      simp only [List.getElem?_toArray, List.getElem?_cons_zero, List.getElem?_cons_succ] at c0 c1 c2 c3 c4 c5 q0 q1 q2 q3 q4 q5
      go_upto_region 12 with (go_at_call 51; refine (n0 _).mono ?_; rintro e w1 ⟨rfl, rfl⟩)
      go_upto_region 13 with (go_at_call 53; refine (n1 _).mono ?_; rintro e w1 ⟨rfl, rfl⟩)
      go_upto_region 14 with (go_at_call 51; refine (n2 _).mono ?_; rintro e w1 ⟨rfl, rfl⟩)
      go_upto_region 15 with (go_at_call 51; refine (n3 _).mono ?_; rintro e w1 ⟨rfl, rfl⟩)
      go_upto_region 16 with (go_at_call 53; refine (n4 _).mono ?_; rintro e w1 ⟨rfl, rfl⟩)
      go_upto_region 17 with (go_at_call 51; refine (n5 _).mono ?_; rintro e w1 ⟨rfl, rfl⟩)
      clear n0 n1 n2 n3 n4 n5
      go_upto_region 18 with fail
      have HM4 : Made (((((((w1.setCell ⟨B + 1, 0, none⟩ (.string P0)).setCell ⟨B + 1, 1, none⟩ (.string P1)).setCell ⟨B + 1, 2, none⟩ (.string P2)).setCell ⟨B + 1, 3, none⟩ (.string P3)).setCell ⟨B + 1, 4, none⟩ (.string P4)).setCell ⟨B + 1, 5, none⟩ (.string P5))) (B + 1) #[.string P0, .string P1, .string P2, .string P3, .string P4, .string P5] 77 := (((((hM4.set 0 (.string P0)).set 1 (.string P1)).set 2 (.string P2)).set 3 (.string P3)).set 4 (.string P4)).set 5 (.string P5)
      have HM2 : Made (((((((w1.setCell ⟨B + 1, 0, none⟩ (.string P0)).setCell ⟨B + 1, 1, none⟩ (.string P1)).setCell ⟨B + 1, 2, none⟩ (.string P2)).setCell ⟨B + 1, 3, none⟩ (.string P3)).setCell ⟨B + 1, 4, none⟩ (.string P4)).setCell ⟨B + 1, 5, none⟩ (.string P5))) B #[.string ⟨#[]⟩, .string ⟨#[]⟩, .string ⟨#[]⟩, .string ⟨#[]⟩, .string ⟨#[]⟩, .string ⟨#[]⟩] 77 := (((((hM2.far (by omega) 0 (.string P0)).far (by omega) 1 (.string P1)).far (by omega) 2 (.string P2)).far (by omega) 3 (.string P3)).far (by omega) 4 (.string P4)).far (by omega) 5 (.string P5)
      have HBl : Hid (Below B w (((((((w1.setCell ⟨B + 1, 0, none⟩ (.string P0)).setCell ⟨B + 1, 1, none⟩ (.string P1)).setCell ⟨B + 1, 2, none⟩ (.string P2)).setCell ⟨B + 1, 3, none⟩ (.string P3)).setCell ⟨B + 1, 4, none⟩ (.string P4)).setCell ⟨B + 1, 5, none⟩ (.string P5)))) := belowCells (Nat.le_succ B) [.string P0, .string P1, .string P2, .string P3, .string P4, .string P5] 0 w1 hbel
      clear c0 c1 c2 c3 c4 c5 q0 q1 q2 q3 q4 q5 g0 g1 g2 g3 g4 g5 hM2 hM4 hM6 hbel
      generalize (((((((w1.setCell ⟨B + 1, 0, none⟩ (.string P0)).setCell ⟨B + 1, 1, none⟩ (.string P1)).setCell ⟨B + 1, 2, none⟩ (.string P2)).setCell ⟨B + 1, 3, none⟩ (.string P3)).setCell ⟨B + 1, 4, none⟩ (.string P4)).setCell ⟨B + 1, 5, none⟩ (.string P5))) = W18 at *
      have c0 := HM4.cell 0
      have c1 := HM4.cell 1
      have c2 := HM4.cell 2
      have c3 := HM4.cell 3
      have c4 := HM4.cell 4
      have c5 := HM4.cell 5
      have q0 := HM2.cell 0
      have q1 := HM2.cell 1
      have q2 := HM2.cell 2
      have q3 := HM2.cell 3
      have q4 := HM2.cell 4
      have q5 := HM2.cell 5
      have g0 := HM2.frz 0
      have g1 := HM2.frz 1
      have g2 := HM2.frz 2
      have g3 := HM2.frz 3
      have g4 := HM2.frz 4
      have g5 := HM2.frz 5
      simp only [List.getElem?_toArray, List.getElem?_cons_zero, List.getElem?_cons_succ] at c0 c1 c2 c3 c4 c5 q0 q1 q2 q3 q4 q5
      have HFin : Hid (∀ r : Bool, okR (piecesR signsR s.data.toList) = r → ∀ (a : Act), a.defers = [] → a.tmps.getD 2 undef = .pointer (some ⟨B, 0, none⟩) → a.tmps.getD 3 undef = .bool r → bodyPost Tryz.prog Tryz.f25 (fun e w' => e = .returned (.tuple #[.agg (cells6 (piecesR signsR s.data.toList)).toArray, .bool (okR (piecesR signsR s.data.toList))]) ∧ Below w.heap.size w w') .ret a (((((((W18.setCell ⟨B, 0, none⟩ (.string P0)).setCell ⟨B, 1, none⟩ (.string P1)).setCell ⟨B, 2, none⟩ (.string P2)).setCell ⟨B, 3, none⟩ (.string P3)).setCell ⟨B, 4, none⟩ (.string P4)).setCell ⟨B, 5, none⟩ (.string P5)))) := fun r hr a hd h2 h3 => by
        refine post_cells rfl B [.string P0, .string P1, .string P2, .string P3, .string P4, .string P5] (.bool r) hd h2 h3 Tryz.underlying77 rfl sizeRT (range_puts [.string P0, .string P1, .string P2, .string P3, .string P4, .string P5] (cs := z6) (Nat.le_refl 6) HM2.range) ?_
        refine ⟨by rw [HC6.out, hr], ?_⟩
        rw [HBe.out]
        exact belowCells (Nat.le_refl B) [.string P0, .string P1, .string P2, .string P3, .string P4, .string P5] 0 W18 HBl.out
      clear HBl HC6 HM2 HM4
      cases a0 with
      | false => go_wp2; (refine HFin.out false (HOk.out.trans (by simp)) _ ?_ ?_ ?_ <;> rfl)
      | true =>
      cases a1 with
      | false => go_wp2; (refine HFin.out false (HOk.out.trans (by simp)) _ ?_ ?_ ?_ <;> rfl)
      | true =>
      cases a2 with
      | false => go_wp2; (refine HFin.out false (HOk.out.trans (by simp)) _ ?_ ?_ ?_ <;> rfl)
      | true =>
      cases a3 with
      | false => go_wp2; (refine HFin.out false (HOk.out.trans (by simp)) _ ?_ ?_ ?_ <;> rfl)
      | true =>
      cases a4 with
      | false => go_wp2; (refine HFin.out false (HOk.out.trans (by simp)) _ ?_ ?_ ?_ <;> rfl)
      | true =>
      by_cases h4 : n = 4
      · subst h4
        go_wp2
        (refine HFin.out true (HOk.out.trans (by simp)) _ ?_ ?_ ?_ <;> rfl)
      · have hq4 : ((n : Int) == 4) = false := by rw [beq_eq_false_iff_ne]; omega
        have hq4' : ¬ ((n : Int) = 4) := by omega
        by_cases h5 : n = 5
        · subst h5
          cases a5 with
          | false => go_wp2; (refine HFin.out false (HOk.out.trans (by simp)) _ ?_ ?_ ?_ <;> rfl)
          | true => go_wp2; (refine HFin.out true (HOk.out.trans (by simp)) _ ?_ ?_ ?_ <;> rfl)
        · have hq5 : ((n : Int) == 5) = false := by rw [beq_eq_false_iff_ne]; omega
          have hq5' : ¬ ((n : Int) = 5) := by omega
          have HR : Hid (okR (piecesR signsR s.data.toList) = false) := HOk.out.trans (by simp [h4, h5])
          clear h4 h5
          go_wp2
          (refine HFin.out false HR.out _ ?_ ?_ ?_ <;> rfl)
end Go.Proofs.YtlgodpadcilcaaaGreatDoor
namespace Go.Proofs.YtlgodpadcilcaaaGreatDoor
open Go.ChangeShapes Go.WideShapes Go.ChangeAt Go.RowKit

set_option maxHeartbeats 2000000 in
theorem GetT_any (L : Nat) (rb : Option Nat) (es : List TV) (s : ByteArray) (w : World) (h : OwnT w L rb es) :
    Calls Tryz.prog 76 #[.pointer (some ⟨L, 0, none⟩), .string s] w fun e w' => ((s.data.toList ∉ es.map (·.key) ∧ e = .returned (.tuple #[.pointer none, .bool false])) ∨ ∃ x ∈ es, x.key = s.data.toList ∧ e = .returned (.tuple #[.pointer (some ⟨x.blk, 0, none⟩), .bool true])) ∧ Below w.heap.size w w' := by
  have hF := findT_any L es s w h.list
  have HH : Hid _ := h
  go_enter Tryz.func76, Tryz.ntmps76
  go_wp2_with fail
  refine hF.mono ?_
  clear hF
  rintro e w1 ⟨⟨q, hq, rfl⟩, hb⟩
  have HB : Hid _ := hb
  by_cases hm : s.data.toList ∈ es.map (·.key)
  · rw [decide_eq_true hm]
    obtain ⟨hp, he⟩ := (hq.found h.up).1 hm
    have hpl : q < es.length := by simpa using hp
    rw [List.getElem_map] at he
    have HE : Hid (es[q] ∈ es ∧ es[q].key = s.data.toList) := ⟨List.getElem_mem _, he⟩
    have h1 : OwnT w1 L rb es := h.keep (hb.block L h.lt.1) (fun k hk => hb.block k (h.lt.2 k hk))
    obtain ⟨v, hv, hrow, _⟩ := h1.row
    obtain ⟨g, cap, rfl⟩ : ∃ g cap, v = .slice (some ⟨g, 0, none⟩) es.length cap := by
      rcases hrow.2 with ⟨_, h2⟩ | ⟨g, cap, cur, e, _⟩
      · omega
      · exact ⟨g, cap, e⟩
    have c1 := hrow.cell q hpl 1 (by decide)
    simp only [TV.cells, List.getElem?_cons_zero, List.getElem?_cons_succ] at c1
    have hpi : (q : Int) < (es.length : Int) := by omega
    generalize es[q] = x at *
    generalize es.length = n at *
    clear hrow h1 h hq hm hp he
    go_wp2
    go_ret2
    exact ⟨.inr ⟨x, HE.out.1, HE.out.2, rfl⟩, HB.out⟩
  · rw [decide_eq_false hm]
    have HM : Hid _ := hm
    clear hq hm h
    go_wp2
    go_ret2
    exact ⟨.inl ⟨HM.out, rfl⟩, HB.out⟩

def relC (y : RV) : List Value := [.bool y.set, .int .i64 y.k, .string y.b, .string y.c, .slice y.p y.l y.cp, .int .i64 y.rank, .int .i64 y.line]
def relZ : RV := ⟨[], false, 0, ⟨#[]⟩, ⟨#[]⟩, none, 0, 0, 0, 0⟩
theorem sizeRl : (Tryz.prog.info? 90).map (·.size) = some 7 := by kernel_rfl

set_option maxHeartbeats 4000000 in
theorem GetR_any (L : Nat) (rb : Option Nat) (es : List RV) (s : ByteArray) (w : World) (h : OwnR w L rb es) :
    Calls Tryz.prog 77 #[.pointer (some ⟨L, 0, none⟩), .string s] w fun e w' => ((s.data.toList ∉ es.map (·.key) ∧ e = .returned (.tuple #[.agg (relC relZ).toArray, .bool false])) ∨ ∃ y ∈ es, y.key = s.data.toList ∧ e = .returned (.tuple #[.agg (relC y).toArray, .bool true])) ∧ Below w.heap.size w w' := by
  have hA : Below w.heap.size w (w.alloc (.cells (relC relZ).toArray 90)) := (Below.refl _ _).alloc (Nat.le_refl _) _
  have h0 : OwnR (w.alloc (.cells (relC relZ).toArray 90)) L rb es := h.keep (hA.block L h.lt.1) (fun k hk => hA.block k (h.lt.2 k hk))
  have hM0 : Made (w.alloc (.cells (relC relZ).toArray 90)) w.heap.size (relC relZ).toArray 90 := ⟨heap_alloc_new _ _⟩
  have hF := findR_any L es s _ h0.list
  have HA : Hid _ := hA
  have hLlt := h.lt.1
  have HLg : Hid (∀ k, rb = some k → k < w.heap.size) := h.lt.2
  clear hA h
  go_enter Tryz.func77, Tryz.ntmps77
  go_wp2_with fail
  refine hF.mono ?_
  clear hF
  rintro e w1 ⟨⟨q, hq, rfl⟩, hb⟩
  have HM1 := hM0.below hb
  have hl1 := HM1.lt
  have HB : Hid (Below w.heap.size w w1) := HA.out.trans (hb.mono (by simp))
  have m0 := HM1.cell 0
  have m1 := HM1.cell 1
  have m2 := HM1.cell 2
  have m3 := HM1.cell 3
  have m4 := HM1.cell 4
  have m5 := HM1.cell 5
  have m6 := HM1.cell 6
  have f0 := HM1.frz 0
  have f1 := HM1.frz 1
  have f2 := HM1.frz 2
  have f3 := HM1.frz 3
  have f4 := HM1.frz 4
  have f5 := HM1.frz 5
  have f6 := HM1.frz 6
  simp only [relC, relZ, List.getElem?_toArray, List.getElem?_cons_zero, List.getElem?_cons_succ] at m0 m1 m2 m3 m4 m5 m6
  by_cases hm : s.data.toList ∈ es.map (·.key)
  · rw [decide_eq_true hm]
    obtain ⟨hp, he⟩ := (hq.found h0.up).1 hm
    have hpl : q < es.length := by simpa using hp
    rw [List.getElem_map] at he
    have HE : Hid (es[q] ∈ es ∧ es[q].key = s.data.toList) := ⟨List.getElem_mem _, he⟩
    have h1 : OwnR w1 L rb es := h0.keep (hb.block L h0.lt.1) (fun k hk => hb.block k (h0.lt.2 k hk))
    obtain ⟨v, hv, hrow, hvb⟩ := h1.row
    obtain ⟨g, cap, rfl⟩ : ∃ g cap, v = .slice (some ⟨g, 0, none⟩) es.length cap := by
      rcases hrow.2 with ⟨_, h2⟩ | ⟨g, cap, cur, e, _⟩
      · omega
      · exact ⟨g, cap, e⟩
    have c1 := hrow.cell q hpl 1 (by decide)
    have c2 := hrow.cell q hpl 2 (by decide)
    have c3 := hrow.cell q hpl 3 (by decide)
    have c4 := hrow.cell q hpl 4 (by decide)
    have c5 := hrow.cell q hpl 5 (by decide)
    have c6 := hrow.cell q hpl 6 (by decide)
    have c7 := hrow.cell q hpl 7 (by decide)
    simp only [RV.cells, List.getElem?_cons_zero, List.getElem?_cons_succ] at c1 c2 c3 c4 c5 c6 c7
    have hpi : (q : Int) < (es.length : Int) := by omega
    generalize es[q] = x at *
    generalize es.length = n at *
    obtain ⟨xkey, xset, xk, xb, xc, xp, xl, xcp, xrank, xline⟩ := x
    simp only at c1 c2 c3 c4 c5 c6 c7
    clear hrow h1 h0 hq hm hp he hvb hM0
    go_wp2
    refine post_cells rfl w.heap.size (relC ⟨xkey, xset, xk, xb, xc, xp, xl, xcp, xrank, xline⟩) (.bool true) rfl rfl rfl Tryz.underlying90 rfl sizeRl (range_puts (relC ⟨xkey, xset, xk, xb, xc, xp, xl, xcp, xrank, xline⟩) (cs := relC relZ) (Nat.le_refl 7) HM1.range) ?_
    exact ⟨.inr ⟨⟨xkey, xset, xk, xb, xc, xp, xl, xcp, xrank, xline⟩, HE.out.1, HE.out.2, rfl⟩, belowCells (Nat.le_refl _) (relC ⟨xkey, xset, xk, xb, xc, xp, xl, xcp, xrank, xline⟩) _ _ HB.out⟩
  · rw [decide_eq_false hm]
    have HM : Hid _ := hm
    clear hq hm h0 hM0
    go_wp2
    refine post_cells rfl w.heap.size (relC relZ) (.bool false) rfl rfl rfl Tryz.underlying90 rfl sizeRl (HM1.puts (relC relZ) (Nat.le_refl 7) _) ?_
    exact ⟨.inl ⟨HM.out, rfl⟩, Made.belowPuts HB.out (Nat.le_refl _) (Nat.le_of_lt hl1) (relC relZ) _⟩
end Go.Proofs.YtlgodpadcilcaaaGreatDoor
namespace Go.Proofs.YtlgodpadcilcaaaGreatDoor

/-- the relations, in the order of the places -/
def rlsOf (zs : List Zt) : List Rl := zs.flatMap (·.rs)
theorem places_rls : ∀ (zs : List Zt), (∀ z ∈ zs, z.es.length = z.rs.length) → (placesOf zs).length = (rlsOf zs).length ∧ ∀ a (h : a < (placesOf zs).length) (h' : a < (rlsOf zs).length), ∃ z ∈ zs, ∃ i, ∃ (h1 : i < z.es.length) (h2 : i < z.rs.length), (placesOf zs)[a] = mkPV z z.es[i] ∧ (rlsOf zs)[a] = z.rs[i]
  | [], _ => ⟨rfl, fun a h => by simp [placesOf] at h⟩
  | z :: zs, hl => by
    obtain ⟨ih1, ih2⟩ := places_rls zs (fun y hy => hl y (by simp [hy]))
    have hz := hl z (by simp)
    have e1 : placesOf (z :: zs) = z.es.map (mkPV z) ++ placesOf zs := by simp [placesOf]
    have e2 : rlsOf (z :: zs) = z.rs ++ rlsOf zs := by simp [rlsOf]
    refine ⟨by rw [e1, e2, List.length_append, List.length_append, List.length_map, ih1, hz], fun a h h' => ?_⟩
    simp only [e1, e2] at h h' ⊢
    by_cases ha : a < z.es.length
    · refine ⟨z, by simp, a, ha, by omega, ?_, ?_⟩
      · rw [List.getElem_append_left (by simpa using ha), List.getElem_map]
      · rw [List.getElem_append_left (by omega)]
    · have hm : a - z.es.length < (placesOf zs).length := by simp at h; omega
      obtain ⟨y, hy, i, h1, h2, h3, h4⟩ := ih2 (a - z.es.length) hm (by omega)
      refine ⟨y, by simp [hy], i, h1, h2, ?_, ?_⟩
      · rw [List.getElem_append_right (by simpa using ha), ← h3]
        simp
      · rw [List.getElem_append_right (by omega), ← h4]
        simp [hz]
/-- they are the relations of the lines -/
theorem rls_mem {w : World} {Rd S : Nat} {rbT : Option Nat} {zs : List Zt} {st : List Ty} (h : PRep w Rd S rbT zs st) (r : Rl) : r ∈ rlsOf zs ↔ r ∈ relsOf st := by
  unfold rlsOf
  rw [List.mem_flatMap, mem_relsOf]
  constructor
  · rintro ⟨z, hz, hr⟩
    exact ⟨z.ty, h.perm.mem_iff.1 (List.mem_map.2 ⟨z, hz, rfl⟩), (h.zok z hz).perm.mem_iff.1 hr⟩
  · rintro ⟨ty, hty, hr⟩
    obtain ⟨z, hz, rfl⟩ := List.mem_map.1 (h.perm.mem_iff.2 hty)
    exact ⟨z, hz, (h.zok z hz).perm.mem_iff.2 hr⟩
/-- the entries' names are the relations' -/
theorem keys_rs {M : List Nat} {w : World} {z : Zt} (h : ZOk M w z) : z.es.map (·.key) = z.rs.map (·.nm) := by
  refine List.ext_getElem (by simp [h.len]) (fun i h1 h2 => ?_)
  rw [List.getElem_map, List.getElem_map]
  exact (h.rep i (by simpa using h1) (by simpa using h2)).1
theorem keys_ty {M : List Nat} {w : World} {z : Zt} (h : ZOk M w z) (n : List UInt8) : n ∈ z.es.map (·.key) ↔ n ∈ z.ty.rels.map (·.nm) := by
  rw [keys_rs h]
  exact (h.perm.map _).mem_iff
/-- what knows tells is what the lines say -/
theorem knowZ_B {w : World} {Rd S : Nat} {rbT : Option Nat} {zs : List Zt} {st : List Ty} (h : PRep w Rd S rbT zs st) (hok : StOk st) {z : Zt} (hz : z ∈ zs) {r : Rl} (hr : r ∈ z.rs) (t : Sing) : knowZ zs z t = knowB (relsOf st) r t := by
  have hk := h.zok z hz
  have hty : z.ty ∈ st := h.perm.mem_iff.1 (List.mem_map.2 ⟨z, hz, rfl⟩)
  have hrt : r.ty = z.ty.nm := (hok.rels z.ty hty).2.2 r (hk.perm.mem_iff.1 hr)
  have hown : ∀ n, decide (n ∈ z.es.map (·.key)) = (relsOf st).any (fun q => (q.ty == r.ty) && (q.nm == n)) := fun n => by
    rw [hrt, own_any hok hty, decide_eq_decide]
    exact keys_ty hk n
  have hsome : ∀ n, decide (∃ y ∈ zs, n ∈ y.es.map (·.key)) = (relsOf st).any (fun q => q.nm == n) := fun n => by
    rw [some_any, decide_eq_decide]
    constructor
    · rintro ⟨y, hy, hn⟩
      exact ⟨y.ty, h.perm.mem_iff.1 (List.mem_map.2 ⟨y, hy, rfl⟩), (keys_ty (h.zok y hy) n).1 hn⟩
    · rintro ⟨ty, hty, hn⟩
      obtain ⟨y, hy, rfl⟩ := List.mem_map.1 (h.perm.mem_iff.2 hty)
      exact ⟨y, hy, (keys_ty (h.zok y hy) n).2 hn⟩
  cases t using Sing.kind with
  | self => rfl
  | name n => simp only [knowZ, knowB]; exact hown n
  | via v t => simp only [knowZ, knowB]; rw [hown v, hsome t]
theorem uR_congr {K J : Rl → Sing → Bool} : ∀ (rs : List Rl) (f : Nat), (∀ r ∈ rs, ∀ t, K r t = J r t) → uR K f rs = uR J f rs
  | [], f, _ => rfl
  | r :: rs, f, h => by
    have h1 : K r = J r := funext (h r (by simp))
    have h2 := uR_congr rs (uT (J r) r.line f (r.ex.flat false)) (fun q hq => h q (by simp [hq]))
    unfold uR at h2 ⊢
    rw [List.foldl_cons, List.foldl_cons, h1]
    exact h2
/-- what firstUnknown tells is the line of the first -/
theorem fuZ_eq {w : World} {Rd S : Nat} {rbT : Option Nat} {zs : List Zt} {st : List Ty} (h : PRep w Rd S rbT zs st) (hok : StOk st) {N nn : Nat} (hln : StLn N st nn) : fuZ zs nn zs = match (relsOf st).find? (unkR (knowB (relsOf st))) with | some r => r.line | none => nn := by
  have key : ∀ (l : List Zt) (f : Nat), (∀ z ∈ l, z ∈ zs) → l.foldl (fun f z => uR (fun _ => knowZ zs z) f z.rs) f = uR (knowB (relsOf st)) f (rlsOf l) := by
    intro l
    induction l with
    | nil => intro f _; rfl
    | cons z l ih =>
      intro f hm
      have e : rlsOf (z :: l) = z.rs ++ rlsOf l := by simp [rlsOf]
      rw [List.foldl_cons, ih _ (fun y hy => hm y (by simp [hy])), e, uR_append]
      congr 1
      exact uR_congr z.rs f (fun r hr t => knowZ_B h hok (hm z (by simp)) hr t)
  unfold fuZ
  rw [key zs nn (fun z hz => hz)]
  exact uR_first _ (relsOf st) (rlsOf zs) nn (rls_mem h) hln.rise hln.lt
end Go.Proofs.YtlgodpadcilcaaaGreatDoor
namespace Go.Proofs.YtlgodpadcilcaaaGreatDoor

theorem leadsV_B {w : World} {Rd S : Nat} {rbT : Option Nat} {zs : List Zt} {st : List Ty} (h : PRep w Rd S rbT zs st) (hok : StOk st) (a b : Nat) (ha : a < (placesOf zs).length) (hb : b < (placesOf zs).length) (ha' : a < (rlsOf zs).length) (hb' : b < (rlsOf zs).length) (t : Sing) :
    leadsV t (placesOf zs)[a] (placesOf zs)[b] = leadsB t (rlsOf zs)[a] (rlsOf zs)[b] := by
  obtain ⟨_, hp⟩ := places_rls zs (fun z hz => (h.zok z hz).len)
  have one : ∀ c (hc : c < (placesOf zs).length) (hc' : c < (rlsOf zs).length), (placesOf zs)[c].ty = (rlsOf zs)[c].ty ∧ (placesOf zs)[c].nm = (rlsOf zs)[c].nm ∧ (placesOf zs)[c].set = (rlsOf zs)[c].set := fun c hc hc' => by
    obtain ⟨z, hz, i, h1, h2, e1, e2⟩ := hp c hc hc'
    have hk := h.zok z hz
    have hty : z.ty ∈ st := h.perm.mem_iff.1 (List.mem_map.2 ⟨z, hz, rfl⟩)
    obtain ⟨r1, r2, r3, r4⟩ := hk.rep i h1 h2
    rw [e1, e2]
    refine ⟨?_, r1, r2⟩
    show z.tv.key = _
    rw [hk.key]
    exact ((hok.rels z.ty hty).2.2 _ (hk.perm.mem_iff.1 (List.getElem_mem h2))).symm
  obtain ⟨x1, x2, x3⟩ := one a ha ha'
  obtain ⟨y1, y2, y3⟩ := one b hb hb'
  cases t using Sing.kind with
  | self => simp only [leadsV, leadsB]; exact y3
  | name n => simp only [leadsV, leadsB]; rw [x1, y1, y2]
  | via v t => simp only [leadsV, leadsB]; rw [y2]

/-- the tables of the program, by relations -/
theorem tabs_at {w : World} {Rd S : Nat} {rbT : Option Nat} {zs : List Zt} {st : List Ty} (h : PRep w Rd S rbT zs st) (hok : StOk st) (a b : Nat) :
    (tabX (placesOf zs) ((rlsOf zs).map (·.ex)) (placesOf zs).length a b = true ↔ ∃ x y, (rlsOf zs)[a]? = some x ∧ (rlsOf zs)[b]? = some y ∧ hangB x y = true) ∧
    (tabY (placesOf zs) ((rlsOf zs).map (·.ex)) (placesOf zs).length a b = true ↔ ∃ x y, (rlsOf zs)[a]? = some x ∧ (rlsOf zs)[b]? = some y ∧ agB x y = true) := by
  obtain ⟨hl, _⟩ := places_rls zs (fun z hz => (h.zok z hz).len)
  by_cases ha : a < (placesOf zs).length
  · have ha' : a < (rlsOf zs).length := by omega
    by_cases hb : b < (placesOf zs).length
    · have hb' : b < (rlsOf zs).length := by omega
      have hld : ∀ t, ldV (placesOf zs) (placesOf zs)[a] t b = leadsB t (rlsOf zs)[a] (rlsOf zs)[b] := fun t => by
        rw [← leadsV_B h hok a b ha hb ha' hb' t]
        simp [ldV, List.getElem?_eq_getElem hb]
      have e1 : tabX (placesOf zs) ((rlsOf zs).map (·.ex)) (placesOf zs).length a b = hangB (rlsOf zs)[a] (rlsOf zs)[b] := by
        unfold tabX hangB
        rw [List.getElem?_eq_getElem ha, List.getElem?_map, List.getElem?_eq_getElem ha', decide_eq_true ha]
        simp only [Option.map_some, Bool.true_and, hld]
      have e2 : tabY (placesOf zs) ((rlsOf zs).map (·.ex)) (placesOf zs).length a b = agB (rlsOf zs)[a] (rlsOf zs)[b] := by
        unfold tabY agB
        rw [List.getElem?_eq_getElem ha, List.getElem?_map, List.getElem?_eq_getElem ha', decide_eq_true ha]
        simp only [Option.map_some, Bool.true_and, hld]
      rw [e1, e2, List.getElem?_eq_getElem ha', List.getElem?_eq_getElem hb']
      exact ⟨⟨fun hh => ⟨_, _, rfl, rfl, hh⟩, fun ⟨x, y, h1, h2, h3⟩ => by cases h1; cases h2; exact h3⟩, ⟨fun hh => ⟨_, _, rfl, rfl, hh⟩, fun ⟨x, y, h1, h2, h3⟩ => by cases h1; cases h2; exact h3⟩⟩
    · have hn : (placesOf zs)[b]? = none := List.getElem?_eq_none (by omega)
      have hn' : (rlsOf zs)[b]? = none := List.getElem?_eq_none (by omega)
      have hld : ∀ x t, ldV (placesOf zs) x t b = false := fun x t => by simp [ldV, hn]
      have e1 : tabX (placesOf zs) ((rlsOf zs).map (·.ex)) (placesOf zs).length a b = false := by
        unfold tabX
        rw [List.getElem?_eq_getElem ha, List.getElem?_map, List.getElem?_eq_getElem ha']
        simp [hld]
      have e2 : tabY (placesOf zs) ((rlsOf zs).map (·.ex)) (placesOf zs).length a b = false := by
        unfold tabY
        rw [List.getElem?_eq_getElem ha, List.getElem?_map, List.getElem?_eq_getElem ha']
        simp [hld]
      rw [e1, e2, hn']
      simp
  · have hn' : (rlsOf zs)[a]? = none := List.getElem?_eq_none (by omega)
    have e1 : tabX (placesOf zs) ((rlsOf zs).map (·.ex)) (placesOf zs).length a b = false := by unfold tabX; rw [decide_eq_false ha]; rfl
    have e2 : tabY (placesOf zs) ((rlsOf zs).map (·.ex)) (placesOf zs).length a b = false := by unfold tabY; rw [decide_eq_false ha]; rfl
    rw [e1, e2, hn']
    simp
theorem tab_fw {w : World} {Rd S : Nat} {rbT : Option Nat} {zs : List Zt} {st : List Ty} (h : PRep w Rd S rbT zs st) (hok : StOk st) : Fw (InM (rlsOf zs)) 36 0 (tabX (placesOf zs) ((rlsOf zs).map (·.ex)) (placesOf zs).length) :=
  ⟨fun a b _ _ hx => .single ((tabs_at h hok a b).1.1 hx), fun a b _ _ hw => (tabs_at h hok a b).1.2 hw.zero⟩
theorem rls_len {w : World} {Rd S : Nat} {rbT : Option Nat} {zs : List Zt} {st : List Ty} (h : PRep w Rd S rbT zs st) (hok : StOk st) : (rlsOf zs).length ≤ 36 := by
  have h1 : ∀ l : List Zt, (∀ z ∈ l, z ∈ zs) → (rlsOf l).length ≤ 6 * l.length := by
    intro l
    induction l with
    | nil => intro _; simp [rlsOf]
    | cons z l ih =>
      intro hm
      have h2 := ih (fun y hy => hm y (by simp [hy]))
      have hz := hm z (by simp)
      have h3 := (h.zok z hz).perm.length_eq
      have h4 := (hok.rels z.ty (h.perm.mem_iff.1 (List.mem_map.2 ⟨z, hz, rfl⟩))).1
      simp only [rlsOf, List.flatMap_cons, List.length_append, List.length_cons] at h2 ⊢
      omega
  have h2 := h1 zs (fun z hz => hz)
  have h3 := h.length
  have h4 := hok.few
  omega
/-- what leadBack tells of the closed table -/
theorem lb_ring {w : World} {Rd S : Nat} {rbT : Option Nat} {zs : List Zt} {st : List Ty} (h : PRep w Rd S rbT zs st) (hok : StOk st) {X : Nat → Nat → Bool} (hF : Fw (InM (rlsOf zs)) 36 36 X) :
    (∃ i, i < 36 ∧ ∃ j, j < 36 ∧ tabY (placesOf zs) ((rlsOf zs).map (·.ex)) (placesOf zs).length i j = true ∧ X j i = true) ↔ ringP (relsOf st) := by
  rw [← ringP_congr (rls_mem h), ← ring_table (rls_len h hok) hF]
  have hl := rls_len h hok
  constructor
  · rintro ⟨a, _, b, _, h1, h2⟩
    obtain ⟨x, y, hx, hy, hg⟩ := (tabs_at h hok a b).2.1 h1
    exact ⟨a, b, x, y, hx, hy, hg, h2⟩
  · rintro ⟨a, b, x, y, hx, hy, hg, h2⟩
    have h3 := (List.getElem?_eq_some_iff.1 hx).1
    have h4 := (List.getElem?_eq_some_iff.1 hy).1
    exact ⟨a, by omega, b, by omega, (tabs_at h hok a b).2.2 ⟨x, y, hx, hy, hg⟩, h2⟩
end Go.Proofs.YtlgodpadcilcaaaGreatDoor
namespace Go.Proofs.YtlgodpadcilcaaaGreatDoor
open Go.ChangeShapes Go.WideShapes Go.ChangeAt Go.RowKit Go.Shelf

theorem owns_base {w : World} {B t sz n : Nat} {v : Value} {xs : List Value} (h : w.ownsRow B t sz v n xs) : w.ownsRow 0 t sz v n xs := by
  refine ⟨h.1, ?_⟩
  rcases h.2 with h0 | ⟨g, cap, cur, e, h4, h5⟩
  · exact .inl h0
  · exact .inr ⟨g, cap, cur, e, Nat.zero_le _, h5⟩
theorem owns_keep {w w' : World} {B t sz n : Nat} {v : Value} {xs : List Value} (h : w.ownsRow B t sz v n xs) (hb : ∀ g, v.ownBlock = some g → w'.heap[g]? = w.heap[g]?) : w'.ownsRow B t sz v n xs := by
  refine ⟨h.1, ?_⟩
  rcases h.2 with h0 | ⟨g, cap, cur, rfl, h4, h5, h6⟩
  · exact .inl h0
  · exact .inr ⟨g, cap, cur, rfl, h4, by rw [hb g rfl]; exact h5, h6⟩
theorem TabC.mat {w : World} {b : Nat} {c : Array Value} {X : Nat → Nat → Bool} (h : w.heap[b]? = some (.cells c 104)) (hT : TabC c X) : Mat w b X :=
  ⟨fun i j hi hj => by
    have e : w.cell? ⟨b, i * 36 + j, none⟩ = c[i * 36 + j]? := by simp [World.cell?, h]
    rw [e]; exact hT.2 i j hi hj, fun k => by simp [World.frozen?, h], c, h, hT.1⟩
theorem TabC.one {c : Array Value} {X : Nat → Nat → Bool} (h : TabC c X) : c.all (·.oneCell') = true := by
  rw [Array.all_eq_true]
  intro i hi
  obtain ⟨b, hb⟩ := h.bool c[i] (by simp)
  rw [hb]; rfl
theorem zero_there {w : World} {b : Nat} (h : w.heap[b]? = some (.cells Tryz.zeroCells104 104)) : w.there b 0 1296 := fun j hj => by
  have hs := zeroArr_size
  generalize Tryz.zeroCells104 = c at *
  rw [Nat.zero_add]
  have e : w.cell? ⟨b, j, none⟩ = c[j]? := by simp [World.cell?, h]
  exact ⟨by rw [e, Array.getElem?_eq_getElem (by omega)]; rfl, by simp [World.frozen?, h]⟩

theorem Mat.ofCells {w : World} {b : Nat} {c : Array Value} {X : Nat → Nat → Bool} (hT : TabC c X) (hb : ∃ c', w.heap[b]? = some (.cells c' 104) ∧ c'.size = 1296) (hr : w.rangeAt b 0 c.toList) : Mat w b X := by
  obtain ⟨c', h1, h2⟩ := hb
  refine ⟨fun i j hi hj => ?_, fun k => by simp [World.frozen?, h1], c', h1, h2⟩
  have := hr (i * 36 + j) (.bool (X i j)) (by simpa using hT.2 i j hi hj)
  rw [Nat.zero_add] at this
  exact this
/-- two tables laid into two new blocks -/
theorem two_tabs {w W : World} {c1 c2 : Array Value} {X A : Nat → Nat → Bool} (hW : (w.alloc (.cells Tryz.zeroCells104 104)).alloc (.cells Tryz.zeroCells104 104) = W) (hT1 : TabC c1 X) (hT2 : TabC c2 A) :
    W.there w.heap.size 0 c1.size ∧ (W.setCells w.heap.size 0 c1.toList).there (w.heap.size + 1) 0 c2.size ∧ Mat ((W.setCells w.heap.size 0 c1.toList).setCells (w.heap.size + 1) 0 c2.toList) w.heap.size X ∧ ((W.setCells w.heap.size 0 c1.toList).setCells (w.heap.size + 1) 0 c2.toList).rangeAt (w.heap.size + 1) 0 c2.toList ∧
      Below w.heap.size w ((W.setCells w.heap.size 0 c1.toList).setCells (w.heap.size + 1) 0 c2.toList) ∧ ((W.setCells w.heap.size 0 c1.toList).setCells (w.heap.size + 1) 0 c2.toList).heap.size = w.heap.size + 2 := by
  have hb : Below w.heap.size w W := by rw [← hW]; exact ((Below.refl _ _).alloc (Nat.le_refl _) _).alloc (by simp) _
  have k1 : W.heap[w.heap.size]? = some (.cells Tryz.zeroCells104 104) := by rw [← hW, Below.heap_alloc _ _ _ (by simp)]; exact heap_alloc_new w _
  have k2 : W.heap[w.heap.size + 1]? = some (.cells Tryz.zeroCells104 104) := by
    rw [← hW]
    have := heap_alloc_new (w.alloc (.cells Tryz.zeroCells104 104)) (.cells Tryz.zeroCells104 104)
    simpa using this
  have ks : W.heap.size = w.heap.size + 2 := by rw [← hW]; simp
  have t1 := zero_there k1
  have t2 := zero_there k2
  have z := zeroArr_size
  generalize Tryz.zeroCells104 = zc at *
  have s1 : c1.toList.length = 1296 := by simpa using hT1.1
  have s2 : c2.toList.length = 1296 := by simpa using hT2.1
  have t2' : (W.setCells w.heap.size 0 c1.toList).there (w.heap.size + 1) 0 1296 := World.there_setCells t2 _ _ _
  have r1 : (W.setCells w.heap.size 0 c1.toList).rangeAt w.heap.size 0 c1.toList := World.rangeAt_setCells_same _ _ _ _ (by rw [s1]; exact t1)
  obtain ⟨d1, e1, e2⟩ := setCells_blk c1.toList 0 W zc k1
  have e3 : ((W.setCells w.heap.size 0 c1.toList).setCells (w.heap.size + 1) 0 c2.toList).heap[w.heap.size]? = some (.cells d1 104) := by rw [setCells_far (by omega)]; exact e1
  refine ⟨by rw [hT1.1]; exact t1, by rw [hT2.1]; exact t2', Mat.ofCells hT1 ⟨d1, e3, by rw [e2]; exact z⟩ (World.rangeAt_setCells_apart r1 _ _ _ (by omega)), World.rangeAt_setCells_same _ _ _ _ (by rw [s2]; exact t2'), belowCells (by omega) _ _ _ (belowCells (Nat.le_refl _) _ _ _ hb), by rw [setCells_size, setCells_size, ks]⟩

theorem flat_apart : ∀ (zs : List Zt), (zs.flatMap Zt.blocks).Nodup → ∀ z ∈ zs, ∀ y ∈ zs, ∀ g, g ∈ z.blocks → g ∈ y.blocks → z = y
  | [], _, z, hz => by cases hz
  | x :: zs, h, z, hz => fun y hy g h1 h2 => by
    rw [List.flatMap_cons, List.nodup_append] at h
    rcases List.mem_cons.1 hz with e1 | z1
    · rcases List.mem_cons.1 hy with e2 | y1
      · rw [e1, e2]
      · rw [e1] at h1
        exact absurd rfl (h.2.2 g h1 g (List.mem_flatMap.2 ⟨y, y1, h2⟩))
    · rcases List.mem_cons.1 hy with e2 | y1
      · rw [e2] at h2
        exact absurd rfl (h.2.2 g h2 g (List.mem_flatMap.2 ⟨z, z1, h1⟩))
      · exact flat_apart zs h.2.1 z z1 y y1 g h1 h2
/-- what the loop of rank keeps -/
structure RkI (w : World) (Rd S : Nat) (rbT : Option Nat) (zs : List Zt) (g cap B1 : Nat) (ps : List PV) (Y : Nat → Nat → Bool) (wr : World) : Prop where
  zl : ∀ z ∈ zs, ∃ es', OwnR wr z.tv.blk z.rb es' ∧ es'.map kst = z.es.map kst
  tl : OwnT wr S rbT (zs.map (·.tv))
  row : wr.ownsRow 0 109 10 (.slice (some ⟨g, 0, none⟩) ps.length cap) ps.length (ps.map PV.cells).flatten
  mat : Mat wr B1 Y
  rd : wr.heap[Rd]? = w.heap[Rd]?
  rl : Rd < wr.heap.size
  but : ButM (allBlocks Rd S rbT zs) w wr
theorem RkI.below {w : World} {Rd S : Nat} {rbT : Option Nat} {zs : List Zt} {g cap B1 : Nat} {ps : List PV} {Y : Nat → Nat → Bool} {wr w' : World} (h : RkI w Rd S rbT zs g cap B1 ps Y wr) (hb : Below wr.heap.size wr w') : RkI w Rd S rbT zs g cap B1 ps Y w' :=
  ⟨fun z hz => by
    obtain ⟨es', h1, h2⟩ := h.zl z hz
    exact ⟨es', h1.keep (hb.block _ h1.lt.1) (fun k hk => hb.block k (h1.lt.2 k hk)), h2⟩, h.tl.keep (hb.block _ h.tl.lt.1) (fun k hk => hb.block k (h.tl.lt.2 k hk)), owns_keep h.row (fun k hk => by cases hk; exact hb.block _ (h.row.lt _ rfl).2), h.mat.below hb, (hb.block Rd h.rl).trans h.rd, Nat.lt_of_lt_of_le h.rl hb.size, h.but.trans (ButM.of_below hb)⟩
theorem RkI.put {w : World} {Rd S : Nat} {rbT : Option Nat} {zs : List Zt} {st : List Ty} {g cap B1 : Nat} {ps : List PV} {Y : Nat → Nat → Bool} {wr w' : World} (hp : PRep w Rd S rbT zs st) (h : RkI w Rd S rbT zs g cap B1 ps Y wr) {z : Zt} (hz : z ∈ zs) (hb : ButM z.rb.toList wr w') {es' : List RV} (ho : OwnR w' z.tv.blk z.rb es') (hk : es'.map kst = z.es.map kst) (hg : w.heap.size ≤ g) (hB : w.heap.size ≤ B1) : RkI w Rd S rbT zs g cap B1 ps Y w' := by
  have hnd : (zs.flatMap Zt.blocks).Nodup := by
    have := hp.nodup
    unfold allBlocks at this
    rw [List.nodup_cons, List.nodup_cons, List.nodup_append] at this
    exact this.2.2.2.1
  obtain ⟨_, _, _, a4⟩ := blocks_apart hp.nodup
  have hrb : ∀ k, k ∈ z.rb.toList → k ∈ z.blocks ∧ k < w.heap.size := fun k hk => by
    have hm : k ∈ z.blocks := List.mem_cons_of_mem _ hk
    exact ⟨hm, hp.lt k (mem_blocks_R hz hm)⟩
  have htl := h.tl.lt
  have hrl := (h.row.lt g rfl).2
  have hml := h.mat.lt
  refine ⟨fun y hy => ?_, h.tl.keep (hb.block _ htl.1 (fun hm => (a4 z hz _ (hrb _ hm).1).2.1 rfl)) (fun k hk => hb.block k (htl.2 k hk) (fun hm => (a4 z hz _ (hrb _ hm).1).2.2 hk)), owns_keep h.row (fun k hk => by cases hk; exact hb.block g hrl (fun hm => by have := (hrb _ hm).2; omega)), h.mat.same (hb.block B1 hml (fun hm => by have := (hrb _ hm).2; omega)), (hb.block Rd h.rl (fun hm => (a4 z hz _ (hrb _ hm).1).1 rfl)).trans h.rd, Nat.lt_of_lt_of_le h.rl hb.size, h.but.trans (hb.sub (fun g hg => .inl (mem_blocks_R hz (hrb g hg).1)))⟩
  by_cases e : y = z
  · subst e; exact ⟨es', ho, hk⟩
  · obtain ⟨es2, h1, h2⟩ := h.zl y hy
    have hno : ∀ k ∈ y.blocks, k ∉ z.rb.toList := fun k hk hm => e (flat_apart zs hnd y hy z hz k hk (hrb k hm).1)
    exact ⟨es2, h1.keep (hb.block _ h1.lt.1 (hno _ (by simp [Zt.blocks]))) (fun k hk => hb.block k (h1.lt.2 k hk) (hno k (by simp [Zt.blocks, hk]))), h2⟩

set_option maxRecDepth 100000 in
set_option maxHeartbeats 8000000 in
theorem rank_any (Rd S : Nat) (rbT : Option Nat) (zs : List Zt) (st : List Ty) (w : World) (h : PRep w Rd S rbT zs st) (hok : StOk st) (hsz : ∀ r ∈ rlsOf zs, r.ex.sz ≤ 1000000) :
    Calls Tryz.prog 15 #[.pointer (some ⟨S, 0, none⟩)] w fun e w' => ∃ q : Bool, e = .returned (.bool q) ∧ (q = true ↔ ¬ ringP (relsOf st)) ∧ (q = true → OwnT w' S rbT (zs.map (·.tv)) ∧ w'.heap[Rd]? = w.heap[Rd]? ∧ ∀ z ∈ zs, ∃ es', OwnR w' z.tv.blk z.rb es' ∧ es'.map kst = z.es.map kst) ∧ ButM (allBlocks Rd S rbT zs) w w' := by
  have hX := places_any Rd S rbT zs st w h
  have HH : Hid (∀ v w1, w1.ownsRow w.heap.size 109 10 v (placesOf zs).length ((placesOf zs).map PV.cells).flatten → Below w.heap.size w w1 →
      Calls Tryz.prog 39 #[v] w1 fun e w' => ∃ c1 c2, e = .returned (.tuple #[.agg c1, .agg c2]) ∧ TabC c1 (tabX (placesOf zs) ((rlsOf zs).map (·.ex)) (placesOf zs).length) ∧ TabC c2 (tabY (placesOf zs) ((rlsOf zs).map (·.ex)) (placesOf zs).length) ∧ Below w1.heap.size w1 w') := fun v w1 hr hb => by
    obtain ⟨hl, hp⟩ := places_rls zs (fun z hz => (h.zok z hz).len)
    have hlen := rls_len h hok
    refine hanging_any v (placesOf zs) ((rlsOf zs).map (·.ex)) w1 (owns_base hr) (by omega) (by simp [hl]) (fun a ha ha' => ?_)
    rw [List.getElem_map]
    have ha2 : a < (rlsOf zs).length := by omega
    obtain ⟨z, hz, i, h1, h2, e1, e2⟩ := hp a ha ha2
    refine ⟨hsz _ (List.getElem_mem _), ?_⟩
    rw [e1, e2]
    obtain ⟨_, _, _, r4⟩ := (h.zok z hz).rep i h1 h2
    exact r4.mono (fun g hg => by have := hb.size; omega) (fun g hg => hb.block g hg.1)
  have HP : Hid _ := h
  clear h
  go_enter Tryz.func15, Tryz.ntmps15
  go_wp2_with fail
  refine hX.mono ?_
  clear hX
  rintro e w1 ⟨v, rfl, hrow, hb1⟩
  have hH := HH.out v w1 hrow hb1
  go_wp2_with fail
  refine hH.mono ?_
  clear hH
  rintro e w2 ⟨c1, c2, rfl, hT1, hT2, hb2⟩
  obtain ⟨W3, hW3⟩ : ∃ W3, (w2.alloc (.cells Tryz.zeroCells104 104)).alloc (.cells Tryz.zeroCells104 104) = W3 := ⟨_, rfl⟩
  obtain ⟨th1, th2, hM5, hr5, hb5, hs5⟩ := two_tabs hW3 hT1 hT2
  have z1 : (Tryz.prog.info? 104).map (·.size) = some c1.size := by rw [sizeArr, hT1.1]
  have z2 : (Tryz.prog.info? 104).map (·.size) = some c2.size := by rw [sizeArr, hT2.1]
  have o1 := hT1.one
  have o2 := hT2.one
  have H : Hid (W3.there w2.heap.size 0 c1.size ∧ (W3.setCells w2.heap.size 0 c1.toList).there (w2.heap.size + 1) 0 c2.size ∧ (Tryz.prog.info? 104).map (·.size) = some c1.size ∧ (Tryz.prog.info? 104).map (·.size) = some c2.size ∧ c1.all (·.oneCell') = true ∧ c2.all (·.oneCell') = true) := ⟨th1, th2, z1, z2, o1, o2⟩
  have HW3 : Hid _ := hW3
  have HT1 : Hid _ := hT1
  have HT2 : Hid _ := hT2
  have HC := close_any (InM (rlsOf zs)) w2.heap.size _ _ hM5 (tab_fw HP.out hok)
  clear th1 th2 z1 z2 o1 o2 hW3 hT1 hT2
  go_wp2_with (first | (refine wpList_store_mid rfl 104 (.tmp 4) (.tmp 13) rfl w2.heap.size 0 c1 rfl rfl (by rw [HW3.out]; exact H.out.1) H.out.2.2.1 H.out.2.2.2.2.1 ?_) | (refine wpList_store_mid rfl 104 (.tmp 5) (.tmp 14) rfl (w2.heap.size + 1) 0 c2 rfl rfl (by rw [HW3.out]; exact H.out.2.1) H.out.2.2.2.1 H.out.2.2.2.2.2 ?_))
  rw [HW3.out]
  refine HC.mono ?_
  clear HC
  rintro e w6 ⟨⟨v6, rfl⟩, ⟨Y, hMY, hFY⟩, hbut6, hs6⟩
  have hr6 : w6.rangeAt (w2.heap.size + 1) 0 c2.toList := fun j u hu => by
    have hk6 := hbut6.block (w2.heap.size + 1) (by omega) (by omega)
    rw [World.cell?_of_block (w := (W3.setCells w2.heap.size 0 c1.toList).setCells (w2.heap.size + 1) 0 c2.toList) (a := ⟨w2.heap.size + 1, 0 + j, none⟩) hk6]
    exact hr5 j u hu
  have hLB : Calls Tryz.prog 41 #[.pointer (some ⟨w2.heap.size, 0, none⟩), .agg c2.toList.toArray] w6 fun e w' => LbAns (tabY (placesOf zs) ((rlsOf zs).map (·.ex)) (placesOf zs).length) Y e ∧ Below w6.heap.size w6 w' := by
    rw [Array.toArray_toList]
    exact leadBack_any w2.heap.size c2 Y _ w6 hMY HT2.out
  have z2 : (Tryz.prog.info? 104).map (·.size) = some c2.toList.length := by rw [sizeArr]; simpa using HT2.out.1.symm
  have HR6 : Hid _ := hr6
  have HZ2 : Hid _ := z2
  have HMY : Hid _ := hMY
  have HFY : Hid _ := hFY
  have hb6 : Below w.heap.size w w6 := by
    have h1 : Below w.heap.size w w2 := hb1.trans (hb2.mono hb1.size)
    have hs1 := h1.size
    have h2 := h1.trans (hb5.mono hs1)
    exact h2.trans ⟨hbut6.os, hbut6.tape, hbut6.output, hbut6.size, fun k hk => hbut6.block k (by omega) (by omega)⟩
  have hb26 : Below w2.heap.size w2 w6 := hb5.trans ⟨hbut6.os, hbut6.tape, hbut6.output, hbut6.size, fun k hk => hbut6.block k (by omega) (by omega)⟩
  clear hr6 z2 hMY hFY hbut6 hr5 hb5 hM5
  go_wp2_with (refine wpList_load_mid rfl 104 (.tmp 5) rfl (w2.heap.size + 1) 0 rfl c2.toList _ HR6.out Tryz.underlying104 rfl HZ2.out ?_)
  refine hLB.mono ?_
  clear hLB
  rintro e w7 ⟨⟨q, rfl, hq⟩, hb7⟩
  have hring : q = true ↔ ringP (relsOf st) := hq.trans (lb_ring HP.out hok HFY.out)
  have HRing : Hid _ := hring
  clear hq hring
  cases q with
  | true =>
    have HA : Hid (ringP (relsOf st)) := HRing.out.1 rfl
    have HBw : Hid (Below w.heap.size w w7) := hb6.trans (hb7.mono hb6.size)
    go_wp2
    go_ret
    exact ⟨false, rfl, ⟨fun h => (by cases h), fun h => absurd HA.out h⟩, fun h => (by cases h), ⟨HBw.out.os, HBw.out.tape, HBw.out.output, HBw.out.size, fun k hk _ => HBw.out.block k hk⟩⟩
  | false =>
    have HA : Hid (¬ ringP (relsOf st)) := fun h => by have := HRing.out.2 h; cases this
    have hb67 : Below w.heap.size w w7 := hb6.trans (hb7.mono hb6.size)
    have hpr7 := HP.out.below hb67
    have hTl7 : OwnT w7 S rbT (zs.map (·.tv)) := hpr7.own
    have hb17 : Below w1.heap.size w1 w7 := hb2.trans ((hb26.trans (hb7.mono hb26.size)).mono hb2.size)
    obtain ⟨va, vc, rfl, hform⟩ : ∃ a c, v = .slice a (placesOf zs).length c ∧ ∀ q, a = some q → ∃ g, q = ⟨g, 0, none⟩ := by
      rcases hrow.2 with ⟨e, h0⟩ | ⟨g, cap', cur, e, _⟩
      · rw [h0]; exact ⟨_, _, e, fun q hq => by cases hq⟩
      · exact ⟨_, _, e, fun q hq => by cases hq; exact ⟨g, rfl⟩⟩
    have hnil : va = none → (placesOf zs).length = 0 := fun e => by
      rcases hrow.2 with ⟨_, h0⟩ | ⟨g, cap', cur, e2, _⟩
      · exact h0
      · rw [e] at e2; cases e2
    have HRow : Hid _ := hrow
    have hlen := rls_len HP.out hok
    obtain ⟨hpl, hpp⟩ := places_rls zs (fun z hz => (HP.out.zok z hz).len)
    have HPP : Hid _ := hpp
    obtain ⟨n, hn⟩ : ∃ n, (placesOf zs).length = n := ⟨_, rfl⟩
    have HN : Hid ((placesOf zs).length = n) := hn
    have hn36 : n ≤ 36 := by omega
    have HI0 : Hid (∀ g, va = some ⟨g, 0, none⟩ → RkI w Rd S rbT zs g vc w2.heap.size (placesOf zs) Y w7) := fun g hg => by
      subst hg
      refine ⟨fun z hz => ⟨z.es, (hpr7.zok z hz).own, rfl⟩, hTl7, owns_keep (owns_base HRow.out) (fun k hk => hb17.block k (World.ownsRow.lt HRow.out k hk).2), HMY.out.below hb7, hb67.block Rd (HP.out.lt Rd mem_Rd), hpr7.lt Rd mem_Rd, ButM.of_below hb67⟩
    have HGe : Hid (∀ g, va = some ⟨g, 0, none⟩ → w.heap.size ≤ g) := fun g hg => by subst hg; exact (World.ownsRow.lt HRow.out g rfl).1
    have HB2 : Hid (w.heap.size ≤ w2.heap.size) := by show _ ≤ _; have := hb1.size; have := hb2.size; omega
    have HTl7 : Hid _ := hTl7
    have HZl : Hid (∀ z ∈ zs, ∃ es', OwnR w7 z.tv.blk z.rb es' ∧ es'.map kst = z.es.map kst) := fun z hz => ⟨z.es, (hpr7.zok z hz).own, rfl⟩
    have HRd : Hid (w7.heap[Rd]? = w.heap[Rd]?) := hb67.block Rd (HP.out.lt Rd mem_Rd)
    have HBw : Hid (ButM (allBlocks Rd S rbT zs) w w7) := ButM.of_below hb67
    rw [hn] at hnil ⊢
    clear hn hpp hrow hb6 hb26 hb17 hb1 hb2 hTl7 hpr7 HRing hb67 HH hb7
    go_wp2
    go_loopw [20] (fun s20 wr => ∃ i : Nat, i ≤ n ∧ s20 = .int .i64 (i : Int) ∧ Hid ((∀ g, va = some ⟨g, 0, none⟩ → RkI w Rd S rbT zs g vc w2.heap.size (placesOf zs) Y wr) ∧ (OwnT wr S rbT (zs.map (·.tv)) ∧ wr.heap[Rd]? = w.heap[Rd]? ∧ ∀ z ∈ zs, ∃ es', OwnR wr z.tv.blk z.rb es' ∧ es'.map kst = z.es.map kst) ∧ ButM (allBlocks Rd S rbT zs) w wr)) (fun s20 _ => n - (intOf s20).toNat)
    case atStart => exact ⟨0, Nat.zero_le _, rfl, HI0.out, ⟨HTl7.out, HRd.out, HZl.out⟩, HBw.out⟩
    case round =>
      obtain ⟨i, hi, rfl, HI⟩ := hrel
      by_cases hlt : i < n
      · have hip : i < (placesOf zs).length := by have := HN.out; omega
        obtain ⟨g, rfl⟩ : ∃ g, va = some ⟨g, 0, none⟩ := by
          cases va with
          | none => have := hnil rfl; omega
          | some a => obtain ⟨g, rfl⟩ := hform a rfl; exact ⟨g, rfl⟩
        have hR := HI.out.1 g rfl
        have hge := HGe.out g rfl
        obtain ⟨z, hz, j, h1, h2, ep, er⟩ := HPP.out i hip (by omega)
        have cj : ∀ q, q < 10 → wr.cell? ⟨g, i * 10 + q, none⟩ = (mkPV z z.es[j]).cells[q]? := fun q hq => by rw [RowPV.cell hR.row i hip q hq, ep]
        have hmem : kst z.es[j] ∈ z.es.map kst := List.mem_map.2 ⟨z.es[j], List.getElem_mem _, rfl⟩
        have hi36 : i < 36 := by omega
        generalize z.es[j] = y at *
        obtain ⟨ykey, yset, yk, yb, yc, yp, yl, ycp, yrank, yline⟩ := y
        obtain ⟨C10, hC10⟩ : ∃ C10 : Array Value, C10 = #[strV z.tv.key, strV ykey, .pointer (some ⟨z.tv.blk, 0, none⟩), .bool yset, .int .i64 yk, .string yb, .string yc, .slice yp yl ycp, .int .i64 yrank, .int .i64 yline] := ⟨_, rfl⟩
        obtain ⟨W2, hW2⟩ : ∃ W2, wr.alloc (.cells C10 109) = W2 := ⟨_, rfl⟩
        have hbA : Below wr.heap.size wr W2 := by rw [← hW2]; exact (Below.refl _ _).alloc (Nat.le_refl _) _
        have bN : BoxA W2 wr.heap.size 109 C10 := by rw [← hW2]; exact BoxA.new wr _ _
        have hRc := reach_any w2.heap.size i Y W2 (hR.below hbA).mat hi36
        have HPut : Hid (∀ r : Int, Calls Tryz.prog 43 #[.pointer (some ⟨z.tv.blk, 0, none⟩), strV ykey, .agg #[.bool yset, .int .i64 yk, .string yb, .string yc, .slice yp yl ycp, .int .i64 r, .int .i64 yline]] (W2.setCell ⟨wr.heap.size, 8, none⟩ (.int .i64 r)) fun e w' => (∃ v, e = .returned v) ∧ RkI w Rd S rbT zs g vc w2.heap.size (placesOf zs) Y w') := fun r => by
          have hR3 := hR.below (hbA.setCell (p := ⟨wr.heap.size, 8, none⟩) (Nat.le_refl _) (.int .i64 r))
          obtain ⟨es', ho, hk⟩ := hR3.zl z hz
          refine (PutR_old z.tv.blk z.rb es' ⟨ykey, yset, yk, yb, yc, yp, yl, ycp, r, yline⟩ _ ho (by rw [hk]; exact hmem)).mono ?_
          rintro e w' ⟨hv, es2, ho2, hk2, hbut⟩
          exact ⟨hv, hR3.put HP.out hz hbut ho2 (hk2.trans hk) hge HB2.out⟩
        have d0 := cj 0 (by decide)
        have d1 := cj 1 (by decide)
        have d2 := cj 2 (by decide)
        have d3 := cj 3 (by decide)
        have d4 := cj 4 (by decide)
        have d5 := cj 5 (by decide)
        have d6 := cj 6 (by decide)
        have d7 := cj 7 (by decide)
        have d8 := cj 8 (by decide)
        have d9 := cj 9 (by decide)
        simp only [PV.cells, mkPV, List.getElem?_cons_zero, List.getElem?_cons_succ, Nat.add_zero] at d0 d1 d2 d3 d4 d5 d6 d7 d8 d9
        rw [hC10] at hW2
        have HW2 : Hid _ := hW2
        subst hC10
        have n0 : W2.cell? ⟨wr.heap.size, 1, none⟩ = some (strV ykey) := bN.cell 1
        have n1 : W2.cell? ⟨wr.heap.size, 2, none⟩ = some (.pointer (some ⟨z.tv.blk, 0, none⟩)) := bN.cell 2
        have n3 : W2.cell? ⟨wr.heap.size, 3, none⟩ = some (.bool yset) := bN.cell 3
        have n4 : W2.cell? ⟨wr.heap.size, 4, none⟩ = some (.int .i64 yk) := bN.cell 4
        have n5 : W2.cell? ⟨wr.heap.size, 5, none⟩ = some (.string yb) := bN.cell 5
        have n6 : W2.cell? ⟨wr.heap.size, 6, none⟩ = some (.string yc) := bN.cell 6
        have n7 : W2.cell? ⟨wr.heap.size, 7, none⟩ = some (.slice yp yl ycp) := bN.cell 7
        have n8 : W2.cell? ⟨wr.heap.size, 8, none⟩ = some (.int .i64 yrank) := bN.cell 8
        have n9 : W2.cell? ⟨wr.heap.size, 9, none⟩ = some (.int .i64 yline) := bN.cell 9
        have nf : W2.frozen? ⟨wr.heap.size, 8, none⟩ = false := by
          have hk : W2.heap[wr.heap.size]? = _ := bN
          simp [World.frozen?, hk]
        clear bN cj hW2 hR HI HPP hmem er ep hbA
        unfold strV at *
        go_upto_region 9 with fail
        rw [HW2.out]
        clear d0 d1 d2 d3 d4 d5 d6 d7 d8 d9
        go_wp2_with fail
        refine hRc.mono ?_
        rintro e w8 ⟨⟨r, rfl⟩, hw8⟩
        subst w8
        have hPut := HPut.out (r : Int)
        go_wp2_with (go_at_call 43; refine hPut.mono ?_; rintro e w9 ⟨⟨v9, rfl⟩, hR9⟩)
        go_roundw
        case rel => exact ⟨i + 1, by omega, by go_num, fun g' hg' => by cases hg'; exact hR9, ⟨hR9.tl, hR9.rd, hR9.zl⟩, hR9.but⟩
        case measure => simp [intOf]; omega
      · obtain rfl : i = n := by omega
        go_wp2
        go_ret
        exact ⟨true, rfl, ⟨fun _ => HA.out, fun _ => rfl⟩, fun _ => HI.out.2.1, ⟨HI.out.2.2.os, HI.out.2.2.tape, HI.out.2.2.output, HI.out.2.2.size, HI.out.2.2.block⟩⟩
end Go.Proofs.YtlgodpadcilcaaaGreatDoor
namespace Go.Proofs.YtlgodpadcilcaaaGreatDoor
open Go.ChangeShapes Go.WideShapes Go.ChangeAt Go.RowKit

set_option maxHeartbeats 4000000 in
set_option maxRecDepth 100000 in
theorem typeLine_one (Rd S : Nat) (rbT : Option Nat) (zs : List Zt) (st : List Ty) (n : List UInt8) (b o c : Nat) (w : World) (h : PRep w Rd S rbT zs st) (hok : StOk st) (hc : w.cell? ⟨b, o, none⟩ = some (strV n)) (hbR : b ∉ allBlocks Rd S rbT zs) :
    Calls Tryz.prog 31 #[.pointer (some ⟨Rd, 0, none⟩), .slice (some ⟨b, o, none⟩) 1 c] w fun e w' => LAns Rd S rbT zs w (typeS st [n]) e w' := by
  have hbw : b < w.heap.size := World.block_lt_of_cell? w ⟨b, o, none⟩ hc
  obtain ⟨a1, a2, a3, a4⟩ := blocks_apart h.nodup
  have hRd := h.lt Rd mem_Rd
  have hbRd : b ≠ Rd := fun e => hbR (e ▸ mem_Rd)
  have hTS : typeS st [n] = if nameL n = false then (2, st) else if n ∈ st.map (·.nm) then (3, st) else if st.length = 6 then (1, st) else (0, st ++ [⟨n, []⟩]) := rfl
  have hN := fun u => isName_any ⟨n.toArray⟩ u
  have en : (⟨n.toArray⟩ : ByteArray).data.toList = n := rfl
  rw [en] at hN
  have hr0 := h.rd0
  unfold strV at hc
  have hdr : Below w.heap.size w w.drew := (Below.refl _ _).drew
  have hH := HasT_any S (zs.map (·.tv)) ⟨n.toArray⟩ w.drew (h.below hdr).own.list
  have hD : decide ((⟨n.toArray⟩ : ByteArray).data.toList ∈ (zs.map (·.tv)).map (·.key)) = decide (n ∈ st.map (·.nm)) := decide_eq_decide.2 (h.keys n)
  rw [hD] at hH
  clear hD en
  cases hnm : nameL n with
  | false =>
    rw [hnm] at hTS hN
    have HT : Hid (typeS st [n] = (2, st)) := by show _ = _; rw [hTS]; simp
    clear hTS hH
    go_enter Tryz.func31, Tryz.ntmps31
    go_wp2_with (go_at_call 45; refine (hN _).mono ?_; rintro e w' ⟨rfl, rfl⟩)
    go_ret
    rw [HT.out]
    exact LAns.same h (Below.refl _ _)
  | true =>
    rw [hnm] at hTS hN
    rw [if_neg (by simp)] at hTS
    by_cases hin : n ∈ st.map (·.nm)
    · have HT : Hid (typeS st [n] = (3, st)) := by show _ = _; rw [hTS, if_pos hin]
      rw [decide_eq_true hin] at hH
      clear hTS
      go_enter Tryz.func31, Tryz.ntmps31
      go_wp2_with (go_at_call 45; refine (hN _).mono ?_; rintro e w' ⟨rfl, rfl⟩)
      go_region_with (go_at_call 50; refine hH.mono ?_; rintro e w1 ⟨rfl, hb1⟩)
      all_goals go_wp2
      all_goals go_ret
      all_goals rw [HT.out]
      all_goals exact LAns.same h (hdr.trans hb1)
    · rw [if_neg hin] at hTS
      rw [decide_eq_false hin] at hH
      go_enter Tryz.func31, Tryz.ntmps31
      go_wp2_with (go_at_call 45; refine (hN _).mono ?_; rintro e w' ⟨rfl, rfl⟩)
      go_region_with (go_at_call 50; refine hH.mono ?_; rintro e w1 ⟨rfl, hb1⟩)
      all_goals
        have hb1' := hdr.trans hb1
        have h1 := h.below hb1'
        have hLn := LenT_any S (zs.map (·.tv)) w1 h1.own.list
        have hll : (zs.map (·.tv)).length = st.length := by rw [List.length_map]; exact h.length
        rw [hll] at hLn
        have hc1 : w1.cell? ⟨b, o, none⟩ = some (.string ⟨n.toArray⟩) := by rw [hb1'.cell (p := ⟨b, o, none⟩) hbw]; exact hc
        have hs1 := hb1'.size
        have hRd1 : Rd < w1.heap.size := by omega
        have hbw1 : b < w1.heap.size := by omega
        have hr1 := h1.rd0
        obtain ⟨u1, hu1⟩ : ∃ u, w1.cell? ⟨Rd, 1, none⟩ = some (.pointer u) := by
          rcases h1.rd1 with ⟨_, e⟩ | ⟨z, _, _, e⟩
          · exact ⟨_, e⟩
          · exact ⟨_, e⟩
        have hfz1 := h1.frz
        have H0 : Hid _ := h
        have H1 : Hid _ := h1
        clear hH hN hc h1
        by_cases h6 : st.length = 6
        · have HT : Hid (typeS st [n] = (1, st)) := by show _ = _; rw [hTS, if_pos h6]
          rw [h6] at hLn
          clear hTS
          go_wp2_with (go_at_call 16; refine hLn.mono ?_; rintro e w' ⟨rfl, rfl⟩)
          go_ret
          rw [HT.out]
          exact LAns.same H0.out hb1'
        · have HT : Hid (typeS st [n] = (0, st ++ [⟨n, []⟩])) := by show _ = _; rw [hTS, if_neg h6]
          have hq6 : (((st.length : Nat) : Int) == 6) = false := by rw [beq_eq_false_iff_ne]; omega
          clear hTS
          have hfew := hok.few
          generalize st.length = sl at *
          go_upto_region 8 with (go_at_call 16; refine hLn.mono ?_; rintro e w' ⟨rfl, rfl⟩)
          have hal2 : ∀ k, k < w'.heap.size → k ≠ Rd → ((w'.setCell ⟨Rd, 1, none⟩ (.pointer (some ⟨w'.heap.size, 0, none⟩))).alloc (.cells #[.slice none 0 0] 132)).heap[k]? = w'.heap[k]? := fun k hk hkR =>
            (Below.heap_alloc _ _ _ (by simpa using hk)).trans (Below.heap_setCell _ _ _ _ hkR)
          have hsz2 : ((w'.setCell ⟨Rd, 1, none⟩ (.pointer (some ⟨w'.heap.size, 0, none⟩))).alloc (.cells #[.slice none 0 0] 132)).heap.size = w'.heap.size + 1 := by simp
          have k0 : ((w'.setCell ⟨Rd, 1, none⟩ (.pointer (some ⟨w'.heap.size, 0, none⟩))).alloc (.cells #[.slice none 0 0] 132)).cell? ⟨Rd, 0, none⟩ = some (.pointer (some ⟨S, 0, none⟩)) := by
            rw [World.cell?_alloc_lt _ _ _ (by simpa using hRd1), cell_set_ne (by decide)]; exact hr1
          have k1 : ((w'.setCell ⟨Rd, 1, none⟩ (.pointer (some ⟨w'.heap.size, 0, none⟩))).alloc (.cells #[.slice none 0 0] 132)).cell? ⟨Rd, 1, none⟩ = some (.pointer (some ⟨w'.heap.size, 0, none⟩)) := by
            rw [World.cell?_alloc_lt _ _ _ (by simpa using hRd1), World.cell?_setCell_same' _ _ _ (by rw [hu1]; rfl)]
          have k2 : ((w'.setCell ⟨Rd, 1, none⟩ (.pointer (some ⟨w'.heap.size, 0, none⟩))).alloc (.cells #[.slice none 0 0] 132)).cell? ⟨b, o, none⟩ = some (.string ⟨n.toArray⟩) := by
            rw [World.cell?_alloc_lt _ _ _ (by simpa using hbw1), cell_set_far hbRd]; exact hc1
          have k3 : ((w'.setCell ⟨Rd, 1, none⟩ (.pointer (some ⟨w'.heap.size, 0, none⟩))).alloc (.cells #[.slice none 0 0] 132)).cell? ⟨w'.heap.size, 0, none⟩ = some (.slice none 0 0) := by
            have := World.cell?_alloc_new (w'.setCell ⟨Rd, 1, none⟩ (.pointer (some ⟨w'.heap.size, 0, none⟩))) #[.slice none 0 0] 132 0
            rw [World.size_setCell] at this
            exact this
          have k4 : ∀ q j, ((w'.setCell ⟨Rd, 1, none⟩ (.pointer (some ⟨w'.heap.size, 0, none⟩))).alloc (.cells #[.slice none 0 0] 132)).frozen? ⟨q, j, none⟩ = w'.frozen? ⟨q, j, none⟩ := fun q j => by
            rw [frozen?_alloc_cells, World.frozen?_setCell]
          have k5 : w'.frozen? ⟨w'.heap.size, 0, none⟩ = false := by simp [World.frozen?]
          have HO : Hid (((w'.setCell ⟨Rd, 1, none⟩ (.pointer (some ⟨w'.heap.size, 0, none⟩))).alloc (.cells #[.slice none 0 0] 132)).os = w'.os ∧ ((w'.setCell ⟨Rd, 1, none⟩ (.pointer (some ⟨w'.heap.size, 0, none⟩))).alloc (.cells #[.slice none 0 0] 132)).tape = w'.tape ∧ ((w'.setCell ⟨Rd, 1, none⟩ (.pointer (some ⟨w'.heap.size, 0, none⟩))).alloc (.cells #[.slice none 0 0] 132)).output = w'.output) := ⟨rfl, rfl, rfl⟩
          generalize (w'.setCell ⟨Rd, 1, none⟩ (.pointer (some ⟨w'.heap.size, 0, none⟩))).alloc (.cells #[.slice none 0 0] 132) = W2 at *
          have hS1 := H1.out.lt S mem_S
          have hown2 : OwnT W2.drew S rbT (zs.map (·.tv)) := H1.out.own.keep (hal2 S hS1 (fun e => a1 e.symm)) (fun k hk => hal2 k (H1.out.lt k (mem_blocks_T hk)) (fun e => a2 (by rw [← e]; exact hk)))
          have hPut := PutT_new S rbT (zs.map (·.tv)) ⟨n, w'.heap.size⟩ W2.drew hown2 (fun hm => hin ((H1.out.keys n).1 hm)) (by rw [hll]; omega)
          unfold strV at hPut
          simp only [] at hPut
          have HA : Hid _ := hal2
          have HK : Hid _ := k4
          clear hal2 k4 hLn
          go_region_with (go_at_call 58; refine hPut.mono ?_; rintro e w3 ⟨⟨v3, rfl⟩, hput⟩)
          all_goals go_wp2
          all_goals go_ret
          all_goals rw [HT.out]
          all_goals
            obtain ⟨rbT', zs', hp', hm'⟩ := PRep.addType (w := w') (W2 := W2.drew) (w3 := w3) (B := w'.heap.size) H1.out (Nat.le_refl _) (by show _ < W2.heap.size; omega) (fun k hk hkR => HA.out k hk hkR) k0 k1 (fun j => by show W2.frozen? _ = false; rw [HK.out]; exact hfz1 j) k3 (by show W2.frozen? _ = false; rw [HK.out]; exact k5) hput
            refine ⟨rfl, ?_, rbT', zs', hp', fun g hg => orTo (hm' g hg) (fun h => by omega)⟩
            obtain ⟨p, rb, _, _, _, hbut⟩ := hput
            have hd2 : W2.drew.heap.size = W2.heap.size := rfl
            have hbs := hbut.size
            refine ⟨by rw [hbut.os]; exact HO.out.1.trans hb1'.os, by rw [hbut.tape]; exact HO.out.2.1.trans hb1'.tape, by rw [hbut.output]; exact HO.out.2.2.trans hb1'.output, by omega, fun k hk hkM => ?_⟩
            rw [hbut.block k (by omega) (fun e => hkM (e ▸ mem_S)) (fun e => hkM (mem_blocks_T e))]
            exact (HA.out k (by omega) (fun e => hkM (e ▸ mem_Rd))).trans (hb1'.block k hk)
end Go.Proofs.YtlgodpadcilcaaaGreatDoor
