import Derived.Test.YtlgodpadcilcaaaGreatDoorP02
import Derived.Deep.LoopGhost
import Derived.Shelf.Spec.SlicesInsertGrow
import Derived.Laws.CopyRow
namespace Go.Proofs.YtlgodpadcilcaaaGreatDoor
open Go.ChangeShapes Go.WideShapes Go.ChangeAt Go.RowKit

/-- an entry of the types: the name, the block of its relations -/
structure TV where
  key : List UInt8
  blk : Nat
def TV.cells (x : TV) : List Value := [strV x.key, .pointer (some ⟨x.blk, 0, none⟩)]

def RowT (w : World) (v : Value) (es : List TV) : Prop := w.ownsRow 0 158 2 v es.length (es.map TV.cells).flatten
theorem TV.len (x : TV) : x.cells.length = 2 := rfl
theorem RowT.cell {w : World} {g cap : Nat} {es : List TV} (h : RowT w (.slice (some ⟨g, 0, none⟩) es.length cap) es) (j : Nat) (hj : j < es.length) (i : Nat) (hi : i < 2) : w.cell? ⟨g, j * 2 + i, none⟩ = es[j].cells[i]? := by
  rw [Nat.mul_comm j, h.cellAt _ (by omega), flattenK 2 (es.map TV.cells) (fun cs hcs => by obtain ⟨x, _, rfl⟩ := List.mem_map.1 hcs; exact x.len) j (by simpa using hj) i hi]
  simp
theorem RowT.below {w w' : World} {v : Value} {es : List TV} (h : RowT w v es) (hb : Below w.heap.size w w') : RowT w' v es :=
  World.ownsRow.kept h (row := none) ⟨hb.os, hb.tape, hb.output, hb.size, fun k hk _ => hb.block k hk⟩ (by cases v.ownBlock <;> simp)

set_option maxHeartbeats 1000000 in
theorem findT1_any (x : TV) (s : ByteArray) (w : World) :
    Calls Tryz.prog 94 #[.agg x.cells.toArray, .string s] w fun e w' => e = .returned (.int .i64 (cmpK x.key s.data.toList)) ∧ Below w.heap.size w w' := by
  have hC := fun u => compare_any ⟨x.key.toArray⟩ s u
  have ek : (⟨x.key.toArray⟩ : ByteArray).data.toList = x.key := rfl
  rw [ek] at hC
  clear ek
  generalize cmpK x.key s.data.toList = r at *
  obtain ⟨key, blk⟩ := x
  simp only [TV.cells, strV] at *
  generalize (⟨key.toArray⟩ : ByteArray) = K at *
  go_enter Tryz.func94, Tryz.ntmps94
  go_wp2_with (go_at_call 89; refine (hC _).mono ?_; rintro e w' ⟨rfl, rfl⟩)
  go_ret
  exact ⟨rfl, (Below.refl _ _).alloc (Nat.le_refl _) _⟩

/-- what the search answers -/
def FoundAns (ks : List (List UInt8)) (s : List UInt8) (e : Ending) : Prop := ∃ p : Nat, Place ks s p ∧ e = .returned (.tuple #[.int .i64 p, .bool (decide (s ∈ ks))])

set_option maxHeartbeats 4000000 in
set_option maxRecDepth 100000 in
theorem BST_any (g cap : Nat) (es : List TV) (s : ByteArray) (w : World) (h : RowT w (.slice (some ⟨g, 0, none⟩) es.length cap) es) (hl : es.length ≤ 1000000) (hr : Rising (es.map (·.key))) :
    Calls Tryz.prog 93 #[.slice (some ⟨g, 0, none⟩) es.length cap, .string s, .func (.func 94) #[] #[]] w fun e w' => FoundAns (es.map (·.key)) s.data.toList e ∧ Below w.heap.size w w' := by
  have hg : g < w.heap.size := (h.lt g rfl).2
  have H := show Hid (RowT w (.slice (some ⟨g, 0, none⟩) es.length cap) es) from h
  clear h
  generalize hn : es.length = n at *
  go_enter Tryz.func93, Tryz.ntmps93
  go_wp2
  go_loopg [9, 10] n (fun kx s9 s10 wr => ∃ lo hi : Nat, s9 = .int .i64 lo ∧ s10 = .int .i64 hi ∧ lo ≤ hi ∧ hi ≤ n ∧ hi - lo ≤ kx ∧ Hid (Below w.heap.size w wr) ∧
    Hid ((∀ t (h : t < es.length), t < lo → Op.bytesLess es[t].key s.data.toList = true) ∧ (∀ t (h : t < es.length), hi ≤ t → Op.bytesLess es[t].key s.data.toList = false)))
  case atStart => exact ⟨0, n, rfl, rfl, Nat.zero_le _, Nat.le_refl _, by omega, Below.refl _ _, (⟨fun t h h2 => by omega, fun t h h2 => by omega⟩ : _ ∧ _)⟩
  case round =>
    obtain ⟨lo, hi, rfl, rfl, hlh, hin, hgk, hB, HI⟩ := hrel
    by_cases hlt : lo < hi
    · have hmid : (lo + hi) / 2 < es.length := by omega
      obtain ⟨y, hy⟩ : ∃ y, y = es[(lo + hi) / 2]'hmid := ⟨_, rfl⟩
      have hcells : ∀ i, i < 2 → wr.cell? ⟨g, (lo + hi) / 2 * 2 + i, none⟩ = y.cells[i]? := fun i hi2 => by
        rw [hB.out.cell (p := ⟨g, (lo + hi) / 2 * 2 + i, none⟩) hg, hy]
        have := H.out
        rw [← hn] at this
        exact this.cell _ hmid i hi2
      have hX := fun u => findT1_any y s u
      have HY : Hid (es[(lo + hi) / 2]'hmid = y) := hy.symm
      clear hy
      obtain ⟨key, blk⟩ := y
      have d0 := hcells 0 (by decide)
      have d1 := hcells 1 (by decide)
      simp only [TV.cells, strV, List.getElem?_cons_zero, List.getElem?_cons_succ, Nat.add_zero] at d0 d1
      clear hcells
      simp only [TV.cells, strV] at hX
      generalize (⟨key.toArray⟩ : ByteArray) = K at *
      generalize hc : cmpK key s.data.toList = r at *
      have HC : Hid (cmpK key s.data.toList = r) := hc
      clear hc
      generalize hm : (lo + hi) / 2 = mid at *
      have hm2 : ((lo : Int) + (hi : Int)) / 2 = (mid : Int) := by omega
      have HM : Hid ((lo + hi) / 2 = mid) := hm
      clear hm
      by_cases hrn : r < 0
      · have hK : Op.bytesLess key s.data.toList = true := cmpK_neg.1 (by rw [HC.out]; exact hrn)
        have HK : Hid _ := hK
        clear hK
        go_wp2_with (go_at_call 94; refine (hX _).mono ?_; rintro e w' ⟨rfl, hb'⟩)
        go_roundg (hi - (mid + 1))
        case measure => have := HM.out; omega
        case rel =>
          have := HM.out
          refine ⟨mid + 1, hi, by go_num, rfl, by omega, hin, Nat.le_refl _, hB.out.trans (hb'.mono hB.out.size), (⟨fun t ht ht2 => ?_, HI.out.2⟩ : _ ∧ _)⟩
          by_cases e : t = mid
          · subst e
            have := HY.out
            simp only [this]
            exact HK.out
          · have h1 := hr.lt (i := t) (j := mid) (by omega) (by simp; omega)
            simp only [List.getElem_map] at h1
            have := HY.out
            simp only [this] at h1
            exact less_trans _ _ _ h1 HK.out
      · have hK : Op.bytesLess key s.data.toList = false := by
          cases hh : Op.bytesLess key s.data.toList with
          | false => rfl
          | true => exact absurd (cmpK_neg.2 hh) (by rw [HC.out]; exact hrn)
        have HK : Hid _ := hK
        clear hK
        go_wp2_with (go_at_call 94; refine (hX _).mono ?_; rintro e w' ⟨rfl, hb'⟩)
        go_roundg (mid - lo)
        case measure => have := HM.out; omega
        case rel =>
          have := HM.out
          refine ⟨lo, mid, rfl, by go_num, by omega, by omega, Nat.le_refl _, hB.out.trans (hb'.mono hB.out.size), (⟨HI.out.1, fun t ht ht2 => ?_⟩ : _ ∧ _)⟩
          by_cases e : t = mid
          · subst e
            have := HY.out
            simp only [this]
            exact HK.out
          · cases hh : Op.bytesLess es[t].key s.data.toList with
            | false => rfl
            | true =>
              have h1 := hr.lt (i := mid) (j := t) (by omega) (by simp; omega)
              simp only [List.getElem_map] at h1
              have := HY.out
              simp only [this] at h1
              have h2 := less_trans _ _ _ h1 hh
              rw [HK.out] at h2
              cases h2
    · obtain rfl : hi = lo := by omega
      have hP : Place (es.map (·.key)) s.data.toList hi := ⟨by simp; omega, fun t ht ht2 => by simpa using HI.out.1 t (by simpa using ht) ht2, fun t ht ht2 => by simpa using HI.out.2 t (by simpa using ht) ht2⟩
      have hF := hP.found hr
      by_cases hp : hi < n
      · have hmid : hi < es.length := by omega
        obtain ⟨y, hy⟩ : ∃ y, y = es[hi]'hmid := ⟨_, rfl⟩
        have hcells : ∀ i, i < 2 → wr.cell? ⟨g, hi * 2 + i, none⟩ = y.cells[i]? := fun i hi2 => by
          rw [hB.out.cell (p := ⟨g, hi * 2 + i, none⟩) hg, hy]
          have := H.out
          rw [← hn] at this
          exact this.cell _ hmid i hi2
        have hX := fun u => findT1_any y s u
        have hD : (decide (s.data.toList ∈ es.map (·.key))) = decide (cmpK y.key s.data.toList = 0) := by
          rw [decide_eq_decide, cmpK_zero, hF, hy]
          constructor
          · rintro ⟨_, h⟩; simpa using h
          · intro h; exact ⟨by simpa using hmid, by simpa using h⟩
        have HP : Hid _ := hP
        have HD : Hid _ := hD
        clear hy hP hF hD
        obtain ⟨key, blk⟩ := y
        have d0 := hcells 0 (by decide)
        have d1 := hcells 1 (by decide)
        simp only [TV.cells, strV, List.getElem?_cons_zero, List.getElem?_cons_succ, Nat.add_zero] at d0 d1
        clear hcells
        simp only [TV.cells, strV] at hX
        generalize (⟨key.toArray⟩ : ByteArray) = K at *
        generalize hc : cmpK key s.data.toList = r at *
        clear hc
        go_wp2_with (go_at_call 94; refine (hX _).mono ?_; rintro e w' ⟨rfl, hb'⟩)
        go_ret2
        refine ⟨⟨hi, HP.out, ?_⟩, hB.out.trans (hb'.mono hB.out.size)⟩
        rw [HD.out]
        congr 3
      · have hD : (decide (s.data.toList ∈ es.map (·.key))) = false := by
          rw [decide_eq_false_iff_not, hF]
          rintro ⟨h, _⟩
          simp at h; omega
        have HP : Hid _ := hP
        have HD : Hid _ := hD
        clear hP hF hD
        go_wp2
        go_ret2
        exact ⟨⟨hi, HP.out, by rw [HD.out]; rfl⟩, hB.out⟩

set_option maxHeartbeats 1000000 in
theorem BST_nil (s : ByteArray) (w : World) :
    Calls Tryz.prog 93 #[.slice none 0 0, .string s, .func (.func 94) #[] #[]] w fun e w' => FoundAns [] s.data.toList e ∧ Below w.heap.size w w' := by
  go_enter Tryz.func93, Tryz.ntmps93
  go_wp2
  go_loop [9, 10] (fun a b => a = .int .i64 0 ∧ b = .int .i64 0) (fun _ _ => 0)
  case atStart => exact ⟨rfl, rfl⟩
  case round =>
    obtain ⟨rfl, rfl⟩ := hrel
    go_wp2
    go_ret2
    exact ⟨⟨0, ⟨Nat.zero_le _, fun t h => by simp at h, fun t h => by simp at h⟩, by simp⟩, Below.refl _ _⟩

/-- the list that lies in block L has these entries -/
structure ListT (w : World) (L : Nat) (es : List TV) : Prop where
  row : ∃ v, w.cell? ⟨L, 0, none⟩ = some v ∧ RowT w v es ∧ v.ownBlock ≠ some L
  fr : w.frozen? ⟨L, 0, none⟩ = false
  up : Rising (es.map (·.key))
  few : es.length ≤ 1000000

theorem findT_any (L : Nat) (es : List TV) (s : ByteArray) (w : World) (h : ListT w L es) :
    Calls Tryz.prog 78 #[.pointer (some ⟨L, 0, none⟩), .string s] w fun e w' => FoundAns (es.map (·.key)) s.data.toList e ∧ Below w.heap.size w w' := by
  obtain ⟨v, hv, hrow, _⟩ := h.row
  have hB : ∀ u, u = w → Calls Tryz.prog 93 #[v, .string s, .func (.func 94) #[] #[]] u fun e w' => FoundAns (es.map (·.key)) s.data.toList e ∧ Below u.heap.size u w' := by
    rintro u rfl
    rcases hrow.2 with ⟨rfl, h0⟩ | ⟨g, cap, cur, rfl, _⟩
    · obtain rfl : es = [] := List.eq_nil_of_length_eq_zero h0
      exact BST_nil s u
    · exact BST_any g cap es s u hrow h.few h.up
  obtain ⟨p, l, c, rfl⟩ : ∃ p l c, v = .slice p l c := by
    rcases hrow.2 with ⟨rfl, _⟩ | ⟨g, cap, cur, rfl, _⟩
    · exact ⟨_, _, _, rfl⟩
    · exact ⟨_, _, _, rfl⟩
  clear hrow
  go_enter Tryz.func78, Tryz.ntmps78
  go_wp2_with fail
  refine (hB w rfl).mono ?_
  rintro e w' ⟨⟨q, hq, rfl⟩, hb⟩
  have HQ : Hid _ := hq
  clear hq hB
  generalize hd : decide (s.data.toList ∈ es.map (·.key)) = d at *
  have HD : Hid (decide (s.data.toList ∈ es.map (·.key)) = d) := hd
  clear hd
  go_wp2
  go_ret2
  exact ⟨⟨q, HQ.out, by rw [HD.out]; rfl⟩, hb⟩

theorem HasT_any (L : Nat) (es : List TV) (s : ByteArray) (w : World) (h : ListT w L es) :
    Calls Tryz.prog 50 #[.pointer (some ⟨L, 0, none⟩), .string s] w fun e w' => e = .returned (.bool (decide (s.data.toList ∈ es.map (·.key)))) ∧ Below w.heap.size w w' := by
  have hF := findT_any L es s w h
  go_enter Tryz.func50, Tryz.ntmps50
  go_wp2_with fail
  refine hF.mono ?_
  rintro e w' ⟨⟨q, hq, rfl⟩, hb⟩
  clear hF hq
  generalize hd : decide (s.data.toList ∈ es.map (·.key)) = d at *
  have HD : Hid (decide (s.data.toList ∈ es.map (·.key)) = d) := hd
  clear hd
  go_wp2
  go_ret
  exact ⟨by rw [HD.out]; rfl, hb⟩

theorem LenT_any (L : Nat) (es : List TV) (w : World) (h : ListT w L es) :
    Calls Tryz.prog 16 #[.pointer (some ⟨L, 0, none⟩)] w fun e w' => e = .returned (.int .i64 (es.length : Nat)) ∧ w' = w := by
  obtain ⟨v, hv, hrow, _⟩ := h.row
  obtain ⟨p, c, rfl⟩ : ∃ p c, v = .slice p es.length c := by
    rcases hrow.2 with ⟨rfl, h0⟩ | ⟨g, cap, cur, rfl, _⟩
    · rw [h0]; exact ⟨_, _, rfl⟩
    · exact ⟨_, _, rfl⟩
  clear hrow
  generalize es.length = n at *
  go_enter Tryz.func16, Tryz.ntmps16
  go_wp2
  go_ret
  exact ⟨rfl, rfl⟩
end Go.Proofs.YtlgodpadcilcaaaGreatDoor
namespace Go.Proofs.YtlgodpadcilcaaaGreatDoor
open Go.ChangeShapes Go.WideShapes Go.ChangeAt Go.RowKit

/-- an entry of the relations: the name, and the relation's cells -/
structure RV where
  key : List UInt8
  set : Bool
  k : Int
  b : ByteArray
  c : ByteArray
  p : Option Addr
  l : Nat
  cp : Nat
  rank : Int
  line : Int
def RV.cells (x : RV) : List Value := [strV x.key, .bool x.set, .int .i64 x.k, .string x.b, .string x.c, .slice x.p x.l x.cp, .int .i64 x.rank, .int .i64 x.line]

def RowR (w : World) (v : Value) (es : List RV) : Prop := w.ownsRow 0 146 8 v es.length (es.map RV.cells).flatten
theorem RV.len (x : RV) : x.cells.length = 8 := rfl
theorem RowR.cell {w : World} {g cap : Nat} {es : List RV} (h : RowR w (.slice (some ⟨g, 0, none⟩) es.length cap) es) (j : Nat) (hj : j < es.length) (i : Nat) (hi : i < 8) : w.cell? ⟨g, j * 8 + i, none⟩ = es[j].cells[i]? := by
  rw [Nat.mul_comm j, h.cellAt _ (by omega), flattenK 8 (es.map RV.cells) (fun cs hcs => by obtain ⟨x, _, rfl⟩ := List.mem_map.1 hcs; exact x.len) j (by simpa using hj) i hi]
  simp
theorem RowR.below {w w' : World} {v : Value} {es : List RV} (h : RowR w v es) (hb : Below w.heap.size w w') : RowR w' v es :=
  World.ownsRow.kept h (row := none) ⟨hb.os, hb.tape, hb.output, hb.size, fun k hk _ => hb.block k hk⟩ (by cases v.ownBlock <;> simp)

set_option maxHeartbeats 1000000 in
theorem findR1_any (x : RV) (s : ByteArray) (w : World) :
    Calls Tryz.prog 88 #[.agg x.cells.toArray, .string s] w fun e w' => e = .returned (.int .i64 (cmpK x.key s.data.toList)) ∧ Below w.heap.size w w' := by
  have hC := fun u => compare_any ⟨x.key.toArray⟩ s u
  have ek : (⟨x.key.toArray⟩ : ByteArray).data.toList = x.key := rfl
  rw [ek] at hC
  clear ek
  generalize cmpK x.key s.data.toList = r at *
  obtain ⟨key, set, k, b, c, p, l, cp, rank, line⟩ := x
  simp only [RV.cells, strV] at *
  generalize (⟨key.toArray⟩ : ByteArray) = K at *
  go_enter Tryz.func88, Tryz.ntmps88
  go_wp2_with (go_at_call 89; refine (hC _).mono ?_; rintro e w' ⟨rfl, rfl⟩)
  go_ret
  exact ⟨rfl, (Below.refl _ _).alloc (Nat.le_refl _) _⟩

set_option maxHeartbeats 4000000 in
set_option maxRecDepth 100000 in
theorem BSR_any (g cap : Nat) (es : List RV) (s : ByteArray) (w : World) (h : RowR w (.slice (some ⟨g, 0, none⟩) es.length cap) es) (hl : es.length ≤ 1000000) (hr : Rising (es.map (·.key))) :
    Calls Tryz.prog 87 #[.slice (some ⟨g, 0, none⟩) es.length cap, .string s, .func (.func 88) #[] #[]] w fun e w' => FoundAns (es.map (·.key)) s.data.toList e ∧ Below w.heap.size w w' := by
  have hg : g < w.heap.size := (h.lt g rfl).2
  have H := show Hid (RowR w (.slice (some ⟨g, 0, none⟩) es.length cap) es) from h
  clear h
  generalize hn : es.length = n at *
  go_enter Tryz.func87, Tryz.ntmps87
  go_wp2
  go_loopg [9, 10] n (fun kx s9 s10 wr => ∃ lo hi : Nat, s9 = .int .i64 lo ∧ s10 = .int .i64 hi ∧ lo ≤ hi ∧ hi ≤ n ∧ hi - lo ≤ kx ∧ Hid (Below w.heap.size w wr) ∧
    Hid ((∀ t (h : t < es.length), t < lo → Op.bytesLess es[t].key s.data.toList = true) ∧ (∀ t (h : t < es.length), hi ≤ t → Op.bytesLess es[t].key s.data.toList = false)))
  case atStart => exact ⟨0, n, rfl, rfl, Nat.zero_le _, Nat.le_refl _, by omega, Below.refl _ _, (⟨fun t h h2 => by omega, fun t h h2 => by omega⟩ : _ ∧ _)⟩
  case round =>
    obtain ⟨lo, hi, rfl, rfl, hlh, hin, hgk, hB, HI⟩ := hrel
    by_cases hlt : lo < hi
    · have hmid : (lo + hi) / 2 < es.length := by omega
      obtain ⟨y, hy⟩ : ∃ y, y = es[(lo + hi) / 2]'hmid := ⟨_, rfl⟩
      have hcells : ∀ i, i < 8 → wr.cell? ⟨g, (lo + hi) / 2 * 8 + i, none⟩ = y.cells[i]? := fun i hi2 => by
        rw [hB.out.cell (p := ⟨g, (lo + hi) / 2 * 8 + i, none⟩) hg, hy]
        have := H.out
        rw [← hn] at this
        exact this.cell _ hmid i hi2
      have hX := fun u => findR1_any y s u
      have HY : Hid (es[(lo + hi) / 2]'hmid = y) := hy.symm
      clear hy
      obtain ⟨key, set, k, b, c, p, l, cp, rank, line⟩ := y
      have d0 := hcells 0 (by decide)
      have d1 := hcells 1 (by decide)
      have d2 := hcells 2 (by decide)
      have d3 := hcells 3 (by decide)
      have d4 := hcells 4 (by decide)
      have d5 := hcells 5 (by decide)
      have d6 := hcells 6 (by decide)
      have d7 := hcells 7 (by decide)
      simp only [RV.cells, strV, List.getElem?_cons_zero, List.getElem?_cons_succ, Nat.add_zero] at d0 d1 d2 d3 d4 d5 d6 d7
      clear hcells
      simp only [RV.cells, strV] at hX
      generalize (⟨key.toArray⟩ : ByteArray) = K at *
      generalize hc : cmpK key s.data.toList = r at *
      have HC : Hid (cmpK key s.data.toList = r) := hc
      clear hc
      generalize hm : (lo + hi) / 2 = mid at *
      have hm2 : ((lo : Int) + (hi : Int)) / 2 = (mid : Int) := by omega
      have HM : Hid ((lo + hi) / 2 = mid) := hm
      clear hm
      by_cases hrn : r < 0
      · have hK : Op.bytesLess key s.data.toList = true := cmpK_neg.1 (by rw [HC.out]; exact hrn)
        have HK : Hid _ := hK
        clear hK
        go_wp2_with (go_at_call 88; refine (hX _).mono ?_; rintro e w' ⟨rfl, hb'⟩)
        go_roundg (hi - (mid + 1))
        case measure => have := HM.out; omega
        case rel =>
          have := HM.out
          refine ⟨mid + 1, hi, by go_num, rfl, by omega, hin, Nat.le_refl _, hB.out.trans (hb'.mono hB.out.size), (⟨fun t ht ht2 => ?_, HI.out.2⟩ : _ ∧ _)⟩
          by_cases e : t = mid
          · subst e
            have := HY.out
            simp only [this]
            exact HK.out
          · have h1 := hr.lt (i := t) (j := mid) (by omega) (by simp; omega)
            simp only [List.getElem_map] at h1
            have := HY.out
            simp only [this] at h1
            exact less_trans _ _ _ h1 HK.out
      · have hK : Op.bytesLess key s.data.toList = false := by
          cases hh : Op.bytesLess key s.data.toList with
          | false => rfl
          | true => exact absurd (cmpK_neg.2 hh) (by rw [HC.out]; exact hrn)
        have HK : Hid _ := hK
        clear hK
        go_wp2_with (go_at_call 88; refine (hX _).mono ?_; rintro e w' ⟨rfl, hb'⟩)
        go_roundg (mid - lo)
        case measure => have := HM.out; omega
        case rel =>
          have := HM.out
          refine ⟨lo, mid, rfl, by go_num, by omega, by omega, Nat.le_refl _, hB.out.trans (hb'.mono hB.out.size), (⟨HI.out.1, fun t ht ht2 => ?_⟩ : _ ∧ _)⟩
          by_cases e : t = mid
          · subst e
            have := HY.out
            simp only [this]
            exact HK.out
          · cases hh : Op.bytesLess es[t].key s.data.toList with
            | false => rfl
            | true =>
              have h1 := hr.lt (i := mid) (j := t) (by omega) (by simp; omega)
              simp only [List.getElem_map] at h1
              have := HY.out
              simp only [this] at h1
              have h2 := less_trans _ _ _ h1 hh
              rw [HK.out] at h2
              cases h2
    · obtain rfl : hi = lo := by omega
      have hP : Place (es.map (·.key)) s.data.toList hi := ⟨by simp; omega, fun t ht ht2 => by simpa using HI.out.1 t (by simpa using ht) ht2, fun t ht ht2 => by simpa using HI.out.2 t (by simpa using ht) ht2⟩
      have hF := hP.found hr
      by_cases hp : hi < n
      · have hmid : hi < es.length := by omega
        obtain ⟨y, hy⟩ : ∃ y, y = es[hi]'hmid := ⟨_, rfl⟩
        have hcells : ∀ i, i < 8 → wr.cell? ⟨g, hi * 8 + i, none⟩ = y.cells[i]? := fun i hi2 => by
          rw [hB.out.cell (p := ⟨g, hi * 8 + i, none⟩) hg, hy]
          have := H.out
          rw [← hn] at this
          exact this.cell _ hmid i hi2
        have hX := fun u => findR1_any y s u
        have hD : (decide (s.data.toList ∈ es.map (·.key))) = decide (cmpK y.key s.data.toList = 0) := by
          rw [decide_eq_decide, cmpK_zero, hF, hy]
          constructor
          · rintro ⟨_, h⟩; simpa using h
          · intro h; exact ⟨by simpa using hmid, by simpa using h⟩
        have HP : Hid _ := hP
        have HD : Hid _ := hD
        clear hy hP hF hD
        obtain ⟨key, set, k, b, c, p, l, cp, rank, line⟩ := y
        have d0 := hcells 0 (by decide)
        have d1 := hcells 1 (by decide)
        have d2 := hcells 2 (by decide)
        have d3 := hcells 3 (by decide)
        have d4 := hcells 4 (by decide)
        have d5 := hcells 5 (by decide)
        have d6 := hcells 6 (by decide)
        have d7 := hcells 7 (by decide)
        simp only [RV.cells, strV, List.getElem?_cons_zero, List.getElem?_cons_succ, Nat.add_zero] at d0 d1 d2 d3 d4 d5 d6 d7
        clear hcells
        simp only [RV.cells, strV] at hX
        generalize (⟨key.toArray⟩ : ByteArray) = K at *
        generalize hc : cmpK key s.data.toList = r at *
        clear hc
        go_wp2_with (go_at_call 88; refine (hX _).mono ?_; rintro e w' ⟨rfl, hb'⟩)
        go_ret2
        refine ⟨⟨hi, HP.out, ?_⟩, hB.out.trans (hb'.mono hB.out.size)⟩
        rw [HD.out]
        congr 3
      · have hD : (decide (s.data.toList ∈ es.map (·.key))) = false := by
          rw [decide_eq_false_iff_not, hF]
          rintro ⟨h, _⟩
          simp at h; omega
        have HP : Hid _ := hP
        have HD : Hid _ := hD
        clear hP hF hD
        go_wp2
        go_ret2
        exact ⟨⟨hi, HP.out, by rw [HD.out]; rfl⟩, hB.out⟩

set_option maxHeartbeats 1000000 in
theorem BSR_nil (s : ByteArray) (w : World) :
    Calls Tryz.prog 87 #[.slice none 0 0, .string s, .func (.func 88) #[] #[]] w fun e w' => FoundAns [] s.data.toList e ∧ Below w.heap.size w w' := by
  go_enter Tryz.func87, Tryz.ntmps87
  go_wp2
  go_loop [9, 10] (fun a b => a = .int .i64 0 ∧ b = .int .i64 0) (fun _ _ => 0)
  case atStart => exact ⟨rfl, rfl⟩
  case round =>
    obtain ⟨rfl, rfl⟩ := hrel
    go_wp2
    go_ret2
    exact ⟨⟨0, ⟨Nat.zero_le _, fun t h => by simp at h, fun t h => by simp at h⟩, by simp⟩, Below.refl _ _⟩

/-- the list that lies in block L has these entries -/
structure ListR (w : World) (L : Nat) (es : List RV) : Prop where
  row : ∃ v, w.cell? ⟨L, 0, none⟩ = some v ∧ RowR w v es ∧ v.ownBlock ≠ some L
  fr : w.frozen? ⟨L, 0, none⟩ = false
  up : Rising (es.map (·.key))
  few : es.length ≤ 1000000

theorem findR_any (L : Nat) (es : List RV) (s : ByteArray) (w : World) (h : ListR w L es) :
    Calls Tryz.prog 70 #[.pointer (some ⟨L, 0, none⟩), .string s] w fun e w' => FoundAns (es.map (·.key)) s.data.toList e ∧ Below w.heap.size w w' := by
  obtain ⟨v, hv, hrow, _⟩ := h.row
  have hB : ∀ u, u = w → Calls Tryz.prog 87 #[v, .string s, .func (.func 88) #[] #[]] u fun e w' => FoundAns (es.map (·.key)) s.data.toList e ∧ Below u.heap.size u w' := by
    rintro u rfl
    rcases hrow.2 with ⟨rfl, h0⟩ | ⟨g, cap, cur, rfl, _⟩
    · obtain rfl : es = [] := List.eq_nil_of_length_eq_zero h0
      exact BSR_nil s u
    · exact BSR_any g cap es s u hrow h.few h.up
  obtain ⟨p, l, c, rfl⟩ : ∃ p l c, v = .slice p l c := by
    rcases hrow.2 with ⟨rfl, _⟩ | ⟨g, cap, cur, rfl, _⟩
    · exact ⟨_, _, _, rfl⟩
    · exact ⟨_, _, _, rfl⟩
  clear hrow
  go_enter Tryz.func70, Tryz.ntmps70
  go_wp2_with fail
  refine (hB w rfl).mono ?_
  rintro e w' ⟨⟨q, hq, rfl⟩, hb⟩
  have HQ : Hid _ := hq
  clear hq hB
  generalize hd : decide (s.data.toList ∈ es.map (·.key)) = d at *
  have HD : Hid (decide (s.data.toList ∈ es.map (·.key)) = d) := hd
  clear hd
  go_wp2
  go_ret2
  exact ⟨⟨q, HQ.out, by rw [HD.out]; rfl⟩, hb⟩

theorem HasR_any (L : Nat) (es : List RV) (s : ByteArray) (w : World) (h : ListR w L es) :
    Calls Tryz.prog 60 #[.pointer (some ⟨L, 0, none⟩), .string s] w fun e w' => e = .returned (.bool (decide (s.data.toList ∈ es.map (·.key)))) ∧ Below w.heap.size w w' := by
  have hF := findR_any L es s w h
  go_enter Tryz.func60, Tryz.ntmps60
  go_wp2_with fail
  refine hF.mono ?_
  rintro e w' ⟨⟨q, hq, rfl⟩, hb⟩
  clear hF hq
  generalize hd : decide (s.data.toList ∈ es.map (·.key)) = d at *
  have HD : Hid (decide (s.data.toList ∈ es.map (·.key)) = d) := hd
  clear hd
  go_wp2
  go_ret
  exact ⟨by rw [HD.out]; rfl, hb⟩

theorem LenR_any (L : Nat) (es : List RV) (w : World) (h : ListR w L es) :
    Calls Tryz.prog 61 #[.pointer (some ⟨L, 0, none⟩)] w fun e w' => e = .returned (.int .i64 (es.length : Nat)) ∧ w' = w := by
  obtain ⟨v, hv, hrow, _⟩ := h.row
  obtain ⟨p, c, rfl⟩ : ∃ p c, v = .slice p es.length c := by
    rcases hrow.2 with ⟨rfl, h0⟩ | ⟨g, cap, cur, rfl, _⟩
    · rw [h0]; exact ⟨_, _, rfl⟩
    · exact ⟨_, _, rfl⟩
  clear hrow
  generalize es.length = n at *
  go_enter Tryz.func61, Tryz.ntmps61
  go_wp2
  go_ret
  exact ⟨rfl, rfl⟩
end Go.Proofs.YtlgodpadcilcaaaGreatDoor
namespace Go.Proofs.YtlgodpadcilcaaaGreatDoor
open Go.ChangeShapes Go.WideShapes Go.ChangeAt Go.RowKit

theorem infoT : (Tryz.prog.info? 158).map (fun i => (i.zero, i.size, i.bytes)) = some (some (.agg #[.string ⟨#[]⟩, .pointer none]), 2, 24) := by kernel_rfl
theorem TV.one (x : TV) : ∀ u ∈ x.cells, u.oneCell' = true := by
  intro u hu
  simp [TV.cells, strV] at hu
  rcases hu with rfl | rfl <;> rfl

/-- what Insert answers -/
def InsT (w : World) (v : Value) (es : List TV) (e : Ending) (w' : World) : Prop :=
  ∃ g cap, e = .returned (.slice (some ⟨g, 0, none⟩) es.length cap) ∧ RowT w' (.slice (some ⟨g, 0, none⟩) es.length cap) es ∧ w.grownBy w' v.ownBlock ∧ (v.ownBlock = some g ∨ w.heap.size ≤ g)

set_option maxHeartbeats 2000000 in
set_option maxRecDepth 100000 in
theorem InsertT_end (v : Value) (es : List TV) (x : TV) (F : Nat) (w : World) (h : RowT w v es) (hl : es.length ≤ 1000) (hF : w.heap[F]? = some (.cells x.cells.toArray 158 (0, 0))) :
    Calls Tryz.prog 85 #[v, .int .i64 (es.length : Nat), .slice (some ⟨F, 0, none⟩) 1 1] w fun e w' => InsT w v (es ++ [x]) e w' := by
  obtain ⟨i0, hi, hz0, hz1, hz2⟩ := info_parts infoT
  have hnews := World.news_of_block (cs := x.cells.toArray) (t := 158) (fr := (0, 0)) hF
  have hone := x.one
  have HX : Hid (((es ++ [x]).map TV.cells).flatten = (es.map TV.cells).flatten ++ x.cells) := by show _ = _; simp
  have hxl := x.len
  have hbs : (es.length : Int) = (es.length : Nat) := rfl
  clear hbs
  have key : ∀ (a0 : Option Addr) (c : Nat), v = .slice a0 es.length c → es.length ≤ c → Calls Tryz.prog 85 #[.slice a0 es.length c, .int .i64 (es.length : Nat), .slice (some ⟨F, 0, none⟩) 1 1] w fun e w' => InsT w v (es ++ [x]) e w' := by
    intro a0 c hv hc
    have hown : w.ownsRow 0 158 2 (.slice a0 es.length c) es.length (es.map TV.cells).flatten := by rw [← hv]; exact h
    have HV : Hid _ := hv
    have HO : Hid _ := hown
    clear hv h hF
    generalize hn : es.length = n at *
    have HN : Hid (es.length = n) := hn
    clear hn
    generalize (es.map TV.cells).flatten = XS at *
    generalize x.cells = nw at *
    go_enter Tryz.func85, Tryz.ntmps85
    go_wp2_with (at_builtin; refine wpList_append_lies _ rfl _ _ 45 rfl 0 158 i0 _ 2 24 Tryz.underlying45 hi hz0 hz1 hz2 rfl (by decide) _ _ _ rfl HO.out ⟨F, 0, none⟩ 1 1 nw rfl (by rw [hxl]) hnews hone (by decide) (by unfold maxLen; omega) (by omega) (by omega) _ rfl ?_; intro g cap w1 hown1 hgrow1 hat1 hlt1)
    all_goals go_ret
    all_goals have hl1 : (es ++ [x]).length = n + 1 := by rw [List.length_append, HN.out]; rfl
    all_goals refine ⟨g, cap, by rw [hl1]; rfl, ?_, by rw [HV.out]; exact hgrow1, by rw [HV.out]; exact orTo hat1 (fun e => Nat.le_of_eq e.symm)⟩
    all_goals unfold RowT
    all_goals rw [hl1, HX.out]
    all_goals exact hown1
  rcases h.2 with ⟨hv, h0⟩ | ⟨g, cap, cur, hv, _, _, hc, _⟩
  · have := key none 0 (by rw [hv, h0]) (by omega)
    rw [hv]
    rw [h0] at this ⊢
    rw [hv] at this
    exact this
  · have := key (some ⟨g, 0, none⟩) cap hv hc
    rw [hv] at this ⊢
    exact this
end Go.Proofs.YtlgodpadcilcaaaGreatDoor
namespace Go.Proofs.YtlgodpadcilcaaaGreatDoor
open Go.ChangeShapes Go.WideShapes Go.ChangeAt Go.RowKit

theorem infoR : (Tryz.prog.info? 146).map (fun i => (i.zero, i.size, i.bytes)) = some (some (.agg #[.string ⟨#[]⟩, .bool false, .int .i64 0, .string ⟨#[]⟩, .string ⟨#[]⟩, .slice none 0 0, .int .i64 0, .int .i64 0]), 8, 104) := by kernel_rfl
theorem RV.one (x : RV) : ∀ u ∈ x.cells, u.oneCell' = true := by
  intro u hu
  simp [RV.cells, strV] at hu
  rcases hu with rfl | rfl | rfl | rfl | rfl | rfl | rfl | rfl <;> rfl

/-- what Insert answers -/
def InsR (w : World) (v : Value) (es : List RV) (e : Ending) (w' : World) : Prop :=
  ∃ g cap, e = .returned (.slice (some ⟨g, 0, none⟩) es.length cap) ∧ RowR w' (.slice (some ⟨g, 0, none⟩) es.length cap) es ∧ w.grownBy w' v.ownBlock ∧ (v.ownBlock = some g ∨ w.heap.size ≤ g)

set_option maxHeartbeats 2000000 in
set_option maxRecDepth 100000 in
theorem InsertR_end (v : Value) (es : List RV) (x : RV) (F : Nat) (w : World) (h : RowR w v es) (hl : es.length ≤ 1000) (hF : w.heap[F]? = some (.cells x.cells.toArray 146 (0, 0))) :
    Calls Tryz.prog 71 #[v, .int .i64 (es.length : Nat), .slice (some ⟨F, 0, none⟩) 1 1] w fun e w' => InsR w v (es ++ [x]) e w' := by
  obtain ⟨i0, hi, hz0, hz1, hz2⟩ := info_parts infoR
  have hnews := World.news_of_block (cs := x.cells.toArray) (t := 146) (fr := (0, 0)) hF
  have hone := x.one
  have HX : Hid (((es ++ [x]).map RV.cells).flatten = (es.map RV.cells).flatten ++ x.cells) := by show _ = _; simp
  have hxl := x.len
  have hbs : (es.length : Int) = (es.length : Nat) := rfl
  clear hbs
  have key : ∀ (a0 : Option Addr) (c : Nat), v = .slice a0 es.length c → es.length ≤ c → Calls Tryz.prog 71 #[.slice a0 es.length c, .int .i64 (es.length : Nat), .slice (some ⟨F, 0, none⟩) 1 1] w fun e w' => InsR w v (es ++ [x]) e w' := by
    intro a0 c hv hc
    have hown : w.ownsRow 0 146 8 (.slice a0 es.length c) es.length (es.map RV.cells).flatten := by rw [← hv]; exact h
    have HV : Hid _ := hv
    have HO : Hid _ := hown
    clear hv h hF
    generalize hn : es.length = n at *
    have HN : Hid (es.length = n) := hn
    clear hn
    generalize (es.map RV.cells).flatten = XS at *
    generalize x.cells = nw at *
    go_enter Tryz.func71, Tryz.ntmps71
    go_wp2_with (at_builtin; refine wpList_append_lies _ rfl _ _ 130 rfl 0 146 i0 _ 8 104 Tryz.underlying130 hi hz0 hz1 hz2 rfl (by decide) _ _ _ rfl HO.out ⟨F, 0, none⟩ 1 1 nw rfl (by rw [hxl]) hnews hone (by decide) (by unfold maxLen; omega) (by omega) (by omega) _ rfl ?_; intro g cap w1 hown1 hgrow1 hat1 hlt1)
    all_goals go_ret
    all_goals have hl1 : (es ++ [x]).length = n + 1 := by rw [List.length_append, HN.out]; rfl
    all_goals refine ⟨g, cap, by rw [hl1]; rfl, ?_, by rw [HV.out]; exact hgrow1, by rw [HV.out]; exact orTo hat1 (fun e => Nat.le_of_eq e.symm)⟩
    all_goals unfold RowR
    all_goals rw [hl1, HX.out]
    all_goals exact hown1
  rcases h.2 with ⟨hv, h0⟩ | ⟨g, cap, cur, hv, _, _, hc, _⟩
  · have := key none 0 (by rw [hv, h0]) (by omega)
    rw [hv]
    rw [h0] at this ⊢
    rw [hv] at this
    exact this
  · have := key (some ⟨g, 0, none⟩) cap hv hc
    rw [hv] at this ⊢
    exact this
end Go.Proofs.YtlgodpadcilcaaaGreatDoor
namespace Go.Proofs.YtlgodpadcilcaaaGreatDoor
open Go.ChangeShapes Go.WideShapes Go.ChangeAt Go.RowKit

/-- copying elements of K cells into a row that is known whole -/
theorem run_copy_rowK {P : Program} (K : Nat) (w : World) (dT sT ty elem : TypeId) (g o dLen dCap : Nat) (a : Addr) (sLen sCap : Nat) (cur : Array Value) (t : TypeId) (cs : List Value)
    (hu : P.underlying dT = some (.slice elem)) (hs : (P.info? elem).map (·.size) = some K)
    (hg : w.heap[g]? = some (.cells cur t (0, 0))) (m : Nat) (hm : Nat.min sLen dLen = m) (hn : cs.length = m * K)
    (hsrc : ∀ j v, cs[j]? = some v → w.cell? (a.add j) = some v) (hfit : o + cs.length ≤ cur.size) (h1 : ∀ v ∈ cs, v.oneCell' = true) :
    (Builtin.copy_ #[dT, sT] ty #[.slice (some ⟨g, o, none⟩) dLen dCap, .slice (some a) sLen sCap]).run P w =
      .ok (goInt m) (w.setRow g (cur.toList.take o ++ cs ++ cur.toList.drop (o + cs.length)).toArray) := by
  have hl := run_loadCells_list (P := P) w a cs hsrc
  have hst := run_storeCells_at P g o t cs 0 cur w hg (by simpa using hfit) h1
  rw [hn] at hl
  cases hq : P.info? elem with
  | none => simp [hq] at hs
  | some i =>
    have hi : i.size = K := by simpa [hq] using hs
    simp [Builtin.copy_, run_underlying hu, Builtin.lenOf, Builtin.firstCells, sizeOf, typeInfo, hq, hi, hm, hl, hst]

theorem row_grow (XS nw Z : List Value) (a : Nat) (ha : a ≤ XS.length) :
    (((XS.take a ++ Z).take a ++ nw ++ (XS.take a ++ Z).drop (a + nw.length)).take (a + nw.length) ++ XS.drop a ++ ((XS.take a ++ Z).take a ++ nw ++ (XS.take a ++ Z).drop (a + nw.length)).drop (a + nw.length + (XS.drop a).length)).take (XS.length + nw.length) = XS.take a ++ nw ++ XS.drop a := by
  have hA : (XS.take a).length = a := by rw [List.length_take]; omega
  have e1 : (XS.take a ++ Z).take a = XS.take a := by rw [List.take_left' hA]
  have e2 : ((XS.take a ++ nw) ++ (XS.take a ++ Z).drop (a + nw.length)).take (a + nw.length) = XS.take a ++ nw := List.take_left' (by simp [hA])
  rw [e1, e2]
  exact List.take_left' (by simp [hA]; omega)
theorem row_shift (XS nw cur : List Value) (a : Nat) (ha : a ≤ XS.length) (hc : cur.take XS.length = XS) (hl : XS.length + nw.length ≤ cur.length) :
    ((cur.take (a + nw.length) ++ XS.drop a ++ cur.drop (a + nw.length + (XS.drop a).length)).take a ++ nw ++ (cur.take (a + nw.length) ++ XS.drop a ++ cur.drop (a + nw.length + (XS.drop a).length)).drop (a + nw.length)).take (XS.length + nw.length) = XS.take a ++ nw ++ XS.drop a := by
  have h1 : (cur.take (a + nw.length)).length = a + nw.length := by rw [List.length_take]; omega
  have e0 : cur.take a = XS.take a := by rw [← hc, List.take_take, Nat.min_eq_left ha]
  have e1 : (cur.take (a + nw.length) ++ XS.drop a ++ cur.drop (a + nw.length + (XS.drop a).length)).take a = XS.take a := by
    rw [List.append_assoc, List.take_append_of_le_length (by omega), List.take_take, Nat.min_eq_left (by omega), e0]
  have e2 : (cur.take (a + nw.length) ++ XS.drop a ++ cur.drop (a + nw.length + (XS.drop a).length)).drop (a + nw.length) = XS.drop a ++ cur.drop (a + nw.length + (XS.drop a).length) := by
    rw [List.append_assoc, List.drop_left' h1]
  rw [e1, e2, ← List.append_assoc]
  exact List.take_left' (by simp; omega)
end Go.Proofs.YtlgodpadcilcaaaGreatDoor
namespace Go.Proofs.YtlgodpadcilcaaaGreatDoor
open Go.ChangeShapes Go.WideShapes Go.ChangeAt Go.RowKit

theorem flat_takeT (es : List TV) (i : Nat) : ((es.take i).map TV.cells).flatten = (es.map TV.cells).flatten.take (i * 2) := by
  induction es generalizing i with
  | nil => simp
  | cons x r ih =>
    cases i with
    | zero => simp
    | succ i =>
      simp only [List.take_succ_cons, List.map_cons, List.flatten_cons]
      rw [ih, List.take_append, x.len, show (i + 1) * 2 - 2 = i * 2 by omega, List.take_of_length_le (l := x.cells) (by rw [x.len]; omega)]
theorem flat_dropT (es : List TV) (i : Nat) : ((es.drop i).map TV.cells).flatten = (es.map TV.cells).flatten.drop (i * 2) := by
  induction es generalizing i with
  | nil => simp
  | cons x r ih =>
    cases i with
    | zero => simp
    | succ i =>
      simp only [List.drop_succ_cons, List.map_cons, List.flatten_cons]
      rw [ih, List.drop_append, x.len, show (i + 1) * 2 - 2 = i * 2 by omega, List.drop_of_length_le (l := x.cells) (by rw [x.len]; omega), List.nil_append]
theorem flat_insT (es : List TV) (x : TV) (i : Nat) : ((es.take i ++ x :: es.drop i).map TV.cells).flatten = (es.map TV.cells).flatten.take (i * 2) ++ x.cells ++ (es.map TV.cells).flatten.drop (i * 2) := by
  rw [List.map_append, List.flatten_append, List.map_cons, List.flatten_cons, flat_takeT, flat_dropT, List.append_assoc]
theorem one_flatT (es : List TV) : ∀ u ∈ (es.map TV.cells).flatten, u.oneCell' = true := by
  intro u hu
  obtain ⟨l, hl, hu⟩ := List.mem_flatten.1 hu
  obtain ⟨x, _, rfl⟩ := List.mem_map.1 hl
  exact x.one u hu

set_option maxHeartbeats 4000000 in
set_option maxRecDepth 100000 in
theorem InsertT_shift (g cap : Nat) (es : List TV) (x : TV) (i F : Nat) (w : World) (h : RowT w (.slice (some ⟨g, 0, none⟩) es.length cap) es) (hi : i < es.length) (hroom : es.length + 1 ≤ cap)
    (hF : w.heap[F]? = some (.cells x.cells.toArray 158 (0, 0))) (hgF : F ≠ g) :
    Calls Tryz.prog 85 #[.slice (some ⟨g, 0, none⟩) es.length cap, .int .i64 (i : Nat), .slice (some ⟨F, 0, none⟩) 1 1] w fun e w' => InsT w (.slice (some ⟨g, 0, none⟩) es.length cap) (es.take i ++ x :: es.drop i) e w' := by
  obtain ⟨i0, hi0, hz0, hz1, hz2⟩ := info_parts infoT
  have hsz : (Tryz.prog.info? 158).map (·.size) = some 2 := by rw [hi0]; simp [hz1]
  obtain ⟨cur, hcur, hcm, hcs, htk⟩ : ∃ cur : Array Value, w.heap[g]? = some (.cells cur 158 (0, 0)) ∧ cap ≤ maxLen ∧ cur.size = cap * 2 ∧ cur.toList.take (es.length * 2) = (es.map TV.cells).flatten := by
    rcases h.2 with ⟨e, _⟩ | ⟨g', cap', cur, e, _, h1, _, h2, h3, h4⟩
    · cases e
    · cases e; exact ⟨cur, h1, h2, h3, h4⟩
  have hXl : (es.map TV.cells).flatten.length = es.length * 2 := h.1
  have hone := one_flatT es
  have hnone := x.one
  have hnl : x.cells.length = 2 := x.len
  have HI : Hid (((es.take i ++ x :: es.drop i).map TV.cells).flatten = (es.map TV.cells).flatten.take (i * 2) ++ x.cells ++ (es.map TV.cells).flatten.drop (i * 2)) := flat_insT es x i
  have HL : Hid ((es.take i ++ x :: es.drop i).length = es.length + 1) := by show _ = _; simp; omega
  have hnews := World.news_of_block (cs := x.cells.toArray) (t := 158) (fr := (0, 0)) hF
  have hcells : ∀ j v, (es.map TV.cells).flatten[j]? = some v → w.cell? ⟨g, j, none⟩ = some v := fun j v hj => by
    rw [h.cellAt j (by rw [← hXl]; exact (List.getElem?_eq_some_iff.1 hj).1)]; exact hj
  have hov : ∀ lb cb, (callFunc 100 #[.slice (some ⟨F, 0, none⟩) 1 1, .slice (some ⟨g, (i + 1) * 2, none⟩) lb cb]).run Tryz.prog w = .ok (.value (.bool false)) w := fun lb cb => by
    rw [run_callFunc_extern Tryz.func100 (by kernel_rfl) (by kernel_rfl) (by kernel_rfl) (e := Extern.SlicesOverlaps.overlaps #[45, 45] #[4]) (by kernel_rfl),
      Lib.run_overlaps_apart w 45 4 158 Tryz.underlying45 2 (fun u => by simp [sizeOf, typeInfo, hi0, hz1]) ⟨F, 0, none⟩ ⟨g, (i + 1) * 2, none⟩ 1 1 lb cb hgF 158 158 x.cells.toArray.size cur.size (by unfold World.shape?; rw [hF]) (by unfold World.shape?; rw [hcur]) (by rw [hcs]; omega) (by simp [World.frozen?, hF]) (by simp [World.frozen?, hF])]
    rfl
  generalize hn : es.length = n at *
  have HNn : Hid (es.length = n) := hn
  clear hn
  generalize (es.map TV.cells).flatten = XS at *
  generalize x.cells = nw at *
  have hdl : (XS.drop (i * 2)).length = (n - i) * 2 := by rw [List.length_drop, hXl]; omega
  obtain ⟨R1, hR1⟩ : ∃ R1 : List Value, R1 = cur.toList.take ((i + 1) * 2) ++ XS.drop (i * 2) ++ cur.toList.drop ((i + 1) * 2 + (XS.drop (i * 2)).length) := ⟨_, rfl⟩
  have hcl : cur.toList.length = cap * 2 := by rw [Array.length_toList]; exact hcs
  have hR1l : R1.length = cap * 2 := by
    rw [hR1]
    simp only [List.length_append, List.length_take, List.length_drop, hcl, hXl]
    omega
  have hcp1 : ∀ ty dc sc, (Builtin.copy_ #[45, 45] ty #[.slice (some ⟨g, (i + 1) * 2, none⟩) (n + 1 - (i + 1)) dc, .slice (some ⟨g, i * 2, none⟩) (n + 1 - i) sc]).run Tryz.prog w.drew = .ok (goInt (n - i : Nat)) (w.drew.setRow g R1.toArray) := fun ty dc sc => by
    rw [hR1]
    exact run_copy_rowK 2 w.drew _ _ ty 158 g ((i + 1) * 2) (n + 1 - (i + 1)) dc ⟨g, i * 2, none⟩ (n + 1 - i) sc cur 158 (XS.drop (i * 2)) Tryz.underlying45 hsz hcur (n - i) (by simp only [Nat.min_def]; split <;> omega) hdl
      (fun j v hj => by rw [Addr.add_mid]; exact hcells _ v (by rwa [List.getElem?_drop] at hj)) (by rw [hdl, hcs]; omega) (fun v hv => hone v (List.mem_of_mem_drop hv))
  have hg1 : (w.drew.setRow g R1.toArray).heap[g]? = some (.cells R1.toArray 158 (0, 0)) := setRow_heap _ _ cur _ 158 (0, 0) hcur
  obtain ⟨R2, hR2⟩ : ∃ R2 : List Value, R2 = R1.take (i * 2) ++ nw ++ R1.drop (i * 2 + nw.length) := ⟨_, rfl⟩
  have hcp2 : ∀ (ty : TypeId) dc, (Builtin.copy_ #[45, 45] ty #[.slice (some ⟨g, i * 2, none⟩) (n + 1 - i) dc, .slice (some ⟨F, 0, none⟩) 1 1]).run Tryz.prog (w.drew.setRow g R1.toArray) = .ok (goInt (1 : Nat)) ((w.drew.setRow g R1.toArray).setRow g R2.toArray) := fun ty dc => by
    rw [hR2]
    have := run_copy_rowK (P := Tryz.prog) 2 (w.drew.setRow g R1.toArray) 45 45 ty 158 g (i * 2) (n + 1 - i) dc ⟨F, 0, none⟩ 1 1 R1.toArray 158 nw Tryz.underlying45 hsz hg1 1 (by simp only [Nat.min_def]; split <;> omega) (by omega)
      (fun j v hj => by
        rw [Addr.add_mid, World.cell?_of_block (w := w.drew) (a := ⟨F, 0 + j, none⟩) (setRow_other _ _ _ _ hgF)]
        have := hnews j v hj
        rwa [Addr.add_mid] at this) (by rw [hnl]; simp [hR1l]; omega) hnone
    simpa using this
  have hfin : (R2.take ((n + 1) * 2)) = XS.take (i * 2) ++ nw ++ XS.drop (i * 2) := by
    have := row_shift XS nw cur.toList (i * 2) (by rw [hXl]; omega) (by rw [hXl]; exact htk) (by rw [hXl, hnl, hcl]; omega)
    rw [hXl, hnl] at this
    rw [hR2, hR1, hnl, show (n + 1) * 2 = n * 2 + 2 by omega, show (i + 1) * 2 = i * 2 + 2 by omega]
    exact this
  have hR2l : R2.length = cap * 2 := by
    rw [hR2]
    simp only [List.length_append, List.length_take, List.length_drop, hR1l, hnl]
    omega
  have HF : Hid _ := hfin
  have HG1 : Hid _ := hg1
  have hz2 : ¬ ((i : Int) = (n : Int)) := by omega
  have hz3 : ¬ ((cap : Int) < (n : Int) + 1) := by omega
  have hb2 : ¬ (cap = i + 1) := by omega
  have hb3 : (i : Int) ≤ (n : Int) + 1 := by omega
  have hb4 : ¬ (cap = i) := by omega
  have hin : i ≤ n := by omega
  have hw1 : IntKind.i64.wrap ((i : Int) + 1) = (i : Int) + 1 := by rw [IntKind.wrap_i64]; unfold maxLen at hcm; omega
  have hb1 : (0 : Int) ≤ (i : Int) + 1 := by omega
  have mixed : Tryz.prog.follows .mixedOrders = true := by kernel_rfl
  have htn : ((i : Int) + 1).toNat = i + 1 := by omega
  unfold maxLen at hcm
  clear hfin hg1 hR2 hR1 hcells hnews hone hnone htk hdl hF hcur
  go_enter Tryz.func85, Tryz.ntmps85
  go_wp2_with (simp only [hov])
  go_region_law_o (refine step_copy_runI rfl _ _ 45 45 rfl (.slice (some ⟨g, (i + 1) * 2, none⟩) (n + 1 - (i + 1)) (cap - (i + 1))) (.slice (some ⟨g, i * 2, none⟩) (n + 1 - i) (cap - i)) (by simp [Act.eval, Act.put]) (by simp [Act.eval, Act.put]) (hcp1 3 (cap - (i + 1)) (cap - i)) ?_)
  go_wp2_with (at_builtin; refine wpList_copy_runI _ rfl _ _ 45 45 rfl _ _ rfl rfl (hcp2 _ _) ?_)
  go_ret
  have HGF : Hid ((w.drew.setRow g R1.toArray).setRow g R2.toArray = (w.drew.setRow g R1.toArray).setRow g R2.toArray) := rfl
  refine ⟨g, cap, by rw [HL.out]; rfl, ?_, ?_, .inl rfl⟩
  · unfold RowT
    rw [HL.out, HI.out]
    refine ⟨by rw [← HF.out, List.length_take, hR2l]; omega, .inr ⟨g, cap, R2.toArray, rfl, Nat.zero_le _, setRow_heap _ _ R1.toArray _ 158 (0, 0) HG1.out, by omega, by unfold maxLen; omega, by simp [hR2l], ?_⟩⟩
    rw [List.toList_toArray]
    exact HF.out
  · refine ⟨rfl, rfl, rfl, by simp, fun k hk hne => ?_⟩
    have hkg : k ≠ g := fun e => hne (by rw [e]; rfl)
    rw [setRow_other _ _ _ _ hkg, setRow_other _ _ _ _ hkg]
    rfl
end Go.Proofs.YtlgodpadcilcaaaGreatDoor
namespace Go.Proofs.YtlgodpadcilcaaaGreatDoor
open Go.ChangeShapes Go.WideShapes Go.ChangeAt Go.RowKit

theorem flat_takeR (es : List RV) (i : Nat) : ((es.take i).map RV.cells).flatten = (es.map RV.cells).flatten.take (i * 8) := by
  induction es generalizing i with
  | nil => simp
  | cons x r ih =>
    cases i with
    | zero => simp
    | succ i =>
      simp only [List.take_succ_cons, List.map_cons, List.flatten_cons]
      rw [ih, List.take_append, x.len, show (i + 1) * 8 - 8 = i * 8 by omega, List.take_of_length_le (l := x.cells) (by rw [x.len]; omega)]
theorem flat_dropR (es : List RV) (i : Nat) : ((es.drop i).map RV.cells).flatten = (es.map RV.cells).flatten.drop (i * 8) := by
  induction es generalizing i with
  | nil => simp
  | cons x r ih =>
    cases i with
    | zero => simp
    | succ i =>
      simp only [List.drop_succ_cons, List.map_cons, List.flatten_cons]
      rw [ih, List.drop_append, x.len, show (i + 1) * 8 - 8 = i * 8 by omega, List.drop_of_length_le (l := x.cells) (by rw [x.len]; omega), List.nil_append]
theorem flat_insR (es : List RV) (x : RV) (i : Nat) : ((es.take i ++ x :: es.drop i).map RV.cells).flatten = (es.map RV.cells).flatten.take (i * 8) ++ x.cells ++ (es.map RV.cells).flatten.drop (i * 8) := by
  rw [List.map_append, List.flatten_append, List.map_cons, List.flatten_cons, flat_takeR, flat_dropR, List.append_assoc]
theorem one_flatR (es : List RV) : ∀ u ∈ (es.map RV.cells).flatten, u.oneCell' = true := by
  intro u hu
  obtain ⟨l, hl, hu⟩ := List.mem_flatten.1 hu
  obtain ⟨x, _, rfl⟩ := List.mem_map.1 hl
  exact x.one u hu

set_option maxHeartbeats 4000000 in
set_option maxRecDepth 100000 in
theorem InsertR_shift (g cap : Nat) (es : List RV) (x : RV) (i F : Nat) (w : World) (h : RowR w (.slice (some ⟨g, 0, none⟩) es.length cap) es) (hi : i < es.length) (hroom : es.length + 1 ≤ cap)
    (hF : w.heap[F]? = some (.cells x.cells.toArray 146 (0, 0))) (hgF : F ≠ g) :
    Calls Tryz.prog 71 #[.slice (some ⟨g, 0, none⟩) es.length cap, .int .i64 (i : Nat), .slice (some ⟨F, 0, none⟩) 1 1] w fun e w' => InsR w (.slice (some ⟨g, 0, none⟩) es.length cap) (es.take i ++ x :: es.drop i) e w' := by
  obtain ⟨i0, hi0, hz0, hz1, hz2⟩ := info_parts infoR
  have hsz : (Tryz.prog.info? 146).map (·.size) = some 8 := by rw [hi0]; simp [hz1]
  obtain ⟨cur, hcur, hcm, hcs, htk⟩ : ∃ cur : Array Value, w.heap[g]? = some (.cells cur 146 (0, 0)) ∧ cap ≤ maxLen ∧ cur.size = cap * 8 ∧ cur.toList.take (es.length * 8) = (es.map RV.cells).flatten := by
    rcases h.2 with ⟨e, _⟩ | ⟨g', cap', cur, e, _, h1, _, h2, h3, h4⟩
    · cases e
    · cases e; exact ⟨cur, h1, h2, h3, h4⟩
  have hXl : (es.map RV.cells).flatten.length = es.length * 8 := h.1
  have hone := one_flatR es
  have hnone := x.one
  have hnl : x.cells.length = 8 := x.len
  have HI : Hid (((es.take i ++ x :: es.drop i).map RV.cells).flatten = (es.map RV.cells).flatten.take (i * 8) ++ x.cells ++ (es.map RV.cells).flatten.drop (i * 8)) := flat_insR es x i
  have HL : Hid ((es.take i ++ x :: es.drop i).length = es.length + 1) := by show _ = _; simp; omega
  have hnews := World.news_of_block (cs := x.cells.toArray) (t := 146) (fr := (0, 0)) hF
  have hcells : ∀ j v, (es.map RV.cells).flatten[j]? = some v → w.cell? ⟨g, j, none⟩ = some v := fun j v hj => by
    rw [h.cellAt j (by rw [← hXl]; exact (List.getElem?_eq_some_iff.1 hj).1)]; exact hj
  have hov : ∀ lb cb, (callFunc 90 #[.slice (some ⟨F, 0, none⟩) 1 1, .slice (some ⟨g, (i + 1) * 8, none⟩) lb cb]).run Tryz.prog w = .ok (.value (.bool false)) w := fun lb cb => by
    rw [run_callFunc_extern Tryz.func90 (by kernel_rfl) (by kernel_rfl) (by kernel_rfl) (e := Extern.SlicesOverlaps.overlaps #[130, 130] #[4]) (by kernel_rfl),
      Lib.run_overlaps_apart w 130 4 146 Tryz.underlying130 8 (fun u => by simp [sizeOf, typeInfo, hi0, hz1]) ⟨F, 0, none⟩ ⟨g, (i + 1) * 8, none⟩ 1 1 lb cb hgF 146 146 x.cells.toArray.size cur.size (by unfold World.shape?; rw [hF]) (by unfold World.shape?; rw [hcur]) (by rw [hcs]; omega) (by simp [World.frozen?, hF]) (by simp [World.frozen?, hF])]
    rfl
  generalize hn : es.length = n at *
  have HNn : Hid (es.length = n) := hn
  clear hn
  generalize (es.map RV.cells).flatten = XS at *
  generalize x.cells = nw at *
  have hdl : (XS.drop (i * 8)).length = (n - i) * 8 := by rw [List.length_drop, hXl]; omega
  obtain ⟨R1, hR1⟩ : ∃ R1 : List Value, R1 = cur.toList.take ((i + 1) * 8) ++ XS.drop (i * 8) ++ cur.toList.drop ((i + 1) * 8 + (XS.drop (i * 8)).length) := ⟨_, rfl⟩
  have hcl : cur.toList.length = cap * 8 := by rw [Array.length_toList]; exact hcs
  have hR1l : R1.length = cap * 8 := by
    rw [hR1]
    simp only [List.length_append, List.length_take, List.length_drop, hcl, hXl]
    omega
  have hcp1 : ∀ ty dc sc, (Builtin.copy_ #[130, 130] ty #[.slice (some ⟨g, (i + 1) * 8, none⟩) (n + 1 - (i + 1)) dc, .slice (some ⟨g, i * 8, none⟩) (n + 1 - i) sc]).run Tryz.prog w.drew = .ok (goInt (n - i : Nat)) (w.drew.setRow g R1.toArray) := fun ty dc sc => by
    rw [hR1]
    exact run_copy_rowK 8 w.drew _ _ ty 146 g ((i + 1) * 8) (n + 1 - (i + 1)) dc ⟨g, i * 8, none⟩ (n + 1 - i) sc cur 146 (XS.drop (i * 8)) Tryz.underlying130 hsz hcur (n - i) (by simp only [Nat.min_def]; split <;> omega) hdl
      (fun j v hj => by rw [Addr.add_mid]; exact hcells _ v (by rwa [List.getElem?_drop] at hj)) (by rw [hdl, hcs]; omega) (fun v hv => hone v (List.mem_of_mem_drop hv))
  have hg1 : (w.drew.setRow g R1.toArray).heap[g]? = some (.cells R1.toArray 146 (0, 0)) := setRow_heap _ _ cur _ 146 (0, 0) hcur
  obtain ⟨R2, hR2⟩ : ∃ R2 : List Value, R2 = R1.take (i * 8) ++ nw ++ R1.drop (i * 8 + nw.length) := ⟨_, rfl⟩
  have hcp2 : ∀ (ty : TypeId) dc, (Builtin.copy_ #[130, 130] ty #[.slice (some ⟨g, i * 8, none⟩) (n + 1 - i) dc, .slice (some ⟨F, 0, none⟩) 1 1]).run Tryz.prog (w.drew.setRow g R1.toArray) = .ok (goInt (1 : Nat)) ((w.drew.setRow g R1.toArray).setRow g R2.toArray) := fun ty dc => by
    rw [hR2]
    have := run_copy_rowK (P := Tryz.prog) 8 (w.drew.setRow g R1.toArray) 130 130 ty 146 g (i * 8) (n + 1 - i) dc ⟨F, 0, none⟩ 1 1 R1.toArray 146 nw Tryz.underlying130 hsz hg1 1 (by simp only [Nat.min_def]; split <;> omega) (by omega)
      (fun j v hj => by
        rw [Addr.add_mid, World.cell?_of_block (w := w.drew) (a := ⟨F, 0 + j, none⟩) (setRow_other _ _ _ _ hgF)]
        have := hnews j v hj
        rwa [Addr.add_mid] at this) (by rw [hnl]; simp [hR1l]; omega) hnone
    simpa using this
  have hfin : (R2.take ((n + 1) * 8)) = XS.take (i * 8) ++ nw ++ XS.drop (i * 8) := by
    have := row_shift XS nw cur.toList (i * 8) (by rw [hXl]; omega) (by rw [hXl]; exact htk) (by rw [hXl, hnl, hcl]; omega)
    rw [hXl, hnl] at this
    rw [hR2, hR1, hnl, show (n + 1) * 8 = n * 8 + 8 by omega, show (i + 1) * 8 = i * 8 + 8 by omega]
    exact this
  have hR2l : R2.length = cap * 8 := by
    rw [hR2]
    simp only [List.length_append, List.length_take, List.length_drop, hR1l, hnl]
    omega
  have HF : Hid _ := hfin
  have HG1 : Hid _ := hg1
  have hz2 : ¬ ((i : Int) = (n : Int)) := by omega
  have hz3 : ¬ ((cap : Int) < (n : Int) + 1) := by omega
  have hb2 : ¬ (cap = i + 1) := by omega
  have hb3 : (i : Int) ≤ (n : Int) + 1 := by omega
  have hb4 : ¬ (cap = i) := by omega
  have hin : i ≤ n := by omega
  have hw1 : IntKind.i64.wrap ((i : Int) + 1) = (i : Int) + 1 := by rw [IntKind.wrap_i64]; unfold maxLen at hcm; omega
  have hb1 : (0 : Int) ≤ (i : Int) + 1 := by omega
  have mixed : Tryz.prog.follows .mixedOrders = true := by kernel_rfl
  have htn : ((i : Int) + 1).toNat = i + 1 := by omega
  unfold maxLen at hcm
  clear hfin hg1 hR2 hR1 hcells hnews hone hnone htk hdl hF hcur
  go_enter Tryz.func71, Tryz.ntmps71
  go_wp2_with (simp only [hov])
  go_region_law_o (refine step_copy_runI rfl _ _ 130 130 rfl (.slice (some ⟨g, (i + 1) * 8, none⟩) (n + 1 - (i + 1)) (cap - (i + 1))) (.slice (some ⟨g, i * 8, none⟩) (n + 1 - i) (cap - i)) (by simp [Act.eval, Act.put]) (by simp [Act.eval, Act.put]) (hcp1 3 (cap - (i + 1)) (cap - i)) ?_)
  go_wp2_with (at_builtin; refine wpList_copy_runI _ rfl _ _ 130 130 rfl _ _ rfl rfl (hcp2 _ _) ?_)
  go_ret
  have HGF : Hid ((w.drew.setRow g R1.toArray).setRow g R2.toArray = (w.drew.setRow g R1.toArray).setRow g R2.toArray) := rfl
  refine ⟨g, cap, by rw [HL.out]; rfl, ?_, ?_, .inl rfl⟩
  · unfold RowR
    rw [HL.out, HI.out]
    refine ⟨by rw [← HF.out, List.length_take, hR2l]; omega, .inr ⟨g, cap, R2.toArray, rfl, Nat.zero_le _, setRow_heap _ _ R1.toArray _ 146 (0, 0) HG1.out, by omega, by unfold maxLen; omega, by simp [hR2l], ?_⟩⟩
    rw [List.toList_toArray]
    exact HF.out
  · refine ⟨rfl, rfl, rfl, by simp, fun k hk hne => ?_⟩
    have hkg : k ≠ g := fun e => hne (by rw [e]; rfl)
    rw [setRow_other _ _ _ _ hkg, setRow_other _ _ _ _ hkg]
    rfl
end Go.Proofs.YtlgodpadcilcaaaGreatDoor
