import Derived.Test.YtlgodpadcilcaaaDoorP20
import Derived.Test.YtlgodpadcilcaaaDoorP12
import Derived.Deep.OwnRows
import Derived.Deep.AppendLies
import Derived.BigRegion
import Derived.OwnWalk
namespace Go.Proofs.YtlgodpadcilcaaaDoor
open Go.ChangeShapes Go.WideShapes Go.ChangeAt Go.RowKit

/-- a table: rows of m cells of type tE; their slices in a row of type tR -/
structure Tab2 (w : World) (B tR tE : Nat) (v : Value) (Rs : List Nat) (m : Nat) (E : Nat → Nat → Value) : Prop where
  row : w.ownsRow B tR 1 v Rs.length (Rs.map (fun r => .slice (some ⟨r, 0, none⟩) m m))
  rows : ∀ i (h : i < Rs.length), w.rowIs Rs[i] tE m (E i)
  ge : ∀ r ∈ Rs, B ≤ r
  nodup : Rs.Nodup
  ne : ∀ g, v.ownBlock = some g → g ∉ Rs
theorem Tab2.empty (w : World) (B tR tE m : Nat) (E : Nat → Nat → Value) : Tab2 w B tR tE (.slice none 0 0) [] m E :=
  ⟨⟨rfl, .inl ⟨rfl, rfl⟩⟩, fun _ h => absurd h (Nat.not_lt_zero _), by simp, by simp, by simp⟩
theorem Tab2.lt {w : World} {B tR tE : Nat} {v : Value} {Rs : List Nat} {m : Nat} {E : Nat → Nat → Value} (h : Tab2 w B tR tE v Rs m E) : ∀ g, (v.ownBlock = some g ∨ g ∈ Rs) → B ≤ g ∧ g < w.heap.size := fun g hg => by
  rcases hg with hg | hg
  · exact World.ownsRow.lt h.row g hg
  · obtain ⟨i, hi, rfl⟩ := List.getElem_of_mem hg
    exact ⟨h.ge _ hg, (h.rows i hi).lt⟩
theorem Tab2.keep {w w' : World} {B tR tE : Nat} {v : Value} {Rs : List Nat} {m : Nat} {E : Nat → Nat → Value} (h : Tab2 w B tR tE v Rs m E) (hb : ∀ g, (v.ownBlock = some g ∨ g ∈ Rs) → w'.heap[g]? = w.heap[g]?) : Tab2 w' B tR tE v Rs m E :=
  ⟨owns_same h.row (fun g hg => hb g (.inl hg)), fun i hi => (h.rows i hi).of_block (hb _ (.inr (List.getElem_mem _))), h.ge, h.nodup, h.ne⟩
theorem Tab2.below {w w' : World} {B tR tE : Nat} {v : Value} {Rs : List Nat} {m : Nat} {E : Nat → Nat → Value} (h : Tab2 w B tR tE v Rs m E) (hb : Below w.heap.size w w') : Tab2 w' B tR tE v Rs m E :=
  h.keep fun g hg => hb.block g (h.lt g hg).2
theorem Tab2.form {w : World} {B tR tE : Nat} {v : Value} {Rs : List Nat} {m : Nat} {E : Nat → Nat → Value} (h : Tab2 w B tR tE v Rs m E) : ∃ p c, v = .slice p Rs.length c ∧ (0 < Rs.length → ∃ g, p = some ⟨g, 0, none⟩) := by
  rcases h.row.2 with ⟨e, h0⟩ | ⟨g, cap', cur, e, _⟩
  · rw [h0] at *; exact ⟨_, _, e, fun h => by omega⟩
  · exact ⟨_, _, e, fun _ => ⟨g, rfl⟩⟩
theorem Tab2.at {w : World} {B tR tE : Nat} {g c : Nat} {Rs : List Nat} {m : Nat} {E : Nat → Nat → Value} (h : Tab2 w B tR tE (.slice (some ⟨g, 0, none⟩) Rs.length c) Rs m E) (i : Nat) (hi : i < Rs.length) : w.cell? ⟨g, i, none⟩ = some (.slice (some ⟨Rs[i], 0, none⟩) m m) := by
  rw [h.row.cellAt i (by omega)]
  simp [hi]
theorem Tab2.cell {w : World} {B tR tE : Nat} {v : Value} {Rs : List Nat} {m : Nat} {E : Nat → Nat → Value} (h : Tab2 w B tR tE v Rs m E) (i j : Nat) (hi : i < Rs.length) (hj : j < m) : w.cell? ⟨Rs[i], j, none⟩ = some (E i j) := (h.rows i hi).cell hj
theorem Tab2.congr {w : World} {B tR tE : Nat} {v : Value} {Rs : List Nat} {m : Nat} {E F : Nat → Nat → Value} (h : Tab2 w B tR tE v Rs m E) (e : ∀ i j, i < Rs.length → j < m → E i j = F i j) : Tab2 w B tR tE v Rs m F :=
  ⟨h.row, fun i hi => (h.rows i hi).congr (fun j hj => e i j hi hj), h.ge, h.nodup, h.ne⟩
theorem Tab2.set {w : World} {B tR tE : Nat} {v : Value} {Rs : List Nat} {m : Nat} {E : Nat → Nat → Value} (h : Tab2 w B tR tE v Rs m E) (i j : Nat) (hi : i < Rs.length) (x : Value) : Tab2 (w.setCell ⟨Rs[i], j, none⟩ x) B tR tE v Rs m (fun a b => if a = i ∧ b = j then x else E a b) := by
  refine ⟨owns_same h.row (fun g hg => Below.heap_setCell _ _ _ _ (fun e => ?_)), fun a ha => ?_, h.ge, h.nodup, h.ne⟩
  · exact h.ne g hg (by rw [e]; exact List.getElem_mem _)
  · by_cases e : a = i
    · subst e
      refine ((h.rows a ha).set j x).congr (fun b _ => ?_)
      by_cases e2 : b = j
      · simp [e2]
      · simp [e2]
    · refine ((h.rows a ha).setOther (a := ⟨Rs[i], j, none⟩) (fun e2 => e ((List.getElem_inj h.nodup).1 e2)) x).congr (fun b _ => ?_)
      simp [e]
/-- a row more -/
theorem Tab2.add {w w' : World} {B tR tE : Nat} {v : Value} {Rs : List Nat} {m : Nat} {E : Nat → Nat → Value} (h : Tab2 w B tR tE v Rs m E) {r : Nat} (hr : w.rowIs r tE m (E Rs.length)) (hB : B ≤ r) (hn : r ∉ Rs) (hne : v.ownBlock ≠ some r) {g cap : Nat}
    (hown : w'.ownsRow B tR 1 (.slice (some ⟨g, 0, none⟩) (Rs.length + 1) cap) (Rs.length + 1) (Rs.map (fun r => .slice (some ⟨r, 0, none⟩) m m) ++ [.slice (some ⟨r, 0, none⟩) m m])) (hb : ∀ k, k < w.heap.size → v.ownBlock ≠ some k → w'.heap[k]? = w.heap[k]?) (hg : v.ownBlock = some g ∨ w.heap.size ≤ g) :
    Tab2 w' B tR tE (.slice (some ⟨g, 0, none⟩) (Rs.length + 1) cap) (Rs ++ [r]) m E := by
  refine ⟨by simpa using hown, fun i hi => ?_, fun x hx => ?_, ?_, fun k hk hm => ?_⟩
  · by_cases e : i < Rs.length
    · rw [List.getElem_append_left e]
      exact (h.rows i e).of_block (hb _ (h.rows i e).lt (fun e2 => h.ne _ e2 (List.getElem_mem _)))
    · have : i = Rs.length := by simp at hi; omega
      subst this
      simp only [List.getElem_concat_length]
      exact hr.of_block (hb _ hr.lt hne)
  · rcases List.mem_append.1 hx with hx | hx
    · exact h.ge x hx
    · simp at hx; subst hx; exact hB
  · rw [List.nodup_append]
    exact ⟨h.nodup, by simp, fun a ha b hb e => by simp at hb; subst hb; subst e; exact hn ha⟩
  · cases hk
    rcases List.mem_append.1 hm with hm | hm
    · rcases hg with hg | hg
      · exact h.ne _ hg hm
      · have := (h.lt g (.inr hm)).2; omega
    · simp at hm
      subst hm
      rcases hg with hg | hg
      · exact hne hg
      · have := hr.lt; omega
/-- the block of row i -/
def rowN (Rs : List Nat) (i : Nat) : Nat := Rs.getD i 0
theorem rowN_eq {Rs : List Nat} {i : Nat} (h : i < Rs.length) : rowN Rs i = Rs[i] := by simp [rowN, h]
theorem rowN_mem {Rs : List Nat} {i : Nat} (h : i < Rs.length) : rowN Rs i ∈ Rs := by rw [rowN_eq h]; exact List.getElem_mem _
theorem Tab2.at' {w : World} {B tR tE : Nat} {g k c : Nat} {Rs : List Nat} {m : Nat} {E : Nat → Nat → Value} (h : Tab2 w B tR tE (.slice (some ⟨g, 0, none⟩) k c) Rs m E) (hk : Rs.length = k) (i : Nat) (hi : i < k) : w.cell? ⟨g, i, none⟩ = some (.slice (some ⟨rowN Rs i, 0, none⟩) m m) := by
  subst hk
  rw [rowN_eq hi]
  exact h.at i hi
theorem Tab2.cell' {w : World} {B tR tE : Nat} {v : Value} {Rs : List Nat} {m : Nat} {E : Nat → Nat → Value} (h : Tab2 w B tR tE v Rs m E) (i j : Nat) (hi : i < Rs.length) (hj : j < m) : w.cell? ⟨rowN Rs i, j, none⟩ = some (E i j) := by
  rw [rowN_eq hi]; exact h.cell i j hi hj
theorem Tab2.frozen' {w : World} {B tR tE : Nat} {v : Value} {Rs : List Nat} {m : Nat} {E : Nat → Nat → Value} (h : Tab2 w B tR tE v Rs m E) (i j : Nat) (hi : i < Rs.length) : w.frozen? ⟨rowN Rs i, j, none⟩ = false := by
  rw [rowN_eq hi]; exact (h.rows i hi).frozen j
theorem Tab2.set' {w : World} {B tR tE : Nat} {v : Value} {Rs : List Nat} {m : Nat} {E : Nat → Nat → Value} (h : Tab2 w B tR tE v Rs m E) (i j : Nat) (hi : i < Rs.length) (x : Value) : Tab2 (w.setCell ⟨rowN Rs i, j, none⟩ x) B tR tE v Rs m (fun a b => if a = i ∧ b = j then x else E a b) := by
  rw [rowN_eq hi]; exact h.set i j hi x
theorem Tab2.lt' {w : World} {B tR tE : Nat} {v : Value} {Rs : List Nat} {m : Nat} {E : Nat → Nat → Value} (h : Tab2 w B tR tE v Rs m E) (i : Nat) (hi : i < Rs.length) : B ≤ rowN Rs i ∧ rowN Rs i < w.heap.size := h.lt _ (.inr (rowN_mem hi))
theorem Tab2.head_lt {w : World} {B tR tE : Nat} {g k c : Nat} {Rs : List Nat} {m : Nat} {E : Nat → Nat → Value} (h : Tab2 w B tR tE (.slice (some ⟨g, 0, none⟩) k c) Rs m E) : B ≤ g ∧ g < w.heap.size := h.lt g (.inl rfl)
theorem Tab2.head_ne {w : World} {B tR tE : Nat} {g k c : Nat} {Rs : List Nat} {m : Nat} {E : Nat → Nat → Value} (h : Tab2 w B tR tE (.slice (some ⟨g, 0, none⟩) k c) Rs m E) (i : Nat) (hi : i < Rs.length) : rowN Rs i ≠ g := fun e => h.ne g rfl (by rw [← e]; exact rowN_mem hi)
theorem Tab2.form' {w : World} {B tR tE : Nat} {v : Value} {Rs : List Nat} {m k : Nat} {E : Nat → Nat → Value} (h : Tab2 w B tR tE v Rs m E) (hk : Rs.length = k) : ∃ p c, v = .slice p k c ∧ (0 < k → ∃ g, p = some ⟨g, 0, none⟩) := by
  subst hk; exact h.form
end Go.Proofs.YtlgodpadcilcaaaDoor
namespace Go.Proofs.YtlgodpadcilcaaaDoor
open Go.ChangeShapes Go.WideShapes Go.ChangeAt Go.RowKit

theorem infoB : (Tryd.prog.info? 4).map (fun i => (i.zero, i.size, i.bytes)) = some (some (.bool false), 1, 1) := by kernel_rfl
theorem infoBs : (Tryd.prog.info? 64).map (fun i => (i.zero, i.size, i.bytes)) = some (some (.slice none 0 0), 1, 24) := by kernel_rfl

/-- what Reach keeps while it builds -/
structure RcI (w : World) (n : Nat) (Wl : Nat → Nat → Nat) (v : Value) (a : Nat) (wr : World) : Prop where
  tab : ∃ Rs, Rs.length = a ∧ Tab2 wr w.heap.size 64 4 v Rs n (fun i j => .bool (decide (0 < Wl i j)))
  below : Below w.heap.size w wr

set_option maxRecDepth 100000 in
set_option maxHeartbeats 8000000 in
theorem Reach_any (M : Nat → Nat → Prop) (P n c1 B3 : Nat) (p1 : Option Addr) (v3 : Value) (Rs3 : List Nat) (Wl : Nat → Nat → Nat) (w : World) (hn : n ≤ 36) (h1 : w.cell? ⟨P, 1, none⟩ = some (.slice p1 n c1)) (h3 : w.cell? ⟨P, 3, none⟩ = some v3)
    (hT : Tab2 w B3 60 3 v3 Rs3 n (fun i j => .int .i64 (Wl i j : Nat))) (hL : Rs3.length = n) (hF : Fw M n 0 (fun i j => decide (0 < Wl i j))) :
    Calls Tryd.prog 19 #[.pointer (some ⟨P, 0, none⟩)] w fun e w' => ∃ v Rs X, e = .returned v ∧ Rs.length = n ∧ Tab2 w' w.heap.size 64 4 v Rs n (fun i j => .bool (X i j)) ∧ Fw M n n X ∧ Below w.heap.size w w' := by
  obtain ⟨i0, hi0, hz0, hz1, hz2⟩ := info_parts infoBs
  have hmk := run_make_row' (P := Tryd.prog) 64 4 (.bool false) 1 Tryd.underlying64 infoB rfl .i64 .i64 n (by omega) (by omega)
  have hP : P < w.heap.size := World.block_lt_of_cell? w ⟨P, 1, none⟩ h1
  have HF : Hid _ := hF
  have HT : Hid _ := hT
  obtain ⟨p3, c3, rfl, hp3⟩ := hT.form' hL
  have HL : Hid (Rs3.length = n) := hL
  clear hT hF hL
  go_enter Tryd.func19, Tryd.ntmps19
  go_wp2
  go_loopw [4, 5] (fun s4 s5 wr => ∃ a : Nat, a ≤ n ∧ s5 = .int .i64 (a : Int) ∧ Hid (RcI w n Wl s4 a wr)) (fun _ s5 _ => n - (intOf s5).toNat)
  case atStart => exact ⟨0, Nat.zero_le _, rfl, ⟨[], rfl, Tab2.empty ..⟩, Below.refl _ _⟩
  case round =>
    obtain ⟨a, ha, rfl, HI⟩ := hrel
    rename World => V
    by_cases hlt : a < n
    · obtain ⟨⟨Rs, hRl, hTb⟩, hb⟩ := HI.out
      have hsz := hb.size
      have HTb : Hid _ := hTb
      have HB : Hid _ := hb
      obtain ⟨g3, rfl⟩ := hp3 (by omega)
      have hr3 := HT.out.at' HL.out a hlt
      have hcl := fun j hj => HT.out.cell' a j (by rw [HL.out]; exact hlt) hj
      have hl1 := HT.out.head_lt.2
      have hl2 := (HT.out.lt' a (by rw [HL.out]; exact hlt)).2
      have HC : Hid (∀ w', Below w.heap.size w w' → w'.cell? ⟨P, 3, none⟩ = some (.slice (some ⟨g3, 0, none⟩) n c3) ∧ w'.cell? ⟨g3, a, none⟩ = some (.slice (some ⟨rowN Rs3 a, 0, none⟩) n n) ∧ ∀ j, j < n → w'.cell? ⟨rowN Rs3 a, j, none⟩ = some (.int .i64 (Wl a j : Nat))) := fun w' hb' =>
        ⟨by rw [hb'.cell (p := ⟨P, 3, none⟩) hP]; exact h3, by rw [hb'.cell (p := ⟨g3, a, none⟩) hl1]; exact hr3, fun j hj => by rw [hb'.cell (p := ⟨rowN Rs3 a, j, none⟩) hl2]; exact hcl j hj⟩
      clear hTb hb HI hr3 hcl
      go_upto_region 8 with fail
      have hI0 : (V.alloc (.cells (madeCells #[.bool false] n) 4)).rowIs V.heap.size 4 n (fun j => .bool (decide (j < 0) && decide (0 < Wl a j))) := (World.rowIs_made V (.bool false) n 4).congr (fun j _ => by simp)
      have hI1 : Below V.heap.size V (V.alloc (.cells (madeCells #[.bool false] n) 4)) := (Below.refl _ _).alloc (Nat.le_refl _) _
      have hI2 : (V.alloc (.cells (madeCells #[.bool false] n) 4)).heap.size = V.heap.size + 1 := by simp
      generalize V.alloc (.cells (madeCells #[.bool false] n) 4) = W at *
      have HI0 : Hid (W.rowIs V.heap.size 4 n (fun j => .bool (decide (j < 0) && decide (0 < Wl a j))) ∧ Below V.heap.size V W ∧ W.heap.size = V.heap.size + 1) := ⟨hI0, hI1, hI2⟩
      clear hI0 hI1 hI2
      go_loopw [7] (fun s7 wq => ∃ b : Nat, b ≤ n ∧ s7 = .int .i64 (b : Int) ∧ Hid (wq.rowIs V.heap.size 4 n (fun j => .bool (decide (j < b) && decide (0 < Wl a j))) ∧ Below V.heap.size V wq ∧ wq.heap.size = V.heap.size + 1)) (fun s7 _ => n - (intOf s7).toNat)
      case atStart => exact ⟨0, Nat.zero_le _, rfl, HI0⟩
      case round =>
        obtain ⟨b, hb, rfl, HJ⟩ := hrel
        by_cases hlb : b < n
        · obtain ⟨hrow, hbq, hsq⟩ := HJ.out
          obtain ⟨d1, d2, d3⟩ := HC.out wr (HB.out.trans (hbq.mono hsz))
          have d4 := d3 b hlb
          have d5 := hrow.cell hlb
          have d6 := hrow.frozen b
          clear d3 hrow hbq hsq
          by_cases hpos : 0 < Wl a b
          · have q : ((Wl a b : Nat) : Int) > 0 := by omega
            go_wp2
            go_roundw
            case rel =>
              refine ⟨b + 1, by omega, by go_num, (HJ.out.1.set b (.bool true)).congr (fun j hj => ?_), HJ.out.2.1.setCell (Nat.le_refl _) _, by rw [World.size_setCell]; exact HJ.out.2.2⟩
              by_cases e : j = b
              · subst e; simp [hpos]
              · have : (j < b + 1) ↔ (j < b) := by omega
                simp [e, this]
            case measure => simp [intOf]; omega
          · have q : ¬ ((Wl a b : Nat) : Int) > 0 := by omega
            go_wp2
            go_roundw
            case rel =>
              refine ⟨b + 1, by omega, by go_num, (HJ.out.1.set b (.bool false)).congr (fun j hj => ?_), HJ.out.2.1.setCell (Nat.le_refl _) _, by rw [World.size_setCell]; exact HJ.out.2.2⟩
              by_cases e : j = b
              · subst e; simp [hpos]
              · have : (j < b + 1) ↔ (j < b) := by omega
                simp [e, this]
            case measure => simp [intOf]; omega
        · obtain rfl : b = n := by omega
          obtain ⟨hrow, hbq, hsq⟩ := HJ.out
          have hTq := HTb.out.below hbq
          have hown := hTq.row
          have HTq : Hid _ := hTq
          have HJ2 : Hid _ := HJ.out
          have hsle : w.heap.size ≤ wr.heap.size := by omega
          clear hrow hbq hTq HJ HC HI0 hsq
          rw [hRl] at hown
          have hown2 := hown.alloc (.cells #[.slice (some ⟨V.heap.size, 0, none⟩) b b] 64)
          go_wp2_with (at_builtin; go_loud (refine wpList_append_lies _ rfl _ _ 62 rfl w.heap.size 64 i0 _ 1 24 Tryd.underlying62 hi0 hz0 hz1 hz2 rfl (by decide) _ _ _ rfl hown2 ⟨wr.heap.size, 0, none⟩ 1 1 [.slice (some ⟨V.heap.size, 0, none⟩) b b] rfl rfl ?_ (fun x hx => by simp at hx; subst hx; rfl) (by decide) (by unfold maxLen; omega) (by omega) (by simp; omega) (wr.heap.size + 1) (by simp) ?_; (exact World.news_of_block (cs := #[.slice (some ⟨V.heap.size, 0, none⟩) b b]) (t := 64) (fr := (0, 0)) (heap_alloc_new wr _)); intro g4 cap4 w4 hown4 hgrow4 hat4 hlt4))
          go_roundw
          case rel =>
            refine ⟨a + 1, by omega, by go_num, ⟨Rs ++ [V.heap.size], by simp [hRl], ?_⟩, ?_⟩
            · have hgB : ∀ k, k < wr.heap.size → u4.ownBlock ≠ some k → w4.heap[k]? = wr.heap[k]? := fun k hk hne => (hgrow4.block k (by simp; omega) (fun hm => hne hm.symm)).trans (Below.heap_alloc _ _ _ hk)
              have hown5 : w4.ownsRow w.heap.size 64 1 (.slice (some ⟨g4, 0, none⟩) (Rs.length + 1) cap4) (Rs.length + 1) (Rs.map (fun r => .slice (some ⟨r, 0, none⟩) b b) ++ [.slice (some ⟨V.heap.size, 0, none⟩) b b]) := by rw [hRl]; exact hown4
              have := HTq.out.add (r := V.heap.size) (w' := w4) (g := g4) (cap := cap4) (HJ2.out.1.congr (fun j hj => by simp [hj, hRl])) hsz (fun hm => by have := (HTb.out.lt _ (.inr hm)).2; omega) (fun e => by have := (HTb.out.lt _ (.inl e)).2; omega) hown5 hgB (orTo hat4 (fun e => by omega))
              rw [hRl] at this
              exact this
            · have h1 := HB.out.trans (HJ2.out.2.1.mono hsz)
              have h2 := h1.alloc (by omega) (.cells #[.slice (some ⟨V.heap.size, 0, none⟩) b b] 64)
              exact ⟨hgrow4.os.trans h2.os, hgrow4.tape.trans h2.tape, hgrow4.output.trans h2.output, Nat.le_trans h2.size hgrow4.size, fun k hk => (hgrow4.block k (by simp; omega) (fun hm => by
                have := (HTq.out.lt k (.inl hm.symm)).1; omega)).trans (h2.block k hk)⟩
          case measure => simp [intOf]; omega
    · obtain rfl : a = n := by omega
      obtain ⟨⟨Rs, hRl, hTb⟩, hb⟩ := HI.out
      obtain ⟨p4, c4, rfl, hp4⟩ := hTb.form' hRl
      have HI0 : Hid (∃ X, Tab2 V w.heap.size 64 4 (.slice p4 a c4) Rs a (fun i j => .bool (X i j)) ∧ Fw M a 0 X ∧ Below w.heap.size w V) := ⟨_, hTb, HF.out, hb⟩
      have HRl : Hid _ := hRl
      clear hTb hb HI HT HF hmk hi0 hz0 hz1 hz2 h3 hRl HL
      go_wp2
      go_loopw [8] (fun s8 wq => ∃ k : Nat, k ≤ a ∧ s8 = .int .i64 (k : Int) ∧ Hid (∃ X, Tab2 wq w.heap.size 64 4 (.slice p4 a c4) Rs a (fun i j => .bool (X i j)) ∧ Fw M a k X ∧ Below w.heap.size w wq)) (fun s8 _ => a - (intOf s8).toNat)
      case atStart => exact ⟨0, Nat.zero_le _, rfl, HI0⟩
      case round =>
        clear HI0
        obtain ⟨k, hk, rfl, HK⟩ := hrel
        by_cases hka : k < a
        · go_wp2
          go_loopw [9] (fun s9 wq => ∃ i : Nat, i ≤ a ∧ s9 = .int .i64 (i : Int) ∧ Hid (∃ X, Tab2 wq w.heap.size 64 4 (.slice p4 a c4) Rs a (fun i j => .bool (X i j)) ∧ FwAt M a k i 0 X ∧ Below w.heap.size w wq)) (fun s9 _ => a - (intOf s9).toNat)
          case atStart =>
            obtain ⟨X, x1, x2, x3⟩ := HK.out
            exact ⟨0, Nat.zero_le _, rfl, X, x1, x2.begin, x3⟩
          case round =>
            clear HK
            obtain ⟨i, hi, rfl, HK⟩ := hrel
            by_cases hia : i < a
            · go_wp2
              go_loopw [10] (fun s10 wq => ∃ j : Nat, j ≤ a ∧ s10 = .int .i64 (j : Int) ∧ Hid (∃ X, Tab2 wq w.heap.size 64 4 (.slice p4 a c4) Rs a (fun i j => .bool (X i j)) ∧ FwAt M a k i j X ∧ Below w.heap.size w wq)) (fun s10 _ => a - (intOf s10).toNat)
              case atStart => exact ⟨0, Nat.zero_le _, rfl, HK⟩
              case round =>
                clear HK
                obtain ⟨j, hj, rfl, HK⟩ := hrel
                by_cases hja : j < a
                · obtain ⟨X, x1, x2, x3⟩ := HK.out
                  have HX1 : Hid _ := x1
                  have HX2 : Hid _ := x2
                  have HX3 : Hid _ := x3
                  obtain ⟨g, rfl⟩ := hp4 (by omega)
                  have HIl : Hid (i < Rs.length ∧ k < Rs.length) := by show _ ∧ _; rw [HRl.out]; exact ⟨hia, hka⟩
                  have d1 := x1.at' HRl.out i hia
                  have d2 := x1.at' HRl.out k hka
                  have d3 := x1.cell' i j HIl.out.1 hja
                  have d4 := x1.cell' i k HIl.out.1 hka
                  have d5 := x1.cell' k j HIl.out.2 hja
                  have d6 := x1.frozen' i j HIl.out.1
                  clear x1 x2 x3 HK
                  cases hx : X i j with
                  | true =>
                    rw [hx] at d3
                    go_wp2
                    go_region
                    all_goals go_wp2
                    all_goals go_roundw
                    case rel =>
                      refine ⟨j + 1, by omega, by go_num, fun p q => if p = i ∧ q = j then true else X p q, ?_, HX2.out.step hka hia hja (fun p q _ _ => ?_), ?_⟩
                      · refine Tab2.congr ((HX1.out.set' i j HIl.out.1 (.bool true)).keep (fun _ _ => rfl)) (fun p q _ _ => ?_)
                        by_cases e : p = i ∧ q = j <;> simp [e]
                      · split
                        · simp [*]
                        · rfl
                      · exact ⟨HX3.out.os, HX3.out.tape, HX3.out.output, by have := HX3.out.size; simpa using this, (HX3.out.setCell (p := ⟨rowN Rs i, j, none⟩) (HX1.out.lt' i HIl.out.1).1 _).block⟩
                    case measure => simp [intOf]; omega
                  | false =>
                    rw [hx] at d3
                    cases hx2 : X i k with
                    | false =>
                      rw [hx2] at d4
                      go_wp2
                      go_region
                      all_goals go_wp2
                      all_goals go_roundw
                      case rel =>
                        refine ⟨j + 1, by omega, by go_num, fun p q => if p = i ∧ q = j then false else X p q, ?_, HX2.out.step hka hia hja (fun p q _ _ => ?_), ?_⟩
                        · refine Tab2.congr ((HX1.out.set' i j HIl.out.1 (.bool false)).keep (fun _ _ => rfl)) (fun p q _ _ => ?_)
                          by_cases e : p = i ∧ q = j <;> simp [e]
                        · split
                          · simp [*]
                          · rfl
                        · exact ⟨HX3.out.os, HX3.out.tape, HX3.out.output, by have := HX3.out.size; simpa using this, (HX3.out.setCell (p := ⟨rowN Rs i, j, none⟩) (HX1.out.lt' i HIl.out.1).1 _).block⟩
                      case measure => simp [intOf]; omega
                    | true =>
                      rw [hx2] at d4
                      cases hx3 : X k j with
                      | true =>
                        rw [hx3] at d5
                        go_wp2
                        go_region
                        all_goals go_wp2
                        all_goals go_roundw
                        case rel =>
                          refine ⟨j + 1, by omega, by go_num, fun p q => if p = i ∧ q = j then true else X p q, ?_, HX2.out.step hka hia hja (fun p q _ _ => ?_), ?_⟩
                          · refine Tab2.congr ((HX1.out.set' i j HIl.out.1 (.bool true)).keep (fun _ _ => rfl)) (fun p q _ _ => ?_)
                            by_cases e : p = i ∧ q = j <;> simp [e]
                          · split
                            · simp [*]
                            · rfl
                          · exact ⟨HX3.out.os, HX3.out.tape, HX3.out.output, by have := HX3.out.size; simpa using this, (HX3.out.setCell (p := ⟨rowN Rs i, j, none⟩) (HX1.out.lt' i HIl.out.1).1 _).block⟩
                        case measure => simp [intOf]; omega
                      | false =>
                        rw [hx3] at d5
                        go_wp2
                        go_region
                        all_goals go_wp2
                        all_goals go_roundw
                        case rel =>
                          refine ⟨j + 1, by omega, by go_num, fun p q => if p = i ∧ q = j then false else X p q, ?_, HX2.out.step hka hia hja (fun p q _ _ => ?_), ?_⟩
                          · refine Tab2.congr ((HX1.out.set' i j HIl.out.1 (.bool false)).keep (fun _ _ => rfl)) (fun p q _ _ => ?_)
                            by_cases e : p = i ∧ q = j <;> simp [e]
                          · split
                            · simp [*]
                            · rfl
                          · exact ⟨HX3.out.os, HX3.out.tape, HX3.out.output, by have := HX3.out.size; simpa using this, (HX3.out.setCell (p := ⟨rowN Rs i, j, none⟩) (HX1.out.lt' i HIl.out.1).1 _).block⟩
                        case measure => simp [intOf]; omega
                · obtain rfl : j = a := by omega
                  go_wp2
                  go_roundw
                  case rel =>
                    obtain ⟨X, x1, x2, x3⟩ := HK.out
                    exact ⟨i + 1, by omega, by go_num, X, x1, x2.row, x3⟩
                  case measure => simp [intOf]; omega
            · obtain rfl : i = a := by omega
              go_wp2
              go_roundw
              case rel =>
                obtain ⟨X, x1, x2, x3⟩ := HK.out
                exact ⟨k + 1, by omega, by go_num, X, x1, x2.done, x3⟩
              case measure => simp [intOf]; omega
        · obtain rfl : k = a := by omega
          go_wp2
          go_ret
          obtain ⟨X, x1, x2, x3⟩ := HK.out
          exact ⟨_, Rs, X, rfl, HRl.out, x1, x2, x3⟩
end Go.Proofs.YtlgodpadcilcaaaDoor
namespace Go.Proofs.YtlgodpadcilcaaaDoor
open Go.ChangeShapes Go.WideShapes Go.ChangeAt Go.RowKit

theorem infoIs : (Tryd.prog.info? 60).map (fun i => (i.zero, i.size, i.bytes)) = some (some (.slice none 0 0), 1, 24) := by kernel_rfl

/-- what order keeps from round to round -/
structure OrI (w : World) (n : Nat) (v : Value) (r : Nat) (wr : World) : Prop where
  done : ∃ d : Nat → Bool, wr.rowIs w.heap.size 4 n (fun j => .bool (d j))
  out : ∃ xs, wr.ownsRow (w.heap.size + 1) 60 1 v r xs
  below : Below w.heap.size w wr
/-- what it keeps within a round -/
structure OrJ (V : World) (n : Nat) (v : Value) (a : Nat) (wr : World) : Prop where
  row : ∃ L : List Nat, L.length ≤ a ∧ (∀ x ∈ L, x < n) ∧ wr.ownsRow V.heap.size 3 1 v L.length (L.map (fun x : Nat => Value.int .i64 (x : Int)))
  below : Below V.heap.size V wr

theorem OrJ.more {V : World} {n : Nat} {v : Value} {a : Nat} {U : World} (h : OrJ V n v a U) : OrJ V n v (a + 1) U := by
  obtain ⟨L, h1, h2⟩ := h.row
  exact ⟨⟨L, by omega, h2⟩, h.below⟩
theorem OrJ.drew {V : World} {n : Nat} {v : Value} {a : Nat} {U : World} (h : OrJ V n v a U) (k : Nat) : OrJ V n v a (U.drewN k) := by
  obtain ⟨L, h1, h2, h3⟩ := h.row
  exact ⟨⟨L, h1, h2, owns_same h3 (fun _ _ => rfl)⟩, h.below.trans (below_drewN _ _ _)⟩
theorem OrJ.push {V : World} {n : Nat} {v : Value} {a : Nat} {U w4 : World} {L : List Nat} {g4 cap4 : Nat} {o : Obj} (h : OrJ V n v a U) (ha : a < n) (h1 : L.length ≤ a) (h2 : ∀ x ∈ L, x < n) (h3 : U.ownsRow V.heap.size 3 1 v L.length (L.map (fun x : Nat => Value.int .i64 (x : Int)))) (hg : (U.alloc o).grownBy w4 v.ownBlock)
    (hown : w4.ownsRow V.heap.size 3 1 (.slice (some ⟨g4, 0, none⟩) (L.length + 1) cap4) (L.length + 1) (L.map (fun x : Nat => Value.int .i64 (x : Int)) ++ [.int .i64 (a : Int)])) : OrJ V n (.slice (some ⟨g4, 0, none⟩) (L.length + 1) cap4) (a + 1) w4 := by
  refine ⟨⟨L ++ [a], by simp; omega, fun x hx => ?_, by simpa using hown⟩, ?_⟩
  · rcases List.mem_append.1 hx with hx | hx
    · exact h2 x hx
    · simp at hx; omega
  · have hs := h.below.size
    have b2 := h.below.alloc hs o
    exact ⟨hg.os.trans b2.os, hg.tape.trans b2.tape, hg.output.trans b2.output, Nat.le_trans b2.size hg.size, fun k hk => (hg.block k (by simp; omega) (fun hm => by have := (World.ownsRow.lt h3 k hm.symm).1; omega)).trans (b2.block k hk)⟩
/-- what it keeps while it marks a round as done -/
structure OrK (w U : World) (n : Nat) (wr : World) : Prop where
  row : ∃ d : Nat → Bool, wr.rowIs w.heap.size 4 n (fun j => .bool (d j))
  size : wr.heap.size = U.heap.size
  block : ∀ k, k ≠ w.heap.size → wr.heap[k]? = U.heap[k]?
  below : Below w.heap.size w wr
theorem OrK.set {w U : World} {n : Nat} {wr : World} {d : Nat → Bool} (h : OrK w U n wr) (hr : wr.rowIs w.heap.size 4 n (fun j => .bool (d j))) (x : Nat) : OrK w U n (wr.setCell ⟨w.heap.size, x, none⟩ (.bool true)) := by
  refine ⟨⟨fun j => if j = x then true else d j, (hr.set x (.bool true)).congr (fun j _ => ?_)⟩, by rw [World.size_setCell]; exact h.size, fun k hk => (Below.heap_setCell _ _ _ _ hk).trans (h.block k hk), h.below.setCell (Nat.le_refl _) _⟩
  by_cases e : j = x <;> simp [e]
theorem OrK.close {w U : World} {n : Nat} {wr w4 : World} {v : Value} {r : Nat} {xs ys : List Value} {v4 : Value} {o : Obj} (h : OrK w U n wr) (hx : wr.ownsRow (w.heap.size + 1) 60 1 v r xs) (hg : (wr.alloc o).grownBy w4 v.ownBlock) (hown : w4.ownsRow (w.heap.size + 1) 60 1 v4 (r + 1) ys) : OrI w n v4 (r + 1) w4 := by
  obtain ⟨d, hrow⟩ := h.row
  have hl := hrow.lt
  have hne : ∀ k, k ≤ w.heap.size → v.ownBlock ≠ some k := fun k hk e => by have := (World.ownsRow.lt hx k e).1; omega
  have b2 := h.below.alloc h.below.size o
  refine ⟨⟨d, hrow.of_block ((hg.block _ (by simp; omega) (fun hm => hne _ (Nat.le_refl _) hm.symm)).trans (Below.heap_alloc _ _ _ hl))⟩, ⟨_, hown⟩, ?_⟩
  exact ⟨hg.os.trans b2.os, hg.tape.trans b2.tape, hg.output.trans b2.output, Nat.le_trans b2.size hg.size, fun k hk => (hg.block k (by simp; omega) (fun hm => hne k (by omega) hm.symm)).trans (b2.block k hk)⟩

set_option maxRecDepth 100000 in
set_option maxHeartbeats 8000000 in
theorem order_any (P n c1 B3 B1 : Nat) (p1 : Option Addr) (v3 v1 : Value) (Rs3 Rs1 : List Nat) (Wl : Nat → Nat → Nat) (X : Nat → Nat → Bool) (w : World) (hn : n ≤ 36) (h1 : w.cell? ⟨P, 1, none⟩ = some (.slice p1 n c1)) (h3 : w.cell? ⟨P, 3, none⟩ = some v3)
    (hT : Tab2 w B3 60 3 v3 Rs3 n (fun i j => .int .i64 (Wl i j : Nat))) (hL : Rs3.length = n) (hT1 : Tab2 w B1 64 4 v1 Rs1 n (fun i j => .bool (X i j))) (hL1 : Rs1.length = n) :
    Calls Tryd.prog 20 #[.pointer (some ⟨P, 0, none⟩), v1] w fun e w' => ∃ p l c, e = .returned (.slice p l c) ∧ Below w.heap.size w w' := by
  obtain ⟨i0, hi0, hz0, hz1, hz2⟩ := info_parts infoIs
  obtain ⟨i9, hi9, hy0, hy1, hy2⟩ := info_parts infoI
  have hmk := run_make_row' (P := Tryd.prog) 64 4 (.bool false) 1 Tryd.underlying64 infoB rfl .i64 .i64 n (by omega) (by omega)
  have hP : P < w.heap.size := World.block_lt_of_cell? w ⟨P, 1, none⟩ h1
  obtain ⟨p3, c3, rfl, hp3⟩ := hT.form' hL
  obtain ⟨p2, c2, rfl, hp2⟩ := hT1.form' hL1
  have HC : Hid (∀ w', Below w.heap.size w w' → ∀ a b, a < n → b < n → w'.cell? ⟨P, 3, none⟩ = some (.slice p3 n c3) ∧ (∀ g, p3 = some ⟨g, 0, none⟩ → w'.cell? ⟨g, a, none⟩ = some (.slice (some ⟨rowN Rs3 a, 0, none⟩) n n)) ∧ w'.cell? ⟨rowN Rs3 a, b, none⟩ = some (.int .i64 (Wl a b : Nat)) ∧ (∀ g, p2 = some ⟨g, 0, none⟩ → w'.cell? ⟨g, a, none⟩ = some (.slice (some ⟨rowN Rs1 a, 0, none⟩) n n)) ∧ w'.cell? ⟨rowN Rs1 a, b, none⟩ = some (.bool (X a b))) := fun w' hb a b ha hb' => by
    refine ⟨by rw [hb.cell (p := ⟨P, 3, none⟩) hP]; exact h3, fun g e => ?_, ?_, fun g e => ?_, ?_⟩
    · subst e; rw [hb.cell (p := ⟨g, a, none⟩) hT.head_lt.2]; exact hT.at' hL a ha
    · rw [hb.cell (p := ⟨rowN Rs3 a, b, none⟩) (hT.lt' a (by omega)).2]; exact hT.cell' a b (by omega) hb'
    · subst e; rw [hb.cell (p := ⟨g, a, none⟩) hT1.head_lt.2]; exact hT1.at' hL1 a ha
    · rw [hb.cell (p := ⟨rowN Rs1 a, b, none⟩) (hT1.lt' a (by omega)).2]; exact hT1.cell' a b (by omega) hb'
  clear hT hT1 hL hL1 h3
  go_enter Tryd.func20, Tryd.ntmps20
  go_upto_region 3 with fail
  have hI0 : OrI w n (.slice none 0 0) 0 (w.alloc (.cells (madeCells #[.bool false] n) 4)) := ⟨⟨fun _ => false, World.rowIs_made w (.bool false) n 4⟩, ⟨[], rfl, .inl ⟨rfl, rfl⟩⟩, (Below.refl _ _).alloc (Nat.le_refl _) _⟩
  generalize w.alloc (.cells (madeCells #[.bool false] n) 4) = W at *
  have HI0 : Hid _ := hI0
  clear hI0
  go_wp2
  go_loopw [7, 8] (fun s7 s8 wr => ∃ r : Nat, r ≤ n + 1 ∧ s8 = .int .i64 (r : Int) ∧ Hid (OrI w n s7 r wr)) (fun _ s8 _ => n + 1 - (intOf s8).toNat)
  case atStart => exact ⟨0, Nat.zero_le _, rfl, HI0⟩
  case round =>
    clear HI0
    obtain ⟨r, hr, rfl, HI⟩ := hrel
    rename World => V
    by_cases hlt : r ≤ n
    · obtain ⟨⟨d, hd⟩, _, hb⟩ := HI.out
      have hsz := hb.size
      have hDl := hd.lt
      have HD : Hid (∀ w', Below V.heap.size V w' → ∀ j, j < n → w'.cell? ⟨w.heap.size, j, none⟩ = some (.bool (d j))) := fun w' hb' j hj => by rw [hb'.cell (p := ⟨w.heap.size, j, none⟩) hDl]; exact hd.cell hj
      have HR : Hid (V.rowIs w.heap.size 4 n (fun j => .bool (d j))) := hd
      have HB : Hid (Below w.heap.size w V) := hb
      clear hd hb
      go_wp2
      go_loopw [9, 10] (fun s9 s10 wq => ∃ a : Nat, a ≤ n ∧ s10 = .int .i64 (a : Int) ∧ Hid (OrJ V n s9 a wq)) (fun _ s10 _ => n - (intOf s10).toNat)
      case atStart => exact ⟨0, Nat.zero_le _, rfl, ⟨[], Nat.zero_le _, by simp, rfl, .inl ⟨rfl, rfl⟩⟩, Below.refl _ _⟩
      case round =>
        obtain ⟨a, ha, rfl, HJ⟩ := hrel
        rename World => U
        by_cases hla : a < n
        · have hd0 := HD.out U HJ.out.below a hla
          have HCU : Hid (∀ k, Below w.heap.size w (U.drewN k) ∧ Below V.heap.size V (U.drewN k)) := fun k => ⟨HB.out.trans ((HJ.out.below.trans (below_drewN _ _ _)).mono hsz), HJ.out.below.trans (below_drewN _ _ _)⟩
          go_upto_region 12 with fail
          clear hd0
          go_wp2
          go_loopw [11, 12] (fun s11 s12 wq => ∃ (b k : Nat) (q : Bool), b ≤ n ∧ s12 = .int .i64 (b : Int) ∧ s11 = .bool q ∧ wq = U.drewN k) (fun _ s12 _ => n - (intOf s12).toNat)
          case atStart => exact ⟨0, 0, _, Nat.zero_le _, rfl, rfl, rfl⟩
          case round =>
            obtain ⟨b, k, q, hb, rfl, rfl, rfl⟩ := hrel
            by_cases hlb : b < n ∧ q = true
            · obtain ⟨hlb, rfl⟩ := hlb
              go_wp2
              go_loopw [11, 13] (fun s11 s13 wq => ∃ (c k : Nat) (q : Bool), c ≤ n ∧ s13 = .int .i64 (c : Int) ∧ s11 = .bool q ∧ wq = U.drewN k) (fun _ s13 _ => n - (intOf s13).toNat)
              case atStart => exact ⟨0, _, _, Nat.zero_le _, rfl, rfl, rfl⟩
              case round =>
                obtain ⟨c, k, q, hc, rfl, rfl, rfl⟩ := hrel
                by_cases hlc : c < n
                · obtain ⟨g3, rfl⟩ := hp3 (by omega)
                  obtain ⟨g2, rfl⟩ := hp2 (by omega)
                  obtain ⟨e1, e2, e3, -, -⟩ := HC.out (U.drewN k) (HCU.out k).1 b c hlb hlc
                  obtain ⟨-, -, -, e4, e5⟩ := HC.out (U.drewN k) (HCU.out k).1 a b hla hlb
                  have e6 := HD.out (U.drewN k) (HCU.out k).2 c hlc
                  have e7 := e2 g3 rfl
                  have e8 := e4 g2 rfl
                  clear e2 e4
                  by_cases hba : b = a
                  · subst hba
                    by_cases hw2 : Wl b c = 2
                    · rw [hw2] at e3
                      cases hdc : d c with
                      | true =>
                        rw [hdc] at e6
                        go_wp2
                        go_roundw
                        case rel => exact ⟨c + 1, _, _, by omega, by go_num, rfl, rfl⟩
                        case measure => simp [intOf]; omega
                      | false =>
                        rw [hdc] at e6
                        go_wp2
                        go_roundw
                        case rel => exact ⟨c + 1, _, _, by omega, by go_num, rfl, rfl⟩
                        case measure => simp [intOf]; omega
                    · have q2 : ¬ ((Wl b c : Nat) : Int) = 2 := by omega
                      have q3 : (((Wl b c : Nat) : Int) == 2) = false := by rw [beq_eq_false_iff_ne]; omega
                      go_wp2
                      go_roundw
                      case rel => exact ⟨c + 1, _, _, by omega, by go_num, rfl, rfl⟩
                      case measure => simp [intOf]; omega
                  · have q0 : ¬ ((b : Nat) : Int) = (a : Nat) := by omega
                    have q1 : (((b : Nat) : Int) == ((a : Nat) : Int)) = false := by rw [beq_eq_false_iff_ne]; omega
                    cases hx : X a b with
                    | false =>
                      rw [hx] at e5
                      go_wp2
                      go_roundw
                      case rel => exact ⟨c + 1, _, _, by omega, by go_num, rfl, rfl⟩
                      case measure => simp [intOf]; omega
                    | true =>
                      rw [hx] at e5
                      by_cases hw2 : Wl b c = 2
                      · rw [hw2] at e3
                        cases hdc : d c with
                        | true =>
                          rw [hdc] at e6
                          go_wp2
                          go_roundw
                          case rel => exact ⟨c + 1, _, _, by omega, by go_num, rfl, rfl⟩
                          case measure => simp [intOf]; omega
                        | false =>
                          rw [hdc] at e6
                          go_wp2
                          go_roundw
                          case rel => exact ⟨c + 1, _, _, by omega, by go_num, rfl, rfl⟩
                          case measure => simp [intOf]; omega
                      · have q2 : ¬ ((Wl b c : Nat) : Int) = 2 := by omega
                        have q3 : (((Wl b c : Nat) : Int) == 2) = false := by rw [beq_eq_false_iff_ne]; omega
                        go_wp2
                        go_roundw
                        case rel => exact ⟨c + 1, _, _, by omega, by go_num, rfl, rfl⟩
                        case measure => simp [intOf]; omega
                · go_wp2
                  go_roundw
                  case rel => exact ⟨b + 1, _, _, by omega, by go_num, rfl, rfl⟩
                  case measure => simp [intOf]; omega
            · have HJk : Hid (OrJ V n u9 a (U.drewN k)) := HJ.out.drew k
              clear HJ HCU
              generalize U.drewN k = Uk at *
              cases q with
              | false =>
                by_cases hbn : b < n
                · go_wp2
                  go_roundw
                  case rel => exact ⟨a + 1, by omega, by go_num, HJk.out.more⟩
                  case measure => simp [intOf]; omega
                · go_wp2
                  go_roundw
                  case rel => exact ⟨a + 1, by omega, by go_num, HJk.out.more⟩
                  case measure => simp [intOf]; omega
              | true =>
                have hbn : ¬ b < n := fun h => hlb ⟨h, rfl⟩
                obtain ⟨L, hL1, hL2, hown⟩ := HJk.out.row
                have HL2 : Hid (∀ x ∈ L, x < n) := hL2
                have hsle : V.heap.size ≤ Uk.heap.size := HJk.out.below.size
                have HO : Hid _ := hown
                have hown2 := hown.alloc (.cells #[.int .i64 (a : Int)] 3)
                clear hown hL2
                go_wp2_with (at_builtin; go_loud (refine wpList_append_lies _ rfl _ _ 60 rfl V.heap.size 3 i9 _ 1 8 Tryd.underlying60 hi9 hy0 hy1 hy2 rfl (by decide) _ _ _ rfl hown2 ⟨Uk.heap.size, 0, none⟩ 1 1 [.int .i64 (a : Int)] rfl rfl ?_ (fun x hx => by simp at hx; subst hx; rfl) (by decide) (by unfold maxLen; omega) (by omega) (by simp; omega) (Uk.heap.size + 1) (by simp) ?_; (exact World.news_of_block (cs := #[.int .i64 (a : Int)]) (t := 3) (fr := (0, 0)) (heap_alloc_new Uk _)); intro g4 cap4 w4 hown4 hgrow4 hat4 hlt4))
                go_roundw
                case rel => exact ⟨a + 1, by omega, by go_num, HJk.out.push hla hL1 HL2.out HO.out hgrow4 hown4⟩
                case measure => simp [intOf]; omega
        · obtain rfl : a = n := by omega
          obtain ⟨L, hL1, hL2, hown⟩ := HJ.out.row
          have HK0 : Hid (OrK w U a U) := ⟨⟨d, HR.out.of_block (HJ.out.below.block _ hDl)⟩, rfl, fun _ _ => rfl, HB.out.trans (HJ.out.below.mono hsz)⟩
          obtain ⟨m, hm⟩ : ∃ m, L.length = m := ⟨_, rfl⟩
          have HM : Hid (L.length = m) := hm
          rw [hm] at hown hL1
          have HO : Hid _ := hown
          obtain ⟨p9, c9, hu9, hp9⟩ : ∃ p c, u9 = .slice p m c ∧ (0 < m → ∃ g, p = some ⟨g, 0, none⟩ ∧ V.heap.size ≤ g) := by
            rcases hown.2 with ⟨e, h0⟩ | ⟨g, cap', cur, e, h0⟩
            · rw [h0]; exact ⟨_, _, e, fun h => by omega⟩
            · exact ⟨_, _, e, fun _ => ⟨g, rfl, h0.1⟩⟩
          subst hu9
          have HX : Hid (∀ i, i < m → L.getD i 0 < a) := fun i hi => by
            have hi' : i < L.length := by have := HM.out; omega
            simp only [List.getD_eq_getElem?_getD, List.getElem?_eq_getElem hi', Option.getD_some]
            exact hL2 _ (List.getElem_mem _)
          have HCell : Hid (∀ i, i < m → ∀ g, p9 = some ⟨g, 0, none⟩ → U.cell? ⟨g, i, none⟩ = some (.int .i64 ((L.getD i 0 : Nat) : Int))) := fun i hi g e => by
            subst e
            have hi' : i < L.length := by have := HM.out; omega
            have hO : U.ownsRow V.heap.size 3 1 (.slice (some ⟨g, 0, none⟩) m c9) m (L.map (fun x : Nat => Value.int .i64 (x : Int))) := HO.out
            rw [hO.cellAt i (by omega)]
            simp [hi']
          clear hown hL2 hm
          go_wp2
          go_loopw [14] (fun s14 wq => ∃ i : Nat, i ≤ m ∧ s14 = .int .i64 (i : Int) ∧ Hid (OrK w U a wq)) (fun s14 _ => m - (intOf s14).toNat)
          case atStart => exact ⟨0, Nat.zero_le _, rfl, HK0⟩
          case round =>
            clear HK0
            obtain ⟨i, hi, rfl, HK⟩ := hrel
            by_cases hlm : i < m
            · obtain ⟨g9, rfl, hg9⟩ := hp9 (by omega)
              obtain ⟨d2, hrow⟩ := HK.out.row
              have hxi := HX.out i hlm
              have e1 : wr.cell? ⟨g9, i, none⟩ = some (.int .i64 ((L.getD i 0 : Nat) : Int)) := (World.cell?_of_block (w := U) (a := ⟨g9, i, none⟩) (HK.out.block g9 (by omega))).trans (HCell.out i hlm g9 rfl)
              generalize L.getD i 0 = x at *
              have e2 := hrow.cell hxi
              have e3 := hrow.frozen x
              have HRw : Hid _ := hrow
              clear hrow
              go_wp2
              go_roundw
              case rel => exact ⟨i + 1, by omega, by go_num, HK.out.set HRw.out x⟩
              case measure => simp [intOf]; omega
            · obtain rfl : i = m := by omega
              obtain ⟨xs, hx⟩ := HI.out.out
              have hxq : wr.ownsRow (w.heap.size + 1) 60 1 u7 r xs := owns_same hx (fun g hg => by
                have := World.ownsRow.lt hx g hg
                exact (HK.out.block g (by omega)).trans (HJ.out.below.block g this.2))
              have hown2 := hxq.alloc (.cells #[.slice p9 i c9] 60)
              have hsle : w.heap.size + 1 ≤ wr.heap.size := by
                obtain ⟨d2, hrow⟩ := HK.out.row
                exact hrow.lt
              have HXQ : Hid _ := hxq
              clear hx hxq
              go_wp2_with (at_builtin; go_loud (refine wpList_append_lies _ rfl _ _ 52 rfl (w.heap.size + 1) 60 i0 _ 1 24 Tryd.underlying52 hi0 hz0 hz1 hz2 rfl (by decide) _ _ _ rfl hown2 ⟨wr.heap.size, 0, none⟩ 1 1 [.slice p9 i c9] rfl rfl ?_ (fun x hx => by simp at hx; subst hx; rfl) (by decide) (by unfold maxLen; omega) (by omega) (by simp; omega) (wr.heap.size + 1) (by simp) ?_; (exact World.news_of_block (cs := #[.slice p9 i c9]) (t := 60) (fr := (0, 0)) (heap_alloc_new wr _)); intro g4 cap4 w4 hown4 hgrow4 hat4 hlt4))
              go_roundw
              case rel => exact ⟨r + 1, by omega, by go_num, HK.out.close HXQ.out hgrow4 hown4⟩
              case measure => simp [intOf]; omega
    · obtain ⟨xs, hx⟩ := HI.out.out
      obtain ⟨p7, c7, hu7⟩ : ∃ p c, u7 = .slice p r c := by
        rcases hx.2 with ⟨e, h0⟩ | ⟨g, cap', cur, e, h0⟩
        · rw [h0]; exact ⟨_, _, e⟩
        · exact ⟨_, _, e⟩
      subst hu7
      have HB : Hid (Below w.heap.size w V) := HI.out.below
      clear hx HI
      go_wp2
      go_ret
      exact ⟨_, _, _, rfl, HB.out⟩
end Go.Proofs.YtlgodpadcilcaaaDoor
