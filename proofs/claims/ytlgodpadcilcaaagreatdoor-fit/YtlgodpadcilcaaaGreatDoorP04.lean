import Derived.Test.YtlgodpadcilcaaaGreatDoorP03
import Derived.Test.YtlgodpadcilcaaaGreatDoorP02
namespace Go.Proofs.YtlgodpadcilcaaaGreatDoor
open Go.ChangeShapes Go.WideShapes Go.ChangeAt Go.RowKit

set_option maxHeartbeats 4000000 in
set_option maxRecDepth 100000 in
theorem InsertT_grow (g cap : Nat) (es : List TV) (x : TV) (i F : Nat) (w : World) (h : RowT w (.slice (some ⟨g, 0, none⟩) es.length cap) es) (hi : i < es.length) (hl : es.length ≤ 1000) (hroom : cap < es.length + 1)
    (hF : w.heap[F]? = some (.cells x.cells.toArray 158 (0, 0))) :
    Calls Tryz.prog 85 #[.slice (some ⟨g, 0, none⟩) es.length cap, .int .i64 (i : Nat), .slice (some ⟨F, 0, none⟩) 1 1] w fun e w' => InsT w (.slice (some ⟨g, 0, none⟩) es.length cap) (es.take i ++ x :: es.drop i) e w' := by
  obtain ⟨i0, hi0, hz0, hz1, hz2⟩ := info_parts infoT
  have hsz : (Tryz.prog.info? 158).map (·.size) = some 2 := by rw [hi0]; simp [hz1]
  have hnc : es.length ≤ cap := by
    rcases h.2 with ⟨e, _⟩ | ⟨g', cap', cur, e, _, _, h2, _⟩
    · cases e
    · cases e; exact h2
  have hgw : g < w.heap.size := (h.lt g rfl).2
  have hFw : F < w.heap.size := (Array.getElem?_eq_some_iff.1 hF).1
  have hXl : (es.map TV.cells).flatten.length = es.length * 2 := h.1
  have hone := one_flatT es
  have hnone := x.one
  have hnl : x.cells.length = 2 := x.len
  have HI : Hid (((es.take i ++ x :: es.drop i).map TV.cells).flatten = (es.map TV.cells).flatten.take (i * 2) ++ x.cells ++ (es.map TV.cells).flatten.drop (i * 2)) := flat_insT es x i
  have HL : Hid ((es.take i ++ x :: es.drop i).length = es.length + 1) := by show _ = _; simp; omega
  have hnews := World.news_of_block (cs := x.cells.toArray) (t := 158) (fr := (0, 0)) hF
  have hcells : ∀ j v, (es.map TV.cells).flatten[j]? = some v → w.cell? ⟨g, j, none⟩ = some v := fun j v hj => by
    rw [h.cellAt j (by rw [← hXl]; exact (List.getElem?_eq_some_iff.1 hj).1)]; exact hj
  generalize hn : es.length = n at *
  have HNn : Hid (es.length = n) := hn
  clear hn hF
  generalize (es.map TV.cells).flatten = XS at *
  generalize x.cells = nw at *
  have hdl : (XS.drop (i * 2)).length = (n - i) * 2 := by rw [List.length_drop, hXl]; omega
  have htl : (XS.take (i * 2)).length = i * 2 := by rw [List.length_take, hXl]; omega
  have hold : (Builtin.firstCells i0.size i (.slice (some ⟨g, 0, none⟩) i cap)).run Tryz.prog w.drew = .ok (XS.take (i * 2)).toArray w.drew := by
    rw [hz1]
    exact run_firstCells_some w.drew 2 i ⟨g, 0, none⟩ i cap (XS.take (i * 2)) (by rw [htl]) (fun j v hj => by
      rw [Addr.add_mid, Nat.zero_add]
      rw [List.getElem?_take] at hj
      split at hj
      · exact hcells j v hj
      · cases hj)
  obtain ⟨G, hG⟩ : ∃ G, G = grownCap w (n + 1) cap 158 := ⟨_, rfl⟩
  have hGn : n + 1 ≤ G := by rw [hG]; exact grownCap_ge w _ _ _
  have hG63 : G ≤ maxLen := by rw [hG]; exact grownCap_le_maxLen w (n + 1) cap 158 (by unfold maxLen; omega)
  obtain ⟨Z, hZ⟩ : ∃ Z : List Value, Z = (Builtin.zeroCells (Value.agg #[.string ⟨#[]⟩, .pointer none]).cells (n + 1 - i)).toList ++ (Builtin.zeroCells (Value.agg #[.string ⟨#[]⟩, .pointer none]).cells (G - (n + 1))).toList := ⟨_, rfl⟩
  have hzc : ∀ k, (Builtin.zeroCells (Value.agg #[.string ⟨#[]⟩, .pointer none]).cells k).size = k * 2 := fun k => by
    simp [Builtin.zeroCells, Value.cells]
  have hZl : Z.length = (G - i) * 2 := by
    rw [hZ, List.length_append, Array.length_toList, Array.length_toList, hzc, hzc]; omega
  obtain ⟨ROW, hROW⟩ : ∃ ROW : List Value, ROW = XS.take (i * 2) ++ Z := ⟨_, rfl⟩
  have hRl : ROW.length = G * 2 := by rw [hROW, List.length_append, htl, hZl]; omega
  have hrz : ∀ ty, (Builtin.append_ #[45, 3] ty #[.slice (some ⟨g, 0, none⟩) i cap, .int .i64 ((n : Int) + 1 - (i : Int))]).run Tryz.prog w =
      .ok (.slice (some ⟨w.heap.size, 0, none⟩) (n + 1) G) (w.alloc (.cells ROW.toArray 158)).drew := fun ty => by
    have h := Lib.run_append_grow_zeros (P := Tryz.prog) w 45 3 ty 158 i0 _ .i64 .i64 Tryz.underlying45 Tryz.underlying3 hi0 hz0 (some ⟨g, 0, none⟩) i cap (XS.take (i * 2)) hold (n + 1 - i) (by omega) (by omega) (by omega) (by omega) (by rw [hz2]; omega) (by rw [hz2, show i + (n + 1 - i) = n + 1 by omega]; exact growslice_fits hroom (by omega))
    rw [show i + (n + 1 - i) = n + 1 by omega, ← hG] at h
    rw [show (n : Int) + 1 - (i : Int) = ((n + 1 - i : Nat) : Int) by omega, h]
    have e : (XS.take (i * 2)).toArray ++ Builtin.zeroCells (Value.agg #[.string ⟨#[]⟩, .pointer none]).cells (n + 1 - i) ++ Builtin.zeroCells (Value.agg #[.string ⟨#[]⟩, .pointer none]).cells (G - (n + 1)) = ROW.toArray := by
      apply Array.toList_inj.1
      rw [Array.toList_append, Array.toList_append, hROW, hZ]
      simp
    rw [e]
    rfl
  have hg1 : (w.alloc (.cells ROW.toArray 158)).drew.heap[w.heap.size]? = some (.cells ROW.toArray 158 (0, 0)) := heap_alloc_new w _
  obtain ⟨R1, hR1⟩ : ∃ R1 : List Value, R1 = ROW.take (i * 2) ++ nw ++ ROW.drop (i * 2 + nw.length) := ⟨_, rfl⟩
  have hR1l : R1.length = G * 2 := by
    rw [hR1]
    simp only [List.length_append, List.length_take, List.length_drop, hRl, hnl]
    omega
  have hcpA : ∀ (ty : TypeId) dc, (Builtin.copy_ #[45, 45] ty #[.slice (some ⟨w.heap.size, i * 2, none⟩) (n + 1 - i) dc, .slice (some ⟨F, 0, none⟩) 1 1]).run Tryz.prog (w.alloc (.cells ROW.toArray 158)).drew = .ok (goInt (1 : Nat)) ((w.alloc (.cells ROW.toArray 158)).drew.setRow w.heap.size R1.toArray) := fun ty dc => by
    rw [hR1]
    have := run_copy_rowK (P := Tryz.prog) 2 (w.alloc (.cells ROW.toArray 158)).drew 45 45 ty 158 w.heap.size (i * 2) (n + 1 - i) dc ⟨F, 0, none⟩ 1 1 ROW.toArray 158 nw Tryz.underlying45 hsz hg1 1 (by simp only [Nat.min_def]; split <;> omega) (by omega)
      (fun j v hj => by
        have h2 := hnews j v hj
        rw [Addr.add_mid] at h2 ⊢
        rw [World.cell?_drew, World.cell?_alloc_lt _ _ _ (by exact hFw)]
        exact h2) (by rw [hnl]; simp [hRl]; omega) hnone
    simpa using this
  have hg2 : (((w.alloc (.cells ROW.toArray 158)).drew.setRow w.heap.size R1.toArray).drew).heap[w.heap.size]? = some (.cells R1.toArray 158 (0, 0)) := setRow_heap _ _ ROW.toArray _ 158 (0, 0) hg1
  obtain ⟨R2, hR2⟩ : ∃ R2 : List Value, R2 = R1.take ((i + 1) * 2) ++ XS.drop (i * 2) ++ R1.drop ((i + 1) * 2 + (XS.drop (i * 2)).length) := ⟨_, rfl⟩
  have hR2l : R2.length = G * 2 := by
    rw [hR2]
    simp only [List.length_append, List.length_take, List.length_drop, hR1l, hXl]
    omega
  have hcpB : ∀ (ty : TypeId) dc sc, (Builtin.copy_ #[45, 45] ty #[.slice (some ⟨w.heap.size, (i + 1) * 2, none⟩) (n + 1 - (i + 1)) dc, .slice (some ⟨g, i * 2, none⟩) (n - i) sc]).run Tryz.prog (((w.alloc (.cells ROW.toArray 158)).drew.setRow w.heap.size R1.toArray).drew) = .ok (goInt (n - i : Nat)) ((((w.alloc (.cells ROW.toArray 158)).drew.setRow w.heap.size R1.toArray).drew).setRow w.heap.size R2.toArray) := fun ty dc sc => by
    rw [hR2]
    have := run_copy_rowK (P := Tryz.prog) 2 (((w.alloc (.cells ROW.toArray 158)).drew.setRow w.heap.size R1.toArray).drew) 45 45 ty 158 w.heap.size ((i + 1) * 2) (n + 1 - (i + 1)) dc ⟨g, i * 2, none⟩ (n - i) sc R1.toArray 158 (XS.drop (i * 2)) Tryz.underlying45 hsz hg2 (n - i) (by simp only [Nat.min_def]; split <;> omega) hdl
      (fun j v hj => by
        rw [Addr.add_mid, World.cell?_drew, World.cell?_of_block (w := (w.alloc (.cells ROW.toArray 158)).drew) (a := ⟨g, i * 2 + j, none⟩) (setRow_other _ _ _ _ (by show g ≠ w.heap.size; omega)), World.cell?_drew, World.cell?_alloc_lt _ _ _ (by exact hgw)]
        exact hcells _ v (by rwa [List.getElem?_drop] at hj)) (by rw [hdl]; simp [hR1l]; omega) (fun v hv => hone v (List.mem_of_mem_drop hv))
    simpa using this
  have hfin : (R2.take ((n + 1) * 2)) = XS.take (i * 2) ++ nw ++ XS.drop (i * 2) := by
    have := row_grow XS nw Z (i * 2) (by rw [hXl]; omega)
    rw [hXl, hnl, ← hROW] at this
    rw [hR2, hR1, hnl, show (n + 1) * 2 = n * 2 + 2 by omega, show (i + 1) * 2 = i * 2 + 2 by omega]
    exact this
  have HF : Hid _ := hfin
  have HG2 : Hid _ := hg2
  have hz2' : ¬ ((i : Int) = (n : Int)) := by omega
  have hz3 : (cap : Int) < (n : Int) + 1 := by omega
  have hGi : ¬ (G = i) := by omega
  have hGim : ¬ (G = i + 1) := by omega
  have hci : ¬ (cap = i) := by omega
  have hw1 : IntKind.i64.wrap ((i : Int) + 1) = (i : Int) + 1 := by rw [IntKind.wrap_i64]; omega
  have hb1 : (0 : Int) ≤ (i : Int) + 1 := by omega
  have hin : i ≤ n := by omega
  have htn : ((i : Int) + 1).toNat = i + 1 := by omega
  have hb3 : (i : Int) ≤ (n : Int) := by omega
  have mixed : Tryz.prog.follows .mixedOrders = true := by kernel_rfl
  have hG63' : G ≤ 9223372036854775807 := by unfold maxLen at hG63; omega
  clear hfin hg1 hg2 hR2 hR1 hROW hZ hZl hzc hold hG hcells hnews hone hnone hdl htl
  go_enter Tryz.func85, Tryz.ntmps85
  go_wp2_with (first
    | (at_builtin; refine Lib.wpList_append_run _ rfl _ _ _ _ rfl _ _ rfl rfl _ _ (hrz _) ?_)
    | (at_builtin; refine wpList_copy_runI _ rfl _ _ 45 45 rfl _ _ rfl rfl (hcpA _ _) ?_))
  go_region_law_o (refine step_copy_runI rfl _ _ 45 45 rfl (.slice (some ⟨w.heap.size, (i + 1) * 2, none⟩) (n + 1 - (i + 1)) (G - (i + 1))) (.slice (some ⟨g, i * 2, none⟩) (n - i) (cap - i)) (by simp [Act.eval, Act.put]) (by simp [Act.eval, Act.put]) (hcpB 3 (G - (i + 1)) (cap - i)) ?_)
  go_wp2
  go_ret
  refine ⟨w.heap.size, G, by rw [HL.out]; rfl, ?_, ?_, .inr (Nat.le_refl _)⟩
  · unfold RowT
    rw [HL.out, HI.out]
    refine ⟨by rw [← HF.out, List.length_take, hR2l]; omega, .inr ⟨w.heap.size, G, R2.toArray, rfl, Nat.zero_le _, setRow_heap _ _ R1.toArray _ 158 (0, 0) HG2.out, by omega, hG63, by simp [hR2l], ?_⟩⟩
    rw [List.toList_toArray]
    exact HF.out
  · refine ⟨rfl, rfl, rfl, by simp, fun k hk hne => ?_⟩
    have hkg : k ≠ w.heap.size := by omega
    rw [setRow_other _ _ _ _ hkg]
    show ((w.alloc (.cells ROW.toArray 158)).drew.setRow w.heap.size R1.toArray).heap[k]? = _
    rw [setRow_other _ _ _ _ hkg]
    exact Below.heap_alloc _ _ _ hk

/-- Insert, at any place -/
theorem InsertT_any (v : Value) (es : List TV) (x : TV) (i F : Nat) (w : World) (h : RowT w v es) (hi : i ≤ es.length) (hl : es.length ≤ 1000) (hF : w.heap[F]? = some (.cells x.cells.toArray 158 (0, 0))) (hvF : v.ownBlock ≠ some F) :
    Calls Tryz.prog 85 #[v, .int .i64 (i : Nat), .slice (some ⟨F, 0, none⟩) 1 1] w fun e w' => InsT w v (es.take i ++ x :: es.drop i) e w' := by
  by_cases hie : i = es.length
  · subst hie
    have e : es.take es.length ++ x :: es.drop es.length = es ++ [x] := by simp
    rw [e]
    exact InsertT_end v es x F w h hl hF
  · rcases h.2 with ⟨_, h0⟩ | ⟨g, cap, cur, rfl, _⟩
    · omega
    · by_cases hr : es.length + 1 ≤ cap
      · exact InsertT_shift g cap es x i F w h (by omega) hr hF (fun e => hvF (by rw [e]; rfl))
      · exact InsertT_grow g cap es x i F w h (by omega) hl (by omega) hF
end Go.Proofs.YtlgodpadcilcaaaGreatDoor
namespace Go.Proofs.YtlgodpadcilcaaaGreatDoor
open Go.ChangeShapes Go.WideShapes Go.ChangeAt Go.RowKit

set_option maxHeartbeats 4000000 in
set_option maxRecDepth 100000 in
theorem InsertR_grow (g cap : Nat) (es : List RV) (x : RV) (i F : Nat) (w : World) (h : RowR w (.slice (some ⟨g, 0, none⟩) es.length cap) es) (hi : i < es.length) (hl : es.length ≤ 1000) (hroom : cap < es.length + 1)
    (hF : w.heap[F]? = some (.cells x.cells.toArray 146 (0, 0))) :
    Calls Tryz.prog 71 #[.slice (some ⟨g, 0, none⟩) es.length cap, .int .i64 (i : Nat), .slice (some ⟨F, 0, none⟩) 1 1] w fun e w' => InsR w (.slice (some ⟨g, 0, none⟩) es.length cap) (es.take i ++ x :: es.drop i) e w' := by
  obtain ⟨i0, hi0, hz0, hz1, hz2⟩ := info_parts infoR
  have hsz : (Tryz.prog.info? 146).map (·.size) = some 8 := by rw [hi0]; simp [hz1]
  have hnc : es.length ≤ cap := by
    rcases h.2 with ⟨e, _⟩ | ⟨g', cap', cur, e, _, _, h2, _⟩
    · cases e
    · cases e; exact h2
  have hgw : g < w.heap.size := (h.lt g rfl).2
  have hFw : F < w.heap.size := (Array.getElem?_eq_some_iff.1 hF).1
  have hXl : (es.map RV.cells).flatten.length = es.length * 8 := h.1
  have hone := one_flatR es
  have hnone := x.one
  have hnl : x.cells.length = 8 := x.len
  have HI : Hid (((es.take i ++ x :: es.drop i).map RV.cells).flatten = (es.map RV.cells).flatten.take (i * 8) ++ x.cells ++ (es.map RV.cells).flatten.drop (i * 8)) := flat_insR es x i
  have HL : Hid ((es.take i ++ x :: es.drop i).length = es.length + 1) := by show _ = _; simp; omega
  have hnews := World.news_of_block (cs := x.cells.toArray) (t := 146) (fr := (0, 0)) hF
  have hcells : ∀ j v, (es.map RV.cells).flatten[j]? = some v → w.cell? ⟨g, j, none⟩ = some v := fun j v hj => by
    rw [h.cellAt j (by rw [← hXl]; exact (List.getElem?_eq_some_iff.1 hj).1)]; exact hj
  generalize hn : es.length = n at *
  have HNn : Hid (es.length = n) := hn
  clear hn hF
  generalize (es.map RV.cells).flatten = XS at *
  generalize x.cells = nw at *
  have hdl : (XS.drop (i * 8)).length = (n - i) * 8 := by rw [List.length_drop, hXl]; omega
  have htl : (XS.take (i * 8)).length = i * 8 := by rw [List.length_take, hXl]; omega
  have hold : (Builtin.firstCells i0.size i (.slice (some ⟨g, 0, none⟩) i cap)).run Tryz.prog w.drew = .ok (XS.take (i * 8)).toArray w.drew := by
    rw [hz1]
    exact run_firstCells_some w.drew 8 i ⟨g, 0, none⟩ i cap (XS.take (i * 8)) (by rw [htl]) (fun j v hj => by
      rw [Addr.add_mid, Nat.zero_add]
      rw [List.getElem?_take] at hj
      split at hj
      · exact hcells j v hj
      · cases hj)
  obtain ⟨G, hG⟩ : ∃ G, G = grownCap w (n + 1) cap 146 := ⟨_, rfl⟩
  have hGn : n + 1 ≤ G := by rw [hG]; exact grownCap_ge w _ _ _
  have hG63 : G ≤ maxLen := by rw [hG]; exact grownCap_le_maxLen w (n + 1) cap 146 (by unfold maxLen; omega)
  obtain ⟨Z, hZ⟩ : ∃ Z : List Value, Z = (Builtin.zeroCells (Value.agg #[.string ⟨#[]⟩, .bool false, .int .i64 0, .string ⟨#[]⟩, .string ⟨#[]⟩, .slice none 0 0, .int .i64 0, .int .i64 0]).cells (n + 1 - i)).toList ++ (Builtin.zeroCells (Value.agg #[.string ⟨#[]⟩, .bool false, .int .i64 0, .string ⟨#[]⟩, .string ⟨#[]⟩, .slice none 0 0, .int .i64 0, .int .i64 0]).cells (G - (n + 1))).toList := ⟨_, rfl⟩
  have hzc : ∀ k, (Builtin.zeroCells (Value.agg #[.string ⟨#[]⟩, .bool false, .int .i64 0, .string ⟨#[]⟩, .string ⟨#[]⟩, .slice none 0 0, .int .i64 0, .int .i64 0]).cells k).size = k * 8 := fun k => by
    simp [Builtin.zeroCells, Value.cells]
  have hZl : Z.length = (G - i) * 8 := by
    rw [hZ, List.length_append, Array.length_toList, Array.length_toList, hzc, hzc]; omega
  obtain ⟨ROW, hROW⟩ : ∃ ROW : List Value, ROW = XS.take (i * 8) ++ Z := ⟨_, rfl⟩
  have hRl : ROW.length = G * 8 := by rw [hROW, List.length_append, htl, hZl]; omega
  have hrz : ∀ ty, (Builtin.append_ #[130, 3] ty #[.slice (some ⟨g, 0, none⟩) i cap, .int .i64 ((n : Int) + 1 - (i : Int))]).run Tryz.prog w =
      .ok (.slice (some ⟨w.heap.size, 0, none⟩) (n + 1) G) (w.alloc (.cells ROW.toArray 146)).drew := fun ty => by
    have h := Lib.run_append_grow_zeros (P := Tryz.prog) w 130 3 ty 146 i0 _ .i64 .i64 Tryz.underlying130 Tryz.underlying3 hi0 hz0 (some ⟨g, 0, none⟩) i cap (XS.take (i * 8)) hold (n + 1 - i) (by omega) (by omega) (by omega) (by omega) (by rw [hz2]; omega) (by rw [hz2, show i + (n + 1 - i) = n + 1 by omega]; exact growslice_fits hroom (by omega))
    rw [show i + (n + 1 - i) = n + 1 by omega, ← hG] at h
    rw [show (n : Int) + 1 - (i : Int) = ((n + 1 - i : Nat) : Int) by omega, h]
    have e : (XS.take (i * 8)).toArray ++ Builtin.zeroCells (Value.agg #[.string ⟨#[]⟩, .bool false, .int .i64 0, .string ⟨#[]⟩, .string ⟨#[]⟩, .slice none 0 0, .int .i64 0, .int .i64 0]).cells (n + 1 - i) ++ Builtin.zeroCells (Value.agg #[.string ⟨#[]⟩, .bool false, .int .i64 0, .string ⟨#[]⟩, .string ⟨#[]⟩, .slice none 0 0, .int .i64 0, .int .i64 0]).cells (G - (n + 1)) = ROW.toArray := by
      apply Array.toList_inj.1
      rw [Array.toList_append, Array.toList_append, hROW, hZ]
      simp
    rw [e]
    rfl
  have hg1 : (w.alloc (.cells ROW.toArray 146)).drew.heap[w.heap.size]? = some (.cells ROW.toArray 146 (0, 0)) := heap_alloc_new w _
  obtain ⟨R1, hR1⟩ : ∃ R1 : List Value, R1 = ROW.take (i * 8) ++ nw ++ ROW.drop (i * 8 + nw.length) := ⟨_, rfl⟩
  have hR1l : R1.length = G * 8 := by
    rw [hR1]
    simp only [List.length_append, List.length_take, List.length_drop, hRl, hnl]
    omega
  have hcpA : ∀ (ty : TypeId) dc, (Builtin.copy_ #[130, 130] ty #[.slice (some ⟨w.heap.size, i * 8, none⟩) (n + 1 - i) dc, .slice (some ⟨F, 0, none⟩) 1 1]).run Tryz.prog (w.alloc (.cells ROW.toArray 146)).drew = .ok (goInt (1 : Nat)) ((w.alloc (.cells ROW.toArray 146)).drew.setRow w.heap.size R1.toArray) := fun ty dc => by
    rw [hR1]
    have := run_copy_rowK (P := Tryz.prog) 8 (w.alloc (.cells ROW.toArray 146)).drew 130 130 ty 146 w.heap.size (i * 8) (n + 1 - i) dc ⟨F, 0, none⟩ 1 1 ROW.toArray 146 nw Tryz.underlying130 hsz hg1 1 (by simp only [Nat.min_def]; split <;> omega) (by omega)
      (fun j v hj => by
        have h2 := hnews j v hj
        rw [Addr.add_mid] at h2 ⊢
        rw [World.cell?_drew, World.cell?_alloc_lt _ _ _ (by exact hFw)]
        exact h2) (by rw [hnl]; simp [hRl]; omega) hnone
    simpa using this
  have hg2 : (((w.alloc (.cells ROW.toArray 146)).drew.setRow w.heap.size R1.toArray).drew).heap[w.heap.size]? = some (.cells R1.toArray 146 (0, 0)) := setRow_heap _ _ ROW.toArray _ 146 (0, 0) hg1
  obtain ⟨R2, hR2⟩ : ∃ R2 : List Value, R2 = R1.take ((i + 1) * 8) ++ XS.drop (i * 8) ++ R1.drop ((i + 1) * 8 + (XS.drop (i * 8)).length) := ⟨_, rfl⟩
  have hR2l : R2.length = G * 8 := by
    rw [hR2]
    simp only [List.length_append, List.length_take, List.length_drop, hR1l, hXl]
    omega
  have hcpB : ∀ (ty : TypeId) dc sc, (Builtin.copy_ #[130, 130] ty #[.slice (some ⟨w.heap.size, (i + 1) * 8, none⟩) (n + 1 - (i + 1)) dc, .slice (some ⟨g, i * 8, none⟩) (n - i) sc]).run Tryz.prog (((w.alloc (.cells ROW.toArray 146)).drew.setRow w.heap.size R1.toArray).drew) = .ok (goInt (n - i : Nat)) ((((w.alloc (.cells ROW.toArray 146)).drew.setRow w.heap.size R1.toArray).drew).setRow w.heap.size R2.toArray) := fun ty dc sc => by
    rw [hR2]
    have := run_copy_rowK (P := Tryz.prog) 8 (((w.alloc (.cells ROW.toArray 146)).drew.setRow w.heap.size R1.toArray).drew) 130 130 ty 146 w.heap.size ((i + 1) * 8) (n + 1 - (i + 1)) dc ⟨g, i * 8, none⟩ (n - i) sc R1.toArray 146 (XS.drop (i * 8)) Tryz.underlying130 hsz hg2 (n - i) (by simp only [Nat.min_def]; split <;> omega) hdl
      (fun j v hj => by
        rw [Addr.add_mid, World.cell?_drew, World.cell?_of_block (w := (w.alloc (.cells ROW.toArray 146)).drew) (a := ⟨g, i * 8 + j, none⟩) (setRow_other _ _ _ _ (by show g ≠ w.heap.size; omega)), World.cell?_drew, World.cell?_alloc_lt _ _ _ (by exact hgw)]
        exact hcells _ v (by rwa [List.getElem?_drop] at hj)) (by rw [hdl]; simp [hR1l]; omega) (fun v hv => hone v (List.mem_of_mem_drop hv))
    simpa using this
  have hfin : (R2.take ((n + 1) * 8)) = XS.take (i * 8) ++ nw ++ XS.drop (i * 8) := by
    have := row_grow XS nw Z (i * 8) (by rw [hXl]; omega)
    rw [hXl, hnl, ← hROW] at this
    rw [hR2, hR1, hnl, show (n + 1) * 8 = n * 8 + 8 by omega, show (i + 1) * 8 = i * 8 + 8 by omega]
    exact this
  have HF : Hid _ := hfin
  have HG2 : Hid _ := hg2
  have hz2' : ¬ ((i : Int) = (n : Int)) := by omega
  have hz3 : (cap : Int) < (n : Int) + 1 := by omega
  have hGi : ¬ (G = i) := by omega
  have hGim : ¬ (G = i + 1) := by omega
  have hci : ¬ (cap = i) := by omega
  have hw1 : IntKind.i64.wrap ((i : Int) + 1) = (i : Int) + 1 := by rw [IntKind.wrap_i64]; omega
  have hb1 : (0 : Int) ≤ (i : Int) + 1 := by omega
  have hin : i ≤ n := by omega
  have htn : ((i : Int) + 1).toNat = i + 1 := by omega
  have hb3 : (i : Int) ≤ (n : Int) := by omega
  have mixed : Tryz.prog.follows .mixedOrders = true := by kernel_rfl
  have hG63' : G ≤ 9223372036854775807 := by unfold maxLen at hG63; omega
  clear hfin hg1 hg2 hR2 hR1 hROW hZ hZl hzc hold hG hcells hnews hone hnone hdl htl
  go_enter Tryz.func71, Tryz.ntmps71
  go_wp2_with (first
    | (at_builtin; refine Lib.wpList_append_run _ rfl _ _ _ _ rfl _ _ rfl rfl _ _ (hrz _) ?_)
    | (at_builtin; refine wpList_copy_runI _ rfl _ _ 130 130 rfl _ _ rfl rfl (hcpA _ _) ?_))
  go_region_law_o (refine step_copy_runI rfl _ _ 130 130 rfl (.slice (some ⟨w.heap.size, (i + 1) * 8, none⟩) (n + 1 - (i + 1)) (G - (i + 1))) (.slice (some ⟨g, i * 8, none⟩) (n - i) (cap - i)) (by simp [Act.eval, Act.put]) (by simp [Act.eval, Act.put]) (hcpB 3 (G - (i + 1)) (cap - i)) ?_)
  go_wp2
  go_ret
  refine ⟨w.heap.size, G, by rw [HL.out]; rfl, ?_, ?_, .inr (Nat.le_refl _)⟩
  · unfold RowR
    rw [HL.out, HI.out]
    refine ⟨by rw [← HF.out, List.length_take, hR2l]; omega, .inr ⟨w.heap.size, G, R2.toArray, rfl, Nat.zero_le _, setRow_heap _ _ R1.toArray _ 146 (0, 0) HG2.out, by omega, hG63, by simp [hR2l], ?_⟩⟩
    rw [List.toList_toArray]
    exact HF.out
  · refine ⟨rfl, rfl, rfl, by simp, fun k hk hne => ?_⟩
    have hkg : k ≠ w.heap.size := by omega
    rw [setRow_other _ _ _ _ hkg]
    show ((w.alloc (.cells ROW.toArray 146)).drew.setRow w.heap.size R1.toArray).heap[k]? = _
    rw [setRow_other _ _ _ _ hkg]
    exact Below.heap_alloc _ _ _ hk

/-- Insert, at any place -/
theorem InsertR_any (v : Value) (es : List RV) (x : RV) (i F : Nat) (w : World) (h : RowR w v es) (hi : i ≤ es.length) (hl : es.length ≤ 1000) (hF : w.heap[F]? = some (.cells x.cells.toArray 146 (0, 0))) (hvF : v.ownBlock ≠ some F) :
    Calls Tryz.prog 71 #[v, .int .i64 (i : Nat), .slice (some ⟨F, 0, none⟩) 1 1] w fun e w' => InsR w v (es.take i ++ x :: es.drop i) e w' := by
  by_cases hie : i = es.length
  · subst hie
    have e : es.take es.length ++ x :: es.drop es.length = es ++ [x] := by simp
    rw [e]
    exact InsertR_end v es x F w h hl hF
  · rcases h.2 with ⟨_, h0⟩ | ⟨g, cap, cur, rfl, _⟩
    · omega
    · by_cases hr : es.length + 1 ≤ cap
      · exact InsertR_shift g cap es x i F w h (by omega) hr hF (fun e => hvF (by rw [e]; rfl))
      · exact InsertR_grow g cap es x i F w h (by omega) hl (by omega) hF
end Go.Proofs.YtlgodpadcilcaaaGreatDoor
namespace Go.Proofs.YtlgodpadcilcaaaGreatDoor
open Go.ChangeShapes Go.WideShapes Go.ChangeAt Go.RowKit

/-- all blocks that were there, but L and rb, are as they were -/
structure But2 (L : Nat) (rb : Option Nat) (w w' : World) : Prop where
  os : w'.os = w.os
  tape : w'.tape = w.tape
  output : w'.output = w.output
  size : w.heap.size ≤ w'.heap.size
  block : ∀ k, k < w.heap.size → k ≠ L → rb ≠ some k → w'.heap[k]? = w.heap[k]?
theorem rising_ins {ks : List (List UInt8)} {s : List UInt8} {p : Nat} (h : Rising ks) (hp : Place ks s p) (hn : s ∉ ks) : Rising (ks.take p ++ s :: ks.drop p) := by
  have hlow : ∀ a ∈ ks.take p, Op.bytesLess a s = true := fun a ha => by
    obtain ⟨t, ht, rfl⟩ := List.getElem_of_mem ha
    rw [List.length_take] at ht
    rw [List.getElem_take]
    exact hp.lo t (by omega) (by omega)
  have hhigh : ∀ a ∈ ks.drop p, Op.bytesLess s a = true := fun a ha => by
    obtain ⟨t, ht, rfl⟩ := List.getElem_of_mem ha
    rw [List.length_drop] at ht
    rw [List.getElem_drop]
    refine less_total _ _ (hp.hi (p + t) (by omega) (by omega)) (fun e => hn (by rw [← e]; exact List.getElem_mem _))
  unfold Rising at *
  rw [List.pairwise_append]
  refine ⟨h.sublist (List.take_sublist _ _), List.pairwise_cons.2 ⟨hhigh, h.sublist (List.drop_sublist _ _)⟩, fun a ha b hb => ?_⟩
  rcases List.mem_cons.1 hb with rfl | hb
  · exact hlow a ha
  · exact less_trans _ _ _ (hlow a ha) (hhigh b hb)

/-- the list in block L, its row in block rb -/
structure OwnT (w : World) (L : Nat) (rb : Option Nat) (es : List TV) : Prop where
  row : ∃ v, w.cell? ⟨L, 0, none⟩ = some v ∧ RowT w v es ∧ v.ownBlock = rb
  ne : rb ≠ some L
  fr : w.frozen? ⟨L, 0, none⟩ = false
  up : Rising (es.map (·.key))
  few : es.length ≤ 1000
theorem OwnT.list {w : World} {L : Nat} {rb : Option Nat} {es : List TV} (h : OwnT w L rb es) : ListT w L es := by
  obtain ⟨v, h1, h2, h3⟩ := h.row
  exact ⟨⟨v, h1, h2, by rw [h3]; exact h.ne⟩, h.fr, h.up, by have := h.few; omega⟩
theorem OwnT.lt {w : World} {L : Nat} {rb : Option Nat} {es : List TV} (h : OwnT w L rb es) : L < w.heap.size ∧ ∀ k, rb = some k → k < w.heap.size := by
  obtain ⟨v, h1, h2, h3⟩ := h.row
  exact ⟨World.block_lt_of_cell? w ⟨L, 0, none⟩ h1, fun k hk => (h2.lt k (by rw [h3]; exact hk)).2⟩
/-- what is none of its blocks may change -/
theorem OwnT.keep {w w' : World} {L : Nat} {rb : Option Nat} {es : List TV} (h : OwnT w L rb es) (hL : w'.heap[L]? = w.heap[L]?) (hrb : ∀ k, rb = some k → w'.heap[k]? = w.heap[k]?) : OwnT w' L rb es := by
  obtain ⟨v, h1, h2, h3⟩ := h.row
  refine ⟨⟨v, ?_, ?_, h3⟩, h.ne, ?_, h.up, h.few⟩
  · rw [World.cell?_of_block (w := w) (a := ⟨L, 0, none⟩) hL]; exact h1
  · refine ⟨h2.1, ?_⟩
    rcases h2.2 with h0 | ⟨g, cap, cur, rfl, h4, h5, h6⟩
    · exact .inl h0
    · exact .inr ⟨g, cap, cur, rfl, h4, by rw [hrb g (by rw [← h3]; rfl)]; exact h5, h6⟩
  · rw [World.frozen?_of_block (w := w) (a := ⟨L, 0, none⟩) hL]; exact h.fr

def PutTAns (w w' : World) (L : Nat) (rb : Option Nat) (es : List TV) (x : TV) : Prop :=
  ∃ p rb', Place (es.map (·.key)) x.key p ∧ OwnT w' L rb' (es.take p ++ x :: es.drop p) ∧ (rb' = rb ∨ ∃ g, rb' = some g ∧ w.heap.size ≤ g) ∧ But2 L rb w w'

set_option maxHeartbeats 4000000 in
set_option maxRecDepth 100000 in
theorem PutT_new (L : Nat) (rb : Option Nat) (es : List TV) (x : TV) (w : World) (h : OwnT w L rb es) (hn : x.key ∉ es.map (·.key)) (hl : es.length < 1000) :
    Calls Tryz.prog 58 #[.pointer (some ⟨L, 0, none⟩), strV x.key, .pointer (some ⟨x.blk, 0, none⟩)] w fun e w' => (∃ v, e = .returned v) ∧ PutTAns w w' L rb es x := by
  obtain ⟨v, hv, hrow, hvb⟩ := h.row
  have hlt := h.lt
  have hF := findT_any L es ⟨x.key.toArray⟩ w h.list
  have ek : (⟨x.key.toArray⟩ : ByteArray).data.toList = x.key := rfl
  rw [ek] at hF
  have hd : decide (x.key ∈ es.map (·.key)) = false := decide_eq_false hn
  unfold FoundAns at hF
  rw [hd] at hF
  unfold strV
  go_enter Tryz.func58, Tryz.ntmps58
  go_wp2_with fail
  refine hF.mono ?_
  clear hF
  rintro e w1 ⟨⟨p, hp, rfl⟩, hb1⟩
  have hv1 : w1.cell? ⟨L, 0, none⟩ = some v := by rw [hb1.cell (p := ⟨L, 0, none⟩) hlt.1]; exact hv
  have hf1 : w1.frozen? ⟨L, 0, none⟩ = false := by rw [hb1.frozen (p := ⟨L, 0, none⟩) hlt.1]; exact h.fr
  have hrow1 : RowT w1 v es := hrow.below hb1
  have hpl : p ≤ es.length := by have := hp.le; simpa using this
  obtain ⟨a0, l0, c0, rfl⟩ : ∃ p l c, v = .slice p l c := by
    rcases hrow.2 with ⟨rfl, _⟩ | ⟨g, cap, cur, rfl, _⟩
    · exact ⟨_, _, _, rfl⟩
    · exact ⟨_, _, _, rfl⟩
  have hsL : L < w1.heap.size := by have := hb1.size; omega
  have hI := InsertT_any (.slice a0 l0 c0) es x p w1.heap.size (w1.alloc (.cells x.cells.toArray 158)) (hrow1.below ((Below.refl _ _).alloc (Nat.le_refl _) _)) hpl (by omega) (heap_alloc_new _ _) (fun e => by have := (hrow1.lt _ e).2; omega)
  have eC : x.cells.toArray = #[.string ⟨x.key.toArray⟩, .pointer (some ⟨x.blk, 0, none⟩)] := rfl
  rw [eC] at hI
  have HP : Hid _ := hp
  clear hp hrow hv
  go_wp2_with fail
  refine hI.mono ?_
  clear hI
  rintro e w3 ⟨g, cap, rfl, hr3, hg3, hat3⟩
  have hne3 : (Value.slice a0 l0 c0).ownBlock ≠ some L := by rw [hvb]; exact h.ne
  have hL3 : w3.heap[L]? = w1.heap[L]? := (hg3.block L (by simp; omega) (fun e => hne3 e.symm)).trans (Below.heap_alloc _ _ _ hsL)
  have hv3 : w3.cell? ⟨L, 0, none⟩ = some (.slice a0 l0 c0) := by rw [World.cell?_of_block (w := w1) (a := ⟨L, 0, none⟩) hL3]; exact hv1
  have hf3 : w3.frozen? ⟨L, 0, none⟩ = false := by rw [World.frozen?_of_block (w := w1) (a := ⟨L, 0, none⟩) hL3]; exact hf1
  have hgL : g ≠ L := by
    rcases hat3 with e | e
    · intro e2; rw [e2] at e; exact hne3 e
    · simp at e; omega
  have hs3 := hg3.size
  simp at hs3
  generalize hlen : (es.take p ++ x :: es.drop p).length = n3 at *
  have HLN : Hid ((es.take p ++ x :: es.drop p).length = n3) := hlen
  clear hlen
  go_wp2
  go_end0
  refine ⟨⟨_, rfl⟩, p, some g, HP.out, ⟨⟨_, World.cell?_setCell_same' _ _ _ (by rw [hv3]; rfl), ?_, rfl⟩, fun e => hgL (by cases e; rfl), by rw [World.frozen?_setCell]; exact hf3, ?_, by rw [HLN.out]; have := HLN.out; simp at this; omega⟩, ?_, ?_⟩
  · rw [← HLN.out] at hr3 ⊢
    exact World.ownsRow.kept hr3 (setCell_grown w3 L 0 _) (.inr (fun e => hgL (by cases e; rfl)))
  · rw [List.map_append, List.map_cons, List.map_take, List.map_drop]
    exact rising_ins h.up HP.out hn
  · rcases hat3 with e | e
    · left; rw [← hvb, e]
    · right; exact ⟨g, rfl, by have := hb1.size; simp at e; omega⟩
  · refine ⟨by rw [show (w3.setCell ⟨L, 0, none⟩ _).os = w3.os from rfl, hg3.os]; exact hb1.os, by rw [show (w3.setCell ⟨L, 0, none⟩ _).tape = w3.tape from rfl, hg3.tape]; exact hb1.tape, by rw [show (w3.setCell ⟨L, 0, none⟩ _).output = w3.output from rfl, hg3.output]; exact hb1.output, by have := hb1.size; simp; omega, fun k hk hkL hkr => ?_⟩
    have hk1 : k < w1.heap.size := by have := hb1.size; omega
    rw [Below.heap_setCell _ _ _ _ hkL, hg3.block k (by simp; omega) (by rw [hvb]; exact fun e => hkr e.symm), Below.heap_alloc _ _ _ hk1]
    exact hb1.block k hk
end Go.Proofs.YtlgodpadcilcaaaGreatDoor
namespace Go.Proofs.YtlgodpadcilcaaaGreatDoor
open Go.ChangeShapes Go.WideShapes Go.ChangeAt Go.RowKit

/-- the list in block L, its row in block rb -/
structure OwnR (w : World) (L : Nat) (rb : Option Nat) (es : List RV) : Prop where
  row : ∃ v, w.cell? ⟨L, 0, none⟩ = some v ∧ RowR w v es ∧ v.ownBlock = rb
  ne : rb ≠ some L
  fr : w.frozen? ⟨L, 0, none⟩ = false
  up : Rising (es.map (·.key))
  few : es.length ≤ 1000
theorem OwnR.list {w : World} {L : Nat} {rb : Option Nat} {es : List RV} (h : OwnR w L rb es) : ListR w L es := by
  obtain ⟨v, h1, h2, h3⟩ := h.row
  exact ⟨⟨v, h1, h2, by rw [h3]; exact h.ne⟩, h.fr, h.up, by have := h.few; omega⟩
theorem OwnR.lt {w : World} {L : Nat} {rb : Option Nat} {es : List RV} (h : OwnR w L rb es) : L < w.heap.size ∧ ∀ k, rb = some k → k < w.heap.size := by
  obtain ⟨v, h1, h2, h3⟩ := h.row
  exact ⟨World.block_lt_of_cell? w ⟨L, 0, none⟩ h1, fun k hk => (h2.lt k (by rw [h3]; exact hk)).2⟩
/-- what is none of its blocks may change -/
theorem OwnR.keep {w w' : World} {L : Nat} {rb : Option Nat} {es : List RV} (h : OwnR w L rb es) (hL : w'.heap[L]? = w.heap[L]?) (hrb : ∀ k, rb = some k → w'.heap[k]? = w.heap[k]?) : OwnR w' L rb es := by
  obtain ⟨v, h1, h2, h3⟩ := h.row
  refine ⟨⟨v, ?_, ?_, h3⟩, h.ne, ?_, h.up, h.few⟩
  · rw [World.cell?_of_block (w := w) (a := ⟨L, 0, none⟩) hL]; exact h1
  · refine ⟨h2.1, ?_⟩
    rcases h2.2 with h0 | ⟨g, cap, cur, rfl, h4, h5, h6⟩
    · exact .inl h0
    · exact .inr ⟨g, cap, cur, rfl, h4, by rw [hrb g (by rw [← h3]; rfl)]; exact h5, h6⟩
  · rw [World.frozen?_of_block (w := w) (a := ⟨L, 0, none⟩) hL]; exact h.fr

def PutRAns (w w' : World) (L : Nat) (rb : Option Nat) (es : List RV) (x : RV) : Prop :=
  ∃ p rb', Place (es.map (·.key)) x.key p ∧ OwnR w' L rb' (es.take p ++ x :: es.drop p) ∧ (rb' = rb ∨ ∃ g, rb' = some g ∧ w.heap.size ≤ g) ∧ But2 L rb w w'

set_option maxHeartbeats 4000000 in
set_option maxRecDepth 100000 in
theorem PutR_new (L : Nat) (rb : Option Nat) (es : List RV) (x : RV) (w : World) (h : OwnR w L rb es) (hn : x.key ∉ es.map (·.key)) (hl : es.length < 1000) :
    Calls Tryz.prog 43 #[.pointer (some ⟨L, 0, none⟩), strV x.key, .agg #[.bool x.set, .int .i64 x.k, .string x.b, .string x.c, .slice x.p x.l x.cp, .int .i64 x.rank, .int .i64 x.line]] w fun e w' => (∃ v, e = .returned v) ∧ PutRAns w w' L rb es x := by
  obtain ⟨key, set, k, b, c, pp, l, cp, rank, line⟩ := x
  have hal0 : Below w.heap.size w (w.alloc (.cells #[.bool set, .int .i64 k, .string b, .string c, .slice pp l cp, .int .i64 rank, .int .i64 line] 90)) := (Below.refl _ _).alloc (Nat.le_refl _) _
  have hlt := h.lt
  have h0 : OwnR (w.alloc (.cells #[.bool set, .int .i64 k, .string b, .string c, .slice pp l cp, .int .i64 rank, .int .i64 line] 90)) L rb es := h.keep (hal0.block L hlt.1) (fun q hq => hal0.block q (hlt.2 q hq))
  have hV0 : (w.alloc (.cells #[.bool set, .int .i64 k, .string b, .string c, .slice pp l cp, .int .i64 rank, .int .i64 line] 90)).rangeAt w.heap.size 0 [.bool set, .int .i64 k, .string b, .string c, .slice pp l cp, .int .i64 rank, .int .i64 line] := range_new _ _ _
  have hs0 : (w.alloc (.cells #[.bool set, .int .i64 k, .string b, .string c, .slice pp l cp, .int .i64 rank, .int .i64 line] 90)).heap.size = w.heap.size + 1 := by simp
  have hF := findR_any L es ⟨key.toArray⟩ _ h0.list
  have ek : (⟨key.toArray⟩ : ByteArray).data.toList = key := rfl
  rw [ek] at hF
  have hd : decide (key ∈ es.map (·.key)) = false := decide_eq_false hn
  unfold FoundAns at hF
  rw [hd] at hF
  obtain ⟨v, hv, hrow, hvb⟩ := h0.row
  have hlt0 := h0.lt
  unfold strV
  go_enter Tryz.func43, Tryz.ntmps43
  go_wp2_with fail
  refine hF.mono ?_
  clear hF
  rintro e w1 ⟨⟨p, hp, rfl⟩, hb1⟩
  generalize w.alloc (.cells #[.bool set, .int .i64 k, .string b, .string c, .slice pp l cp, .int .i64 rank, .int .i64 line] 90) = w0 at *
  have hb1s := hb1.size
  have hv1 : w1.cell? ⟨L, 0, none⟩ = some v := by rw [hb1.cell (p := ⟨L, 0, none⟩) hlt0.1]; exact hv
  have hf1 : w1.frozen? ⟨L, 0, none⟩ = false := by rw [hb1.frozen (p := ⟨L, 0, none⟩) hlt0.1]; exact h0.fr
  have hrow1 : RowR w1 v es := hrow.below hb1
  have hV1 := range_below hV0 hb1 (by omega)
  have v0 : w1.cell? ⟨w.heap.size, 0, none⟩ = some (.bool set) := hV1 0 _ rfl
  have v1 : w1.cell? ⟨w.heap.size, 1, none⟩ = some (.int .i64 k) := hV1 1 _ rfl
  have v2 : w1.cell? ⟨w.heap.size, 2, none⟩ = some (.string b) := hV1 2 _ rfl
  have v3 : w1.cell? ⟨w.heap.size, 3, none⟩ = some (.string c) := hV1 3 _ rfl
  have v4 : w1.cell? ⟨w.heap.size, 4, none⟩ = some (.slice pp l cp) := hV1 4 _ rfl
  have v5 : w1.cell? ⟨w.heap.size, 5, none⟩ = some (.int .i64 rank) := hV1 5 _ rfl
  have v6 : w1.cell? ⟨w.heap.size, 6, none⟩ = some (.int .i64 line) := hV1 6 _ rfl
  have hpl : p ≤ es.length := by have := hp.le; simpa using this
  obtain ⟨a0, l0, c0, rfl⟩ : ∃ p l c, v = .slice p l c := by
    rcases hrow.2 with ⟨rfl, _⟩ | ⟨g, cap, cur, rfl, _⟩
    · exact ⟨_, _, _, rfl⟩
    · exact ⟨_, _, _, rfl⟩
  have hsL : L < w1.heap.size := by omega
  have hI := InsertR_any (.slice a0 l0 c0) es ⟨key, set, k, b, c, pp, l, cp, rank, line⟩ p w1.heap.size (w1.alloc (.cells (RV.mk key set k b c pp l cp rank line).cells.toArray 146)).drew (hrow1.below (((Below.refl _ _).alloc (Nat.le_refl _) _).drew)) hpl (by omega) (heap_alloc_new _ _) (fun e => by have := (hrow1.lt _ e).2; omega)
  have eC : (RV.mk key set k b c pp l cp rank line).cells.toArray = #[.string ⟨key.toArray⟩, .bool set, .int .i64 k, .string b, .string c, .slice pp l cp, .int .i64 rank, .int .i64 line] := rfl
  rw [eC] at hI
  have HP : Hid _ := hp
  clear hp hrow hv hV0 hV1
  have hne3 : (Value.slice a0 l0 c0).ownBlock ≠ some L := by rw [hvb]; exact h.ne
  have HI : Hid (∀ w3 g, (w1.alloc (.cells #[.string ⟨key.toArray⟩, .bool set, .int .i64 k, .string b, .string c, .slice pp l cp, .int .i64 rank, .int .i64 line] 146)).drew.grownBy w3 (Value.slice a0 l0 c0).ownBlock → ((Value.slice a0 l0 c0).ownBlock = some g ∨ (w1.alloc (.cells #[.string ⟨key.toArray⟩, .bool set, .int .i64 k, .string b, .string c, .slice pp l cp, .int .i64 rank, .int .i64 line] 146)).drew.heap.size ≤ g) →
      w3.cell? ⟨L, 0, none⟩ = some (.slice a0 l0 c0) ∧ w3.frozen? ⟨L, 0, none⟩ = false ∧ g ≠ L ∧ w1.heap.size + 1 ≤ w3.heap.size) := by
    intro w3 g hg3 hat3
    have hL3 : w3.heap[L]? = w1.heap[L]? := (hg3.block L (by simp; omega) (fun e => hne3 e.symm)).trans (Below.heap_alloc _ _ _ hsL)
    refine ⟨by rw [World.cell?_of_block (w := w1) (a := ⟨L, 0, none⟩) hL3]; exact hv1, by rw [World.frozen?_of_block (w := w1) (a := ⟨L, 0, none⟩) hL3]; exact hf1, ?_, by have := hg3.size; simpa using this⟩
    rcases hat3 with e | e
    · intro e2; rw [e2] at e; exact hne3 e
    · simp at e; omega
  generalize hlen : (es.take p ++ RV.mk key set k b c pp l cp rank line :: es.drop p) = E3 at *
  go_upto_region 4 with fail
  go_region_with (go_at_call 71; refine hI.mono ?_; rintro e w3 ⟨g, cap, rfl, hr3, hg3, hat3⟩; obtain ⟨hv3, hf3, hgL, hs3⟩ := HI.out w3 g hg3 hat3)
  all_goals go_end0
  all_goals refine ⟨⟨_, rfl⟩, p, some g, HP.out, ⟨⟨_, World.cell?_setCell_same' _ _ _ (by rw [hv3]; rfl), ?_, rfl⟩, fun e => hgL (by cases e; rfl), by rw [World.frozen?_setCell]; exact hf3, ?_, by simp; omega⟩, ?_, ?_⟩
  all_goals first
    | (rw [hlen]; exact World.ownsRow.kept hr3 (setCell_grown w3 L 0 _) (.inr (fun e => hgL (by cases e; rfl))))
    | (rw [List.map_append, List.map_cons, List.map_take, List.map_drop]; exact rising_ins h.up HP.out hn)
    | (rcases hat3 with e | e
       · left; rw [← hvb, e]
       · right; exact ⟨g, rfl, by simp at e; omega⟩)
    | (refine ⟨by rw [show (w3.setCell ⟨L, 0, none⟩ _).os = w3.os from rfl, hg3.os]; exact hb1.os.trans hal0.os, by rw [show (w3.setCell ⟨L, 0, none⟩ _).tape = w3.tape from rfl, hg3.tape]; exact hb1.tape.trans hal0.tape, by rw [show (w3.setCell ⟨L, 0, none⟩ _).output = w3.output from rfl, hg3.output]; exact hb1.output.trans hal0.output, by simp; omega, fun k hk hkL hkr => ?_⟩
       rw [Below.heap_setCell _ _ _ _ hkL, hg3.block k (by simp; omega) (by rw [hvb]; exact fun e => hkr e.symm)]
       refine (Below.heap_alloc w1 _ k (by omega)).trans ((hb1.block k (by omega)).trans (hal0.block k hk)))
end Go.Proofs.YtlgodpadcilcaaaGreatDoor
namespace Go.Proofs.YtlgodpadcilcaaaGreatDoor

/-- a type, with its relations in the order of their lines -/
structure Ty where
  nm : List UInt8
  rels : List Rl

/-- one line of a type: the error, and the types then -/
def typeS (st : List Ty) : List (List UInt8) → Nat × List Ty
  | [n] => if nameL n = false then (2, st) else if n ∈ st.map (·.nm) then (3, st) else if st.length = 6 then (1, st) else (0, st ++ [⟨n, []⟩])
  | _ => (2, st)
/-- one line of a relation -/
def relS (st : List Ty) (num : Nat) (set : Bool) : List (List UInt8) → Nat × List Ty
  | [] => (2, st)
  | n :: ex =>
    match st.getLast? with
    | none => (2, st)
    | some ty =>
      if nameL n = false then (2, st) else
      match wholeL ex with
      | none => (2, st)
      | some e => if n ∈ ty.rels.map (·.nm) then (3, st) else if ty.rels.length = 6 then (1, st) else (0, st.dropLast ++ [⟨ty.nm, ty.rels ++ [⟨ty.nm, n, set, e, num⟩]⟩])
/-- one line -/
def lineS (st : List Ty) (num : Nat) (t : List UInt8) : Nat × List Ty :=
  if t = [] ∨ t.take 2 = [47, 47] then (0, st) else
  match splitL 32 t with
  | [] => (2, st)
  | w :: ps => if w = [116, 121, 112, 101] then typeS st ps else if w = [114, 101, 108] then relS st num false ps else if w = [115, 101, 116] then relS st num true ps else (2, st)
/-- lines from number num on: the number and the error of the first that is wrong, or the types -/
def linesS (st : List Ty) (num : Nat) : List (List UInt8) → (Nat × Nat) ⊕ List Ty
  | [] => .inr st
  | l :: r => match lineS st num l with
    | (0, st') => linesS st' (num + 1) r
    | (e, _) => .inl (num, e)

/-- what holds of the types that lines make -/
structure StOk (st : List Ty) : Prop where
  few : st.length ≤ 6
  nodup : (st.map (·.nm)).Nodup
  rels : ∀ ty ∈ st, ty.rels.length ≤ 6 ∧ (ty.rels.map (·.nm)).Nodup ∧ ∀ r ∈ ty.rels, r.ty = ty.nm
theorem StOk.nil : StOk [] := ⟨by simp, by simp, by simp⟩
theorem typeS_ok {st : List Ty} (h : StOk st) (ps : List (List UInt8)) : StOk (typeS st ps).2 := by
  unfold typeS
  split
  · split
    · exact h
    · split
      · exact h
      · split
        · exact h
        · rename_i n _ hm hl
          refine ⟨by have := h.few; simp; omega, ?_, ?_⟩
          · rw [List.map_append, List.nodup_append]
            refine ⟨h.nodup, by simp, fun a ha b hb => ?_⟩
            simp at hb
            subst hb
            exact fun e => hm (e ▸ ha)
          · intro ty hty
            rcases List.mem_append.1 hty with hty | hty
            · exact h.rels ty hty
            · simp at hty; subst hty; simp
  · exact h
theorem getLast_split {st : List Ty} {ty : Ty} (h : st.getLast? = some ty) : st = st.dropLast ++ [ty] := by
  obtain ⟨ys, rfl⟩ := List.getLast?_eq_some_iff.1 h
  simp
theorem relS_ok {st : List Ty} (h : StOk st) (num : Nat) (set : Bool) (ps : List (List UInt8)) : StOk (relS st num set ps).2 := by
  unfold relS
  split
  · exact h
  · split
    · exact h
    · rename_i ty hty
      split
      · exact h
      · split
        · exact h
        · split
          · exact h
          · split
            · exact h
            · rename_i n ex _ _ e _ hm hl
              have hs := getLast_split hty
              have hmem : ty ∈ st := by rw [hs]; simp
              obtain ⟨r1, r2, r3⟩ := h.rels ty hmem
              have hd : ∀ t ∈ st.dropLast, t ∈ st := fun t ht => by rw [hs]; simp [ht]
              refine ⟨?_, ?_, ?_⟩
              · have := h.few
                rw [hs] at this
                simpa using this
              · have := h.nodup
                rw [hs] at this
                simpa using this
              · intro t ht
                rcases List.mem_append.1 ht with ht | ht
                · exact h.rels t (hd t ht)
                · simp at ht
                  subst ht
                  refine ⟨by simp; omega, ?_, ?_⟩
                  · rw [List.map_append, List.nodup_append]
                    refine ⟨r2, by simp, fun a ha b hb => ?_⟩
                    simp at hb
                    subst hb
                    exact fun e => hm (e ▸ ha)
                  · intro r hr
                    rcases List.mem_append.1 hr with hr | hr
                    · exact r3 r hr
                    · simp at hr; subst hr; rfl
theorem lineS_ok {st : List Ty} (h : StOk st) (num : Nat) (t : List UInt8) : StOk (lineS st num t).2 := by
  unfold lineS
  split
  · exact h
  · split
    · exact h
    · split
      · exact typeS_ok h _
      · split
        · exact relS_ok h _ _ _
        · split
          · exact relS_ok h _ _ _
          · exact h
end Go.Proofs.YtlgodpadcilcaaaGreatDoor
namespace Go.Proofs.YtlgodpadcilcaaaGreatDoor
open Go.ChangeShapes Go.WideShapes Go.ChangeAt Go.RowKit

/-- a relation's entry in memory -/
def RelRep (S : Nat → Prop) (w : World) (x : RV) (r : Rl) : Prop :=
  x.key = r.nm ∧ x.set = r.set ∧ x.line = (r.line : Int) ∧ ERep S w r.ex (ExpV x.k x.b x.c x.p x.l x.cp)

/-- a type in memory: its entry, what lines say, the block of its row, its entries, the relations in their order -/
structure Zt where
  tv : TV
  ty : Ty
  rb : Option Nat
  es : List RV
  rs : List Rl
def Zt.blocks (z : Zt) : List Nat := z.tv.blk :: z.rb.toList
def allBlocks (Rd S : Nat) (rbT : Option Nat) (zs : List Zt) : List Nat := Rd :: S :: (rbT.toList ++ zs.flatMap Zt.blocks)

structure ZOk (M : List Nat) (w : World) (z : Zt) : Prop where
  key : z.tv.key = z.ty.nm
  own : OwnR w z.tv.blk z.rb z.es
  perm : z.rs.Perm z.ty.rels
  len : z.es.length = z.rs.length
  rep : ∀ i (h : i < z.es.length) (h' : i < z.rs.length), RelRep (fun g => g < w.heap.size ∧ g ∉ M) w z.es[i] z.rs[i]

/-- the reader in block Rd, its schema in block S -/
structure PRep (w : World) (Rd S : Nat) (rbT : Option Nat) (zs : List Zt) (st : List Ty) : Prop where
  own : OwnT w S rbT (zs.map (·.tv))
  perm : (zs.map (·.ty)).Perm st
  zok : ∀ z ∈ zs, ZOk (allBlocks Rd S rbT zs) w z
  nodup : (allBlocks Rd S rbT zs).Nodup
  lt : ∀ g ∈ allBlocks Rd S rbT zs, g < w.heap.size
  rd0 : w.cell? ⟨Rd, 0, none⟩ = some (.pointer (some ⟨S, 0, none⟩))
  rd1 : (st = [] ∧ w.cell? ⟨Rd, 1, none⟩ = some (.pointer none)) ∨ ∃ z ∈ zs, st.getLast? = some z.ty ∧ w.cell? ⟨Rd, 1, none⟩ = some (.pointer (some ⟨z.tv.blk, 0, none⟩))
  frz : ∀ j, w.frozen? ⟨Rd, j, none⟩ = false

theorem mem_blocks_R {Rd S : Nat} {rbT : Option Nat} {zs : List Zt} {z : Zt} (hz : z ∈ zs) {g : Nat} (hg : g ∈ z.blocks) : g ∈ allBlocks Rd S rbT zs := by
  unfold allBlocks
  exact List.mem_cons_of_mem _ (List.mem_cons_of_mem _ (List.mem_append_right _ (List.mem_flatMap.2 ⟨z, hz, hg⟩)))
theorem mem_blocks_T {Rd S : Nat} {rbT : Option Nat} {zs : List Zt} {g : Nat} (hg : rbT = some g) : g ∈ allBlocks Rd S rbT zs := by
  unfold allBlocks
  exact List.mem_cons_of_mem _ (List.mem_cons_of_mem _ (List.mem_append_left _ (by rw [hg]; simp)))
theorem mem_Rd {Rd S : Nat} {rbT : Option Nat} {zs : List Zt} : Rd ∈ allBlocks Rd S rbT zs := by unfold allBlocks; exact List.mem_cons_self ..
theorem mem_S {Rd S : Nat} {rbT : Option Nat} {zs : List Zt} : S ∈ allBlocks Rd S rbT zs := by unfold allBlocks; exact List.mem_cons_of_mem _ (List.mem_cons_self ..)

/-- in a world in which nothing that was there has changed -/
theorem PRep.below {w w' : World} {Rd S : Nat} {rbT : Option Nat} {zs : List Zt} {st : List Ty} (h : PRep w Rd S rbT zs st) (hb : Below w.heap.size w w') : PRep w' Rd S rbT zs st := by
  have hs := hb.size
  have hR : w'.heap[Rd]? = w.heap[Rd]? := hb.block Rd (h.lt Rd mem_Rd)
  refine ⟨h.own.keep (hb.block S (h.lt S mem_S)) (fun k hk => hb.block k (h.lt k (mem_blocks_T hk))), h.perm, fun z hz => ?_, h.nodup, fun g hg => by have := h.lt g hg; omega, ?_, ?_, fun j => ?_⟩
  · have hk := h.zok z hz
    refine ⟨hk.key, hk.own.keep (hb.block _ (h.lt _ (mem_blocks_R hz (by simp [Zt.blocks])))) (fun k hk' => hb.block k (h.lt k (mem_blocks_R hz (by simp [Zt.blocks, hk'])))), hk.perm, hk.len, fun i h1 h2 => ?_⟩
    obtain ⟨r1, r2, r3, r4⟩ := hk.rep i h1 h2
    exact ⟨r1, r2, r3, r4.mono (fun g hg => ⟨by omega, hg.2⟩) (fun g hg => hb.block g hg.1)⟩
  · rw [World.cell?_of_block (w := w) (a := ⟨Rd, 0, none⟩) hR]; exact h.rd0
  · rw [World.cell?_of_block (w := w) (a := ⟨Rd, 1, none⟩) hR]; exact h.rd1
  · rw [World.frozen?_of_block (w := w) (a := ⟨Rd, j, none⟩) hR]; exact h.frz j

/-- all blocks that were there, but those of M, are as they were -/
structure ButM (M : List Nat) (w w' : World) : Prop where
  os : w'.os = w.os
  tape : w'.tape = w.tape
  output : w'.output = w.output
  size : w.heap.size ≤ w'.heap.size
  block : ∀ k, k < w.heap.size → k ∉ M → w'.heap[k]? = w.heap[k]?
theorem ButM.of_below {M : List Nat} {w w' : World} (h : Below w.heap.size w w') : ButM M w w' := ⟨h.os, h.tape, h.output, h.size, fun k hk _ => h.block k hk⟩

/-- what a line's call answers -/
def LAns (Rd S : Nat) (rbT : Option Nat) (zs : List Zt) (w : World) (r : Nat × List Ty) (e : Ending) (w' : World) : Prop :=
  e = .returned (.int .i64 (r.1 : Nat)) ∧ ButM (allBlocks Rd S rbT zs) w w' ∧ ∃ rbT' zs', PRep w' Rd S rbT' zs' r.2 ∧ ∀ g ∈ allBlocks Rd S rbT' zs', g ∈ allBlocks Rd S rbT zs ∨ w.heap.size ≤ g
theorem LAns.same {Rd S : Nat} {rbT : Option Nat} {zs : List Zt} {w w' : World} {st : List Ty} {n : Nat} (h : PRep w Rd S rbT zs st) (hb : Below w.heap.size w w') : LAns Rd S rbT zs w (n, st) (.returned (.int .i64 (n : Nat))) w' :=
  ⟨rfl, ButM.of_below hb, rbT, zs, h.below hb, fun _ hg => .inl hg⟩

set_option maxHeartbeats 2000000 in
theorem typeLine_wrong (Rd : Nat) (b o c : Nat) (ps : List (List UInt8)) (w : World) (hl : ps.length ≠ 1) :
    Calls Tryz.prog 31 #[.pointer (some ⟨Rd, 0, none⟩), .slice (some ⟨b, o, none⟩) ps.length c] w fun e w' => e = .returned (.int .i64 2) ∧ w' = w := by
  have hq : (((ps.length : Nat) : Int) == 1) = false := by rw [beq_eq_false_iff_ne]; omega
  have hq2 : ¬ ((ps.length : Nat) : Int) = 1 := by omega
  generalize ps.length = n at *
  go_enter Tryz.func31, Tryz.ntmps31
  go_wp2
  go_ret
  exact ⟨rfl, rfl⟩
end Go.Proofs.YtlgodpadcilcaaaGreatDoor
namespace Go.Proofs.YtlgodpadcilcaaaGreatDoor
open Go.ChangeShapes Go.WideShapes Go.ChangeAt Go.RowKit

theorem blocks_apart {Rd S : Nat} {rbT : Option Nat} {zs : List Zt} (h : (allBlocks Rd S rbT zs).Nodup) : Rd ≠ S ∧ rbT ≠ some Rd ∧ rbT ≠ some S ∧ ∀ z ∈ zs, ∀ g ∈ z.blocks, g ≠ Rd ∧ g ≠ S ∧ rbT ≠ some g := by
  unfold allBlocks at h
  rw [List.nodup_cons, List.nodup_cons, List.nodup_append] at h
  obtain ⟨h1, h2, h3, h4, h5⟩ := h
  simp only [List.mem_cons, List.mem_append, not_or] at h1 h2
  refine ⟨h1.1, fun e => h1.2.1 (by rw [e]; simp), fun e => h2.1 (by rw [e]; simp), fun z hz g hg => ?_⟩
  have hm : g ∈ zs.flatMap Zt.blocks := List.mem_flatMap.2 ⟨z, hz, hg⟩
  exact ⟨fun e => h1.2.2 (e ▸ hm), fun e => h2.2 (e ▸ hm), fun e => h5 g (by rw [e]; simp) g hm rfl⟩

theorem PRep.keys {w : World} {Rd S : Nat} {rbT : Option Nat} {zs : List Zt} {st : List Ty} (h : PRep w Rd S rbT zs st) (n : List UInt8) : n ∈ (zs.map (·.tv)).map (·.key) ↔ n ∈ st.map (·.nm) := by
  have e : (zs.map (·.tv)).map (·.key) = (zs.map (·.ty)).map (·.nm) := by
    rw [List.map_map, List.map_map]
    exact List.map_congr_left (fun z hz => (h.zok z hz).key)
  rw [e]
  exact (h.perm.map _).mem_iff
theorem PRep.length {w : World} {Rd S : Nat} {rbT : Option Nat} {zs : List Zt} {st : List Ty} (h : PRep w Rd S rbT zs st) : zs.length = st.length := by
  have := h.perm.length_eq
  simpa using this
theorem perm_ins {α : Type} (l : List α) (x : α) (p : Nat) : (l.take p ++ x :: l.drop p).Perm (l ++ [x]) := by
  have h1 : (l.take p ++ x :: l.drop p).Perm (x :: (l.take p ++ l.drop p)) := List.perm_middle
  rw [List.take_append_drop] at h1
  exact h1.trans (List.perm_append_singleton x l).symm

/-- one type more -/
theorem PRep.addType {w W2 w3 : World} {Rd S : Nat} {rbT : Option Nat} {zs : List Zt} {st : List Ty} {n : List UInt8} {B : Nat} (h : PRep w Rd S rbT zs st) (hB : w.heap.size ≤ B) (hB2 : B < W2.heap.size)
    (hW2 : ∀ k, k < w.heap.size → k ≠ Rd → W2.heap[k]? = w.heap[k]?) (h20 : W2.cell? ⟨Rd, 0, none⟩ = some (.pointer (some ⟨S, 0, none⟩))) (h21 : W2.cell? ⟨Rd, 1, none⟩ = some (.pointer (some ⟨B, 0, none⟩))) (hfz : ∀ j, W2.frozen? ⟨Rd, j, none⟩ = false)
    (hBc : W2.cell? ⟨B, 0, none⟩ = some (.slice none 0 0)) (hBf : W2.frozen? ⟨B, 0, none⟩ = false)
    (hput : PutTAns W2 w3 S rbT (zs.map (·.tv)) ⟨n, B⟩) :
    ∃ rbT' zs', PRep w3 Rd S rbT' zs' (st ++ [⟨n, []⟩]) ∧ ∀ g ∈ allBlocks Rd S rbT' zs', g ∈ allBlocks Rd S rbT zs ∨ w.heap.size ≤ g := by
  obtain ⟨p, rbT', hp, hown3, hrb, hbut⟩ := hput
  obtain ⟨a1, a2, a3, a4⟩ := blocks_apart h.nodup
  have hRd := h.lt Rd mem_Rd
  have hS := h.lt S mem_S
  have hw2 : w.heap.size ≤ W2.heap.size := by omega
  have hs3 := hbut.size
  obtain ⟨z0, hz0⟩ : ∃ z0 : Zt, z0 = ⟨⟨n, B⟩, ⟨n, []⟩, none, [], []⟩ := ⟨_, rfl⟩
  have hkeep : ∀ k, k < w.heap.size → k ≠ Rd → k ≠ S → rbT ≠ some k → w3.heap[k]? = w.heap[k]? := fun k hk h1 h2 h3 => (hbut.block k (by omega) h2 h3).trans (hW2 k hk h1)
  have hBne : B ≠ S ∧ rbT ≠ some B := ⟨by omega, fun e => by have := h.lt B (mem_blocks_T e); omega⟩
  have hB3 : w3.heap[B]? = W2.heap[B]? := hbut.block B hB2 hBne.1 hBne.2
  have hR3 : w3.heap[Rd]? = W2.heap[Rd]? := hbut.block Rd (by omega) a1 a2
  have hblk : ∀ g, g ∈ (zs.take p ++ z0 :: zs.drop p).flatMap Zt.blocks ↔ g = B ∨ g ∈ zs.flatMap Zt.blocks := fun g => by
    have h1 := ((perm_ins zs z0 p).flatMap_right Zt.blocks).mem_iff (a := g)
    rw [h1, List.flatMap_append, List.mem_append]
    have e : [z0].flatMap Zt.blocks = [B] := by rw [hz0]; rfl
    rw [e, List.mem_singleton]
    exact Or.comm
  have hmem : ∀ g ∈ allBlocks Rd S rbT' (zs.take p ++ z0 :: zs.drop p), g ∈ allBlocks Rd S rbT zs ∨ w.heap.size ≤ g := fun g hg => by
    unfold allBlocks at hg
    rcases List.mem_cons.1 hg with rfl | hg
    · exact .inl mem_Rd
    · rcases List.mem_cons.1 hg with rfl | hg
      · exact .inl mem_S
      · rcases List.mem_append.1 hg with hg | hg
        · simp at hg
          rcases hrb with e | ⟨g', e, hle⟩
          · exact .inl (mem_blocks_T (by rw [← e]; exact hg))
          · rw [e] at hg; cases hg; right; omega
        · rcases (hblk g).1 hg with rfl | hg
          · right; omega
          · obtain ⟨z, hz, hg⟩ := List.mem_flatMap.1 hg
            exact .inl (mem_blocks_R hz hg)
  have hlt3 : ∀ g ∈ allBlocks Rd S rbT' (zs.take p ++ z0 :: zs.drop p), g < w3.heap.size := fun g hg => by
    unfold allBlocks at hg
    rcases List.mem_cons.1 hg with rfl | hg
    · omega
    · rcases List.mem_cons.1 hg with rfl | hg
      · omega
      · rcases List.mem_append.1 hg with hg | hg
        · simp at hg; exact (hown3.lt).2 g hg
        · rcases (hblk g).1 hg with rfl | hg
          · omega
          · obtain ⟨z, hz, hg⟩ := List.mem_flatMap.1 hg
            have := h.lt g (mem_blocks_R hz hg); omega
  refine ⟨rbT', zs.take p ++ z0 :: zs.drop p, ⟨?_, ?_, ?_, ?_, hlt3, ?_, ?_, ?_⟩, hmem⟩
  · have e : (zs.take p ++ z0 :: zs.drop p).map (·.tv) = (zs.map (·.tv)).take p ++ ⟨n, B⟩ :: (zs.map (·.tv)).drop p := by
      rw [List.map_append, List.map_cons, List.map_take, List.map_drop, hz0]
    rw [e]
    exact hown3
  · have h1 := (perm_ins zs z0 p).map (·.ty)
    have e : (zs ++ [z0]).map (·.ty) = zs.map (·.ty) ++ [⟨n, []⟩] := by rw [List.map_append, hz0]; rfl
    rw [e] at h1
    exact h1.trans (h.perm.append_right _)
  · intro z hz
    have hz' : z ∈ zs ∨ z = z0 := by
      rcases List.mem_append.1 hz with hz | hz
      · exact .inl (List.mem_of_mem_take hz)
      · rcases List.mem_cons.1 hz with hz | hz
        · exact .inr hz
        · exact .inl (List.mem_of_mem_drop hz)
    rcases hz' with hz' | rfl
    · have hk := h.zok z hz'
      have hb1 : ∀ g ∈ z.blocks, w3.heap[g]? = w.heap[g]? := fun g hg => hkeep g (h.lt g (mem_blocks_R hz' hg)) (a4 z hz' g hg).1 (a4 z hz' g hg).2.1 (a4 z hz' g hg).2.2
      refine ⟨hk.key, hk.own.keep (hb1 _ (by simp [Zt.blocks])) (fun k hk' => hb1 k (by simp [Zt.blocks, hk'])), hk.perm, hk.len, fun i h1 h2 => ?_⟩
      obtain ⟨r1, r2, r3, r4⟩ := hk.rep i h1 h2
      refine ⟨r1, r2, r3, r4.mono (fun g hg => ⟨by omega, fun hm => ?_⟩) (fun g hg => ?_)⟩
      · rcases hmem g hm with hm | hm
        · exact hg.2 hm
        · omega
      · exact hkeep g hg.1 (fun e => hg.2 (e ▸ mem_Rd)) (fun e => hg.2 (e ▸ mem_S)) (fun e => hg.2 (mem_blocks_T e))
    · rw [hz0]
      refine ⟨rfl, ⟨⟨.slice none 0 0, ?_, ⟨rfl, .inl ⟨rfl, rfl⟩⟩, rfl⟩, by simp, ?_, by simp [Rising], by simp⟩, List.Perm.refl _, rfl, fun i h1 => by simp at h1⟩
      · rw [World.cell?_of_block (w := W2) (a := ⟨B, 0, none⟩) hB3]; exact hBc
      · rw [World.frozen?_of_block (w := W2) (a := ⟨B, 0, none⟩) hB3]; exact hBf
  · have hpm : (allBlocks Rd S rbT' (zs.take p ++ z0 :: zs.drop p)).Perm (Rd :: S :: (rbT'.toList ++ (zs.flatMap Zt.blocks ++ [B]))) := by
      unfold allBlocks
      refine List.Perm.cons _ (List.Perm.cons _ (List.Perm.append_left _ ?_))
      have h1 := (perm_ins zs z0 p).flatMap_right Zt.blocks
      have e : (zs ++ [z0]).flatMap Zt.blocks = zs.flatMap Zt.blocks ++ [B] := by rw [List.flatMap_append, hz0]; rfl
      rw [e] at h1
      exact h1
    rw [hpm.nodup_iff]
    have hnd := h.nodup
    unfold allBlocks at hnd
    rw [List.nodup_cons, List.nodup_cons, List.nodup_append] at hnd
    obtain ⟨n1, n2, n3, n4, n5⟩ := hnd
    simp only [List.mem_cons, List.mem_append, not_or] at n1 n2
    have hrbR : rbT' ≠ some Rd := by
      rcases hrb with e | ⟨g', e, hle⟩
      · rw [e]; exact a2
      · rw [e]; intro e2; cases e2; omega
    have hrbS : rbT' ≠ some S := by
      rcases hrb with e | ⟨g', e, hle⟩
      · rw [e]; exact a3
      · rw [e]; intro e2; cases e2; omega
    rw [List.nodup_cons, List.nodup_cons, List.nodup_append]
    refine ⟨?_, ?_, ?_, ?_, ?_⟩
    · simp only [List.mem_cons, List.mem_append, not_or]
      exact ⟨a1, fun hm => hrbR (by simpa using hm), n1.2.2, by simp; omega⟩
    · simp only [List.mem_append, not_or]
      exact ⟨fun hm => hrbS (by simpa using hm), n2.2, by simp; omega⟩
    · cases rbT' <;> simp
    · rw [List.nodup_append]
      refine ⟨n4, by simp, fun a ha b hb => ?_⟩
      simp at hb
      subst hb
      obtain ⟨z, hz, hg⟩ := List.mem_flatMap.1 ha
      have := h.lt a (mem_blocks_R hz hg)
      omega
    · intro a ha b hb e
      subst e
      simp at ha
      rcases List.mem_append.1 hb with hb | hb
      · rcases hrb with e | ⟨g', e, hle⟩
        · exact n5 a (by rw [← e]; simpa using ha) a hb rfl
        · obtain ⟨z, hz, hg⟩ := List.mem_flatMap.1 hb
          have := h.lt a (mem_blocks_R hz hg)
          rw [e] at ha; cases ha; omega
      · simp at hb
        subst hb
        rcases hrb with e | ⟨g', e, hle⟩
        · exact hBne.2 (by rw [← e]; exact ha)
        · rw [e] at ha; cases ha; omega
  · rw [World.cell?_of_block (w := W2) (a := ⟨Rd, 0, none⟩) hR3]; exact h20
  · right
    refine ⟨z0, by simp, by rw [hz0]; simp, ?_⟩
    rw [World.cell?_of_block (w := W2) (a := ⟨Rd, 1, none⟩) hR3, hz0]; exact h21
  · intro j
    rw [World.frozen?_of_block (w := W2) (a := ⟨Rd, j, none⟩) hR3]; exact hfz j
end Go.Proofs.YtlgodpadcilcaaaGreatDoor
namespace Go.Proofs.YtlgodpadcilcaaaGreatDoor
open Go.ChangeShapes Go.WideShapes Go.ChangeAt Go.RowKit

/-- the table of 36 by 36 in block b -/
structure Mat (w : World) (b : Nat) (X : Nat → Nat → Bool) : Prop where
  cell : ∀ i j, i < 36 → j < 36 → w.cell? ⟨b, i * 36 + j, none⟩ = some (.bool (X i j))
  fr : ∀ k, w.frozen? ⟨b, k, none⟩ = false
  blk : ∃ c, w.heap[b]? = some (.cells c 104) ∧ c.size = 1296
theorem blk_set {w : World} {b : Nat} {c : Array Value} {t : TypeId} (h : w.heap[b]? = some (.cells c t)) (k : Nat) (v : Value) : (w.setCell ⟨b, k, none⟩ v).heap[b]? = some (.cells (c.setIfInBounds k v) t) := by
  obtain ⟨hlt, hk⟩ := Array.getElem?_eq_some_iff.1 h
  show (w.heap.modify b _)[b]? = _
  rw [Array.getElem?_eq_getElem (by rw [Array.size_modify]; exact hlt), Array.getElem_modify_self, hk]
  rfl
theorem Mat.set {w : World} {b : Nat} {X : Nat → Nat → Bool} (h : Mat w b X) (i j : Nat) (hi : i < 36) (hj : j < 36) (v : Bool) : Mat (w.setCell ⟨b, i * 36 + j, none⟩ (.bool v)) b (fun a c => if a = i ∧ c = j then v else X a c) := by
  refine ⟨fun a c ha hc => ?_, fun k => by rw [World.frozen?_setCell]; exact h.fr k, by
    obtain ⟨c, h1, h2⟩ := h.blk
    exact ⟨_, blk_set h1 _ _, by simp [h2]⟩⟩
  by_cases e : a = i ∧ c = j
  · obtain ⟨rfl, rfl⟩ := e
    rw [World.cell?_setCell_same' _ _ _ (by rw [h.cell a c ha hc]; rfl)]
    simp
  · rw [cell_set_ne (by omega), h.cell a c ha hc]
    simp [e]

set_option maxHeartbeats 4000000 in
theorem close_any (M : Nat → Nat → Prop) (b : Nat) (X : Nat → Nat → Bool) (w : World) (h : Mat w b X) (hF : Fw M 36 0 X) :
    Calls Tryz.prog 40 #[.pointer (some ⟨b, 0, none⟩)] w fun e w' => (∃ v, e = .returned v) ∧ (∃ Y, Mat w' b Y ∧ Fw M 36 36 Y) ∧ But b w w' ∧ w'.heap.size = w.heap.size := by
  go_enter Tryz.func40, Tryz.ntmps40
  go_wp2
  go_loopw [5] (fun s5 wr => ∃ k : Nat, k ≤ 36 ∧ s5 = .int .i64 k ∧ Hid (∃ Y, Mat wr b Y ∧ Fw M 36 k Y) ∧ Hid (But b w wr ∧ wr.heap.size = w.heap.size)) (fun s5 _ => 36 - (intOf s5).toNat)
  case atStart => exact ⟨0, by omega, rfl, (⟨X, h, hF⟩ : ∃ Y, Mat w b Y ∧ Fw M 36 0 Y), (⟨But.refl _ _, rfl⟩ : But b w w ∧ _)⟩
  case round =>
    obtain ⟨k, hk, rfl, HY, HB⟩ := hrel
    by_cases hk6 : k < 36
    · go_wp2
      go_loopw [8] (fun s8 wq => ∃ i : Nat, i ≤ 36 ∧ s8 = .int .i64 i ∧ Hid (∃ Y, Mat wq b Y ∧ FwAt M 36 k i 0 Y) ∧ Hid (But b w wq ∧ wq.heap.size = w.heap.size)) (fun s8 _ => 36 - (intOf s8).toNat)
      case atStart =>
        obtain ⟨Y, h1, h2⟩ := HY.out
        exact ⟨0, by omega, rfl, (⟨Y, h1, h2.begin⟩ : ∃ Y, Mat wr b Y ∧ FwAt M 36 k 0 0 Y), HB⟩
      case round =>
        obtain ⟨i, hi, rfl, HY2, HB2⟩ := hrel
        by_cases hi6 : i < 36
        · go_wp2
          go_loopw [11] (fun s11 wz => ∃ j : Nat, j ≤ 36 ∧ s11 = .int .i64 j ∧ Hid (∃ Y, Mat wz b Y ∧ FwAt M 36 k i j Y) ∧ Hid (But b w wz ∧ wz.heap.size = w.heap.size)) (fun s11 _ => 36 - (intOf s11).toNat)
          case atStart => exact ⟨0, by omega, rfl, HY2, HB2⟩
          case round =>
            obtain ⟨j, hj, rfl, HY3, HB3⟩ := hrel
            by_cases hj6 : j < 36
            · obtain ⟨Y, hM, hA⟩ := HY3.out
              have c1 := hM.cell i k hi6 hk6
              have c2 := hM.cell k j hk6 hj6
              have c3 := hM.cell i j hi6 hj6
              have hfz := hM.fr
              have HM : Hid _ := hM
              have HA : Hid _ := hA
              clear hM hA HY3
              cases hy1 : Y i k with
              | true =>
                rw [hy1] at c1
                cases hy2 : Y k j with
                | true =>
                  rw [hy2] at c2
                  go_wp2
                  go_roundw
                  case rel =>
                    refine ⟨j + 1, by omega, by go_num, (⟨_, HM.out.set i j hi6 hj6 true, HA.out.step hk6 hi6 hj6 (fun a c _ _ => ?_)⟩ : ∃ Y, Mat _ b Y ∧ FwAt M 36 k i (j + 1) Y), (⟨HB3.out.1.setP _ _, by rw [World.size_setCell]; exact HB3.out.2⟩ : _ ∧ _)⟩
                    simp [hy1, hy2]
                  case measure => simp [intOf]; omega
                | false =>
                  rw [hy2] at c2
                  go_wp2
                  go_roundw
                  case rel =>
                    refine ⟨j + 1, by omega, by go_num, (⟨Y, HM.out, HA.out.step hk6 hi6 hj6 (fun a c _ _ => ?_)⟩ : ∃ Y, Mat _ b Y ∧ FwAt M 36 k i (j + 1) Y), HB3⟩
                    split
                    · rename_i e; rw [e.1, e.2, hy2]; simp
                    · rfl
                  case measure => simp [intOf]; omega
              | false =>
                rw [hy1] at c1
                go_wp2
                go_roundw
                case rel =>
                  refine ⟨j + 1, by omega, by go_num, (⟨Y, HM.out, HA.out.step hk6 hi6 hj6 (fun a c _ _ => ?_)⟩ : ∃ Y, Mat _ b Y ∧ FwAt M 36 k i (j + 1) Y), HB3⟩
                  split
                  · rename_i e; rw [e.1, e.2, hy1]; simp
                  · rfl
                case measure => simp [intOf]; omega
            · obtain rfl : j = 36 := by omega
              go_wp2
              go_roundw
              case rel =>
                obtain ⟨Y, h1, h2⟩ := HY3.out
                exact ⟨i + 1, by omega, by go_num, (⟨Y, h1, h2.row⟩ : ∃ Y, Mat _ b Y ∧ FwAt M 36 k (i + 1) 0 Y), HB3⟩
              case measure => simp [intOf]; omega
        · obtain rfl : i = 36 := by omega
          go_wp2
          go_roundw
          case rel =>
            obtain ⟨Y, h1, h2⟩ := HY2.out
            exact ⟨k + 1, by omega, by go_num, (⟨Y, h1, h2.done⟩ : ∃ Y, Mat _ b Y ∧ Fw M 36 (k + 1) Y), HB2⟩
          case measure => simp [intOf]; omega
    · obtain rfl : k = 36 := by omega
      go_wp2
      go_end0
      exact ⟨⟨_, rfl⟩, HY.out, HB.out⟩
end Go.Proofs.YtlgodpadcilcaaaGreatDoor
