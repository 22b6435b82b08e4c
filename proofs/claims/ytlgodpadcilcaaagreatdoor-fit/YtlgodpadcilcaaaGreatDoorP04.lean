import Derived.Test.YtlgodpadcilcaaaGreatDoorP03
import Derived.Test.YtlgodpadcilcaaaGreatDoorP02
namespace Go.Proofs.YtlgodpadcilcaaaGreatDoor
open Go.ChangeShapes Go.WideShapes Go.ChangeAt Go.RowKit

theorem flat_takeR (es : List RV) (i : Nat) : ((es.take i).map RV.cells).flatten = (es.map RV.cells).flatten.take (i * 8) := by
  induction es generalizing i with
  | nil => simp
  | cons x r ih =>
    cases i with
    | zero => simp
    | succ i =>
      simp only [List.take_succ_cons, List.map_cons, List.flatten_cons]
      rw [ih, List.take_append, x.len, show (i + 1) * 8 - 8 = i * 8 by omega, List.take_of_length_le (l := x.cells) (by rw [x.len]; omega)]
theorem flat_dropR (es : List RV) (i : Nat) : ((es.drop i).map RV.cells).flatten = (es.map RV.cells).flatten.drop (i * 8) := by
  induction es generalizing i with
  | nil => simp
  | cons x r ih =>
    cases i with
    | zero => simp
    | succ i =>
      simp only [List.drop_succ_cons, List.map_cons, List.flatten_cons]
      rw [ih, List.drop_append, x.len, show (i + 1) * 8 - 8 = i * 8 by omega, List.drop_of_length_le (l := x.cells) (by rw [x.len]; omega), List.nil_append]
theorem flat_insR (es : List RV) (x : RV) (i : Nat) : ((es.take i ++ x :: es.drop i).map RV.cells).flatten = (es.map RV.cells).flatten.take (i * 8) ++ x.cells ++ (es.map RV.cells).flatten.drop (i * 8) := by
  rw [List.map_append, List.flatten_append, List.map_cons, List.flatten_cons, flat_takeR, flat_dropR, List.append_assoc]
theorem one_flatR (es : List RV) : ∀ u ∈ (es.map RV.cells).flatten, u.oneCell' = true := by
  intro u hu
  obtain ⟨l, hl, hu⟩ := List.mem_flatten.1 hu
  obtain ⟨x, _, rfl⟩ := List.mem_map.1 hl
  exact x.one u hu

set_option maxHeartbeats 4000000 in
set_option maxRecDepth 100000 in
theorem InsertR_shift (g cap : Nat) (es : List RV) (x : RV) (i F : Nat) (w : World) (h : RowR w (.slice (some ⟨g, 0, none⟩) es.length cap) es) (hi : i < es.length) (hroom : es.length + 1 ≤ cap)
    (hF : w.heap[F]? = some (.cells x.cells.toArray 146 (0, 0))) (hgF : F ≠ g) :
    Calls Tryz.prog 71 #[.slice (some ⟨g, 0, none⟩) es.length cap, .int .i64 (i : Nat), .slice (some ⟨F, 0, none⟩) 1 1] w fun e w' => InsR w (.slice (some ⟨g, 0, none⟩) es.length cap) (es.take i ++ x :: es.drop i) e w' := by
  obtain ⟨i0, hi0, hz0, hz1, hz2⟩ := info_parts infoR
  have hsz : (Tryz.prog.info? 146).map (·.size) = some 8 := by rw [hi0]; simp [hz1]
  obtain ⟨cur, hcur, hcm, hcs, htk⟩ : ∃ cur : Array Value, w.heap[g]? = some (.cells cur 146 (0, 0)) ∧ cap ≤ maxLen ∧ cur.size = cap * 8 ∧ cur.toList.take (es.length * 8) = (es.map RV.cells).flatten := by
    rcases h.2 with ⟨e, _⟩ | ⟨g', cap', cur, e, _, h1, _, h2, h3, h4⟩
    · cases e
    · cases e; exact ⟨cur, h1, h2, h3, h4⟩
  have hXl : (es.map RV.cells).flatten.length = es.length * 8 := h.1
  have hone := one_flatR es
  have hnone := x.one
  have hnl : x.cells.length = 8 := x.len
  have HI : Hid (((es.take i ++ x :: es.drop i).map RV.cells).flatten = (es.map RV.cells).flatten.take (i * 8) ++ x.cells ++ (es.map RV.cells).flatten.drop (i * 8)) := flat_insR es x i
  have HL : Hid ((es.take i ++ x :: es.drop i).length = es.length + 1) := by show _ = _; simp; omega
  have hnews := World.news_of_block (cs := x.cells.toArray) (t := 146) (fr := (0, 0)) hF
  have hcells : ∀ j v, (es.map RV.cells).flatten[j]? = some v → w.cell? ⟨g, j, none⟩ = some v := fun j v hj => by
    rw [h.cellAt j (by rw [← hXl]; exact (List.getElem?_eq_some_iff.1 hj).1)]; exact hj
  have hov : ∀ lb cb, (callFunc 90 #[.slice (some ⟨F, 0, none⟩) 1 1, .slice (some ⟨g, (i + 1) * 8, none⟩) lb cb]).run Tryz.prog w = .ok (.value (.bool false)) w := fun lb cb => by
    rw [run_callFunc_extern Tryz.func90 (by kernel_rfl) (by kernel_rfl) (by kernel_rfl) (e := Extern.SlicesOverlaps.overlaps #[130, 130] #[4]) (by kernel_rfl),
      Lib.run_overlaps_apart w 130 4 146 Tryz.underlying130 8 (fun u => by simp [sizeOf, typeInfo, hi0, hz1]) ⟨F, 0, none⟩ ⟨g, (i + 1) * 8, none⟩ 1 1 lb cb hgF 146 146 x.cells.toArray.size cur.size (by unfold World.shape?; rw [hF]) (by unfold World.shape?; rw [hcur]) (by rw [hcs]; omega) (by simp [World.frozen?, hF]) (by simp [World.frozen?, hF])]
    rfl
  generalize hn : es.length = n at *
  have HNn : Hid (es.length = n) := hn
  clear hn
  generalize (es.map RV.cells).flatten = XS at *
  generalize x.cells = nw at *
  have hdl : (XS.drop (i * 8)).length = (n - i) * 8 := by rw [List.length_drop, hXl]; omega
  obtain ⟨R1, hR1⟩ : ∃ R1 : List Value, R1 = cur.toList.take ((i + 1) * 8) ++ XS.drop (i * 8) ++ cur.toList.drop ((i + 1) * 8 + (XS.drop (i * 8)).length) := ⟨_, rfl⟩
  have hcl : cur.toList.length = cap * 8 := by rw [Array.length_toList]; exact hcs
  have hR1l : R1.length = cap * 8 := by
    rw [hR1]
    simp only [List.length_append, List.length_take, List.length_drop, hcl, hXl]
    omega
  have hcp1 : ∀ ty dc sc, (Builtin.copy_ #[130, 130] ty #[.slice (some ⟨g, (i + 1) * 8, none⟩) (n + 1 - (i + 1)) dc, .slice (some ⟨g, i * 8, none⟩) (n + 1 - i) sc]).run Tryz.prog w.drew = .ok (goInt (n - i : Nat)) (w.drew.setRow g R1.toArray) := fun ty dc sc => by
    rw [hR1]
    exact run_copy_rowK 8 w.drew _ _ ty 146 g ((i + 1) * 8) (n + 1 - (i + 1)) dc ⟨g, i * 8, none⟩ (n + 1 - i) sc cur 146 (XS.drop (i * 8)) Tryz.underlying130 hsz hcur (n - i) (by simp only [Nat.min_def]; split <;> omega) hdl
      (fun j v hj => by rw [Addr.add_mid]; exact hcells _ v (by rwa [List.getElem?_drop] at hj)) (by rw [hdl, hcs]; omega) (fun v hv => hone v (List.mem_of_mem_drop hv))
  have hg1 : (w.drew.setRow g R1.toArray).heap[g]? = some (.cells R1.toArray 146 (0, 0)) := setRow_heap _ _ cur _ 146 (0, 0) hcur
  obtain ⟨R2, hR2⟩ : ∃ R2 : List Value, R2 = R1.take (i * 8) ++ nw ++ R1.drop (i * 8 + nw.length) := ⟨_, rfl⟩
  have hcp2 : ∀ (ty : TypeId) dc, (Builtin.copy_ #[130, 130] ty #[.slice (some ⟨g, i * 8, none⟩) (n + 1 - i) dc, .slice (some ⟨F, 0, none⟩) 1 1]).run Tryz.prog (w.drew.setRow g R1.toArray) = .ok (goInt (1 : Nat)) ((w.drew.setRow g R1.toArray).setRow g R2.toArray) := fun ty dc => by
    rw [hR2]
    have := run_copy_rowK (P := Tryz.prog) 8 (w.drew.setRow g R1.toArray) 130 130 ty 146 g (i * 8) (n + 1 - i) dc ⟨F, 0, none⟩ 1 1 R1.toArray 146 nw Tryz.underlying130 hsz hg1 1 (by simp only [Nat.min_def]; split <;> omega) (by omega)
      (fun j v hj => by
        rw [Addr.add_mid, World.cell?_of_block (w := w.drew) (a := ⟨F, 0 + j, none⟩) (setRow_other _ _ _ _ hgF)]
        have := hnews j v hj
        rwa [Addr.add_mid] at this) (by rw [hnl]; simp [hR1l]; omega) hnone
    simpa using this
  have hfin : (R2.take ((n + 1) * 8)) = XS.take (i * 8) ++ nw ++ XS.drop (i * 8) := by
    have := row_shift XS nw cur.toList (i * 8) (by rw [hXl]; omega) (by rw [hXl]; exact htk) (by rw [hXl, hnl, hcl]; omega)
    rw [hXl, hnl] at this
    rw [hR2, hR1, hnl, show (n + 1) * 8 = n * 8 + 8 by omega, show (i + 1) * 8 = i * 8 + 8 by omega]
    exact this
  have hR2l : R2.length = cap * 8 := by
    rw [hR2]
    simp only [List.length_append, List.length_take, List.length_drop, hR1l, hnl]
    omega
  have HF : Hid _ := hfin
  have HG1 : Hid _ := hg1
  have hz2 : ¬ ((i : Int) = (n : Int)) := by omega
  have hz3 : ¬ ((cap : Int) < (n : Int) + 1) := by omega
  have hb2 : ¬ (cap = i + 1) := by omega
  have hb3 : (i : Int) ≤ (n : Int) + 1 := by omega
  have hb4 : ¬ (cap = i) := by omega
  have hin : i ≤ n := by omega
  have hw1 : IntKind.i64.wrap ((i : Int) + 1) = (i : Int) + 1 := by rw [IntKind.wrap_i64]; unfold maxLen at hcm; omega
  have hb1 : (0 : Int) ≤ (i : Int) + 1 := by omega
  have mixed : Tryz.prog.follows .mixedOrders = true := by kernel_rfl
  have htn : ((i : Int) + 1).toNat = i + 1 := by omega
  unfold maxLen at hcm
  clear hfin hg1 hR2 hR1 hcells hnews hone hnone htk hdl hF hcur
  go_enter Tryz.func71, Tryz.ntmps71
  go_wp2_with (simp only [hov])
  go_region_law_o (refine step_copy_runI rfl _ _ 130 130 rfl (.slice (some ⟨g, (i + 1) * 8, none⟩) (n + 1 - (i + 1)) (cap - (i + 1))) (.slice (some ⟨g, i * 8, none⟩) (n + 1 - i) (cap - i)) (by simp [Act.eval, Act.put]) (by simp [Act.eval, Act.put]) (hcp1 3 (cap - (i + 1)) (cap - i)) ?_)
  go_wp2_with (at_builtin; refine wpList_copy_runI _ rfl _ _ 130 130 rfl _ _ rfl rfl (hcp2 _ _) ?_)
  go_ret
  have HGF : Hid ((w.drew.setRow g R1.toArray).setRow g R2.toArray = (w.drew.setRow g R1.toArray).setRow g R2.toArray) := rfl
  refine ⟨g, cap, by rw [HL.out]; rfl, ?_, ?_, .inl rfl⟩
  · unfold RowR
    rw [HL.out, HI.out]
    refine ⟨by rw [← HF.out, List.length_take, hR2l]; omega, .inr ⟨g, cap, R2.toArray, rfl, Nat.zero_le _, setRow_heap _ _ R1.toArray _ 146 (0, 0) HG1.out, by omega, by unfold maxLen; omega, by simp [hR2l], ?_⟩⟩
    rw [List.toList_toArray]
    exact HF.out
  · refine ⟨rfl, rfl, rfl, by simp, fun k hk hne => ?_⟩
    have hkg : k ≠ g := fun e => hne (by rw [e]; rfl)
    rw [setRow_other _ _ _ _ hkg, setRow_other _ _ _ _ hkg]
    rfl
end Go.Proofs.YtlgodpadcilcaaaGreatDoor
namespace Go.Proofs.YtlgodpadcilcaaaGreatDoor
open Go.ChangeShapes Go.WideShapes Go.ChangeAt Go.RowKit

set_option maxHeartbeats 4000000 in
set_option maxRecDepth 100000 in
theorem InsertT_grow (g cap : Nat) (es : List TV) (x : TV) (i F : Nat) (w : World) (h : RowT w (.slice (some ⟨g, 0, none⟩) es.length cap) es) (hi : i < es.length) (hl : es.length ≤ 1000) (hroom : cap < es.length + 1)
    (hF : w.heap[F]? = some (.cells x.cells.toArray 158 (0, 0))) :
    Calls Tryz.prog 85 #[.slice (some ⟨g, 0, none⟩) es.length cap, .int .i64 (i : Nat), .slice (some ⟨F, 0, none⟩) 1 1] w fun e w' => InsT w (.slice (some ⟨g, 0, none⟩) es.length cap) (es.take i ++ x :: es.drop i) e w' := by
  obtain ⟨i0, hi0, hz0, hz1, hz2⟩ := info_parts infoT
  have hsz : (Tryz.prog.info? 158).map (·.size) = some 2 := by rw [hi0]; simp [hz1]
  have hnc : es.length ≤ cap := by
    rcases h.2 with ⟨e, _⟩ | ⟨g', cap', cur, e, _, _, h2, _⟩
    · cases e
    · cases e; exact h2
  have hgw : g < w.heap.size := (h.lt g rfl).2
  have hFw : F < w.heap.size := (Array.getElem?_eq_some_iff.1 hF).1
  have hXl : (es.map TV.cells).flatten.length = es.length * 2 := h.1
  have hone := one_flatT es
  have hnone := x.one
  have hnl : x.cells.length = 2 := x.len
  have HI : Hid (((es.take i ++ x :: es.drop i).map TV.cells).flatten = (es.map TV.cells).flatten.take (i * 2) ++ x.cells ++ (es.map TV.cells).flatten.drop (i * 2)) := flat_insT es x i
  have HL : Hid ((es.take i ++ x :: es.drop i).length = es.length + 1) := by show _ = _; simp; omega
  have hnews := World.news_of_block (cs := x.cells.toArray) (t := 158) (fr := (0, 0)) hF
  have hcells : ∀ j v, (es.map TV.cells).flatten[j]? = some v → w.cell? ⟨g, j, none⟩ = some v := fun j v hj => by
    rw [h.cellAt j (by rw [← hXl]; exact (List.getElem?_eq_some_iff.1 hj).1)]; exact hj
  generalize hn : es.length = n at *
  have HNn : Hid (es.length = n) := hn
  clear hn hF
  generalize (es.map TV.cells).flatten = XS at *
  generalize x.cells = nw at *
  have hdl : (XS.drop (i * 2)).length = (n - i) * 2 := by rw [List.length_drop, hXl]; omega
  have htl : (XS.take (i * 2)).length = i * 2 := by rw [List.length_take, hXl]; omega
  have hold : (Builtin.firstCells i0.size i (.slice (some ⟨g, 0, none⟩) i cap)).run Tryz.prog w.drew = .ok (XS.take (i * 2)).toArray w.drew := by
    rw [hz1]
    exact run_firstCells_some w.drew 2 i ⟨g, 0, none⟩ i cap (XS.take (i * 2)) (by rw [htl]) (fun j v hj => by
      rw [Addr.add_mid, Nat.zero_add]
      rw [List.getElem?_take] at hj
      split at hj
      · exact hcells j v hj
      · cases hj)
  obtain ⟨G, hG⟩ : ∃ G, G = grownCap w (n + 1) cap 158 := ⟨_, rfl⟩
  have hGn : n + 1 ≤ G := by rw [hG]; exact grownCap_ge w _ _ _
  have hG63 : G ≤ maxLen := by rw [hG]; exact grownCap_le_maxLen w (n + 1) cap 158 (by unfold maxLen; omega)
  obtain ⟨Z, hZ⟩ : ∃ Z : List Value, Z = (Builtin.zeroCells (Value.agg #[.string ⟨#[]⟩, .pointer none]).cells (n + 1 - i)).toList ++ (Builtin.zeroCells (Value.agg #[.string ⟨#[]⟩, .pointer none]).cells (G - (n + 1))).toList := ⟨_, rfl⟩
  have hzc : ∀ k, (Builtin.zeroCells (Value.agg #[.string ⟨#[]⟩, .pointer none]).cells k).size = k * 2 := fun k => by
    simp [Builtin.zeroCells, Value.cells]
  have hZl : Z.length = (G - i) * 2 := by
    rw [hZ, List.length_append, Array.length_toList, Array.length_toList, hzc, hzc]; omega
  obtain ⟨ROW, hROW⟩ : ∃ ROW : List Value, ROW = XS.take (i * 2) ++ Z := ⟨_, rfl⟩
  have hRl : ROW.length = G * 2 := by rw [hROW, List.length_append, htl, hZl]; omega
  have hrz : ∀ ty, (Builtin.append_ #[45, 3] ty #[.slice (some ⟨g, 0, none⟩) i cap, .int .i64 ((n : Int) + 1 - (i : Int))]).run Tryz.prog w =
      .ok (.slice (some ⟨w.heap.size, 0, none⟩) (n + 1) G) (w.alloc (.cells ROW.toArray 158)).drew := fun ty => by
    have h := Lib.run_append_grow_zeros (P := Tryz.prog) w 45 3 ty 158 i0 _ .i64 .i64 Tryz.underlying45 Tryz.underlying3 hi0 hz0 (some ⟨g, 0, none⟩) i cap (XS.take (i * 2)) hold (n + 1 - i) (by omega) (by omega) (by omega) (by omega) (by rw [hz2]; omega) (by rw [hz2, show i + (n + 1 - i) = n + 1 by omega]; exact growslice_fits hroom (by omega))
    rw [show i + (n + 1 - i) = n + 1 by omega, ← hG] at h
    rw [show (n : Int) + 1 - (i : Int) = ((n + 1 - i : Nat) : Int) by omega, h]
    have e : (XS.take (i * 2)).toArray ++ Builtin.zeroCells (Value.agg #[.string ⟨#[]⟩, .pointer none]).cells (n + 1 - i) ++ Builtin.zeroCells (Value.agg #[.string ⟨#[]⟩, .pointer none]).cells (G - (n + 1)) = ROW.toArray := by
      apply Array.toList_inj.1
      rw [Array.toList_append, Array.toList_append, hROW, hZ]
      simp
    rw [e]
    rfl
  have hg1 : (w.alloc (.cells ROW.toArray 158)).drew.heap[w.heap.size]? = some (.cells ROW.toArray 158 (0, 0)) := heap_alloc_new w _
  obtain ⟨R1, hR1⟩ : ∃ R1 : List Value, R1 = ROW.take (i * 2) ++ nw ++ ROW.drop (i * 2 + nw.length) := ⟨_, rfl⟩
  have hR1l : R1.length = G * 2 := by
    rw [hR1]
    simp only [List.length_append, List.length_take, List.length_drop, hRl, hnl]
    omega
  have hcpA : ∀ (ty : TypeId) dc, (Builtin.copy_ #[45, 45] ty #[.slice (some ⟨w.heap.size, i * 2, none⟩) (n + 1 - i) dc, .slice (some ⟨F, 0, none⟩) 1 1]).run Tryz.prog (w.alloc (.cells ROW.toArray 158)).drew = .ok (goInt (1 : Nat)) ((w.alloc (.cells ROW.toArray 158)).drew.setRow w.heap.size R1.toArray) := fun ty dc => by
    rw [hR1]
    have := run_copy_rowK (P := Tryz.prog) 2 (w.alloc (.cells ROW.toArray 158)).drew 45 45 ty 158 w.heap.size (i * 2) (n + 1 - i) dc ⟨F, 0, none⟩ 1 1 ROW.toArray 158 nw Tryz.underlying45 hsz hg1 1 (by simp only [Nat.min_def]; split <;> omega) (by omega)
      (fun j v hj => by
        have h2 := hnews j v hj
        rw [Addr.add_mid] at h2 ⊢
        rw [World.cell?_drew, World.cell?_alloc_lt _ _ _ (by exact hFw)]
        exact h2) (by rw [hnl]; simp [hRl]; omega) hnone
    simpa using this
  have hg2 : (((w.alloc (.cells ROW.toArray 158)).drew.setRow w.heap.size R1.toArray).drew).heap[w.heap.size]? = some (.cells R1.toArray 158 (0, 0)) := setRow_heap _ _ ROW.toArray _ 158 (0, 0) hg1
  obtain ⟨R2, hR2⟩ : ∃ R2 : List Value, R2 = R1.take ((i + 1) * 2) ++ XS.drop (i * 2) ++ R1.drop ((i + 1) * 2 + (XS.drop (i * 2)).length) := ⟨_, rfl⟩
  have hR2l : R2.length = G * 2 := by
    rw [hR2]
    simp only [List.length_append, List.length_take, List.length_drop, hR1l, hXl]
    omega
  have hcpB : ∀ (ty : TypeId) dc sc, (Builtin.copy_ #[45, 45] ty #[.slice (some ⟨w.heap.size, (i + 1) * 2, none⟩) (n + 1 - (i + 1)) dc, .slice (some ⟨g, i * 2, none⟩) (n - i) sc]).run Tryz.prog (((w.alloc (.cells ROW.toArray 158)).drew.setRow w.heap.size R1.toArray).drew) = .ok (goInt (n - i : Nat)) ((((w.alloc (.cells ROW.toArray 158)).drew.setRow w.heap.size R1.toArray).drew).setRow w.heap.size R2.toArray) := fun ty dc sc => by
    rw [hR2]
    have := run_copy_rowK (P := Tryz.prog) 2 (((w.alloc (.cells ROW.toArray 158)).drew.setRow w.heap.size R1.toArray).drew) 45 45 ty 158 w.heap.size ((i + 1) * 2) (n + 1 - (i + 1)) dc ⟨g, i * 2, none⟩ (n - i) sc R1.toArray 158 (XS.drop (i * 2)) Tryz.underlying45 hsz hg2 (n - i) (by simp only [Nat.min_def]; split <;> omega) hdl
      (fun j v hj => by
        rw [Addr.add_mid, World.cell?_drew, World.cell?_of_block (w := (w.alloc (.cells ROW.toArray 158)).drew) (a := ⟨g, i * 2 + j, none⟩) (setRow_other _ _ _ _ (by show g ≠ w.heap.size; omega)), World.cell?_drew, World.cell?_alloc_lt _ _ _ (by exact hgw)]
        exact hcells _ v (by rwa [List.getElem?_drop] at hj)) (by rw [hdl]; simp [hR1l]; omega) (fun v hv => hone v (List.mem_of_mem_drop hv))
    simpa using this
  have hfin : (R2.take ((n + 1) * 2)) = XS.take (i * 2) ++ nw ++ XS.drop (i * 2) := by
    have := row_grow XS nw Z (i * 2) (by rw [hXl]; omega)
    rw [hXl, hnl, ← hROW] at this
    rw [hR2, hR1, hnl, show (n + 1) * 2 = n * 2 + 2 by omega, show (i + 1) * 2 = i * 2 + 2 by omega]
    exact this
  have HF : Hid _ := hfin
  have HG2 : Hid _ := hg2
  have hz2' : ¬ ((i : Int) = (n : Int)) := by omega
  have hz3 : (cap : Int) < (n : Int) + 1 := by omega
  have hGi : ¬ (G = i) := by omega
  have hGim : ¬ (G = i + 1) := by omega
  have hci : ¬ (cap = i) := by omega
  have hw1 : IntKind.i64.wrap ((i : Int) + 1) = (i : Int) + 1 := by rw [IntKind.wrap_i64]; omega
  have hb1 : (0 : Int) ≤ (i : Int) + 1 := by omega
  have hin : i ≤ n := by omega
  have htn : ((i : Int) + 1).toNat = i + 1 := by omega
  have hb3 : (i : Int) ≤ (n : Int) := by omega
  have mixed : Tryz.prog.follows .mixedOrders = true := by kernel_rfl
  have hG63' : G ≤ 9223372036854775807 := by unfold maxLen at hG63; omega
  clear hfin hg1 hg2 hR2 hR1 hROW hZ hZl hzc hold hG hcells hnews hone hnone hdl htl
  go_enter Tryz.func85, Tryz.ntmps85
  go_wp2_with (first
    | (at_builtin; refine Lib.wpList_append_run _ rfl _ _ _ _ rfl _ _ rfl rfl _ _ (hrz _) ?_)
    | (at_builtin; refine wpList_copy_runI _ rfl _ _ 45 45 rfl _ _ rfl rfl (hcpA _ _) ?_))
  go_region_law_o (refine step_copy_runI rfl _ _ 45 45 rfl (.slice (some ⟨w.heap.size, (i + 1) * 2, none⟩) (n + 1 - (i + 1)) (G - (i + 1))) (.slice (some ⟨g, i * 2, none⟩) (n - i) (cap - i)) (by simp [Act.eval, Act.put]) (by simp [Act.eval, Act.put]) (hcpB 3 (G - (i + 1)) (cap - i)) ?_)
  go_wp2
  go_ret
  refine ⟨w.heap.size, G, by rw [HL.out]; rfl, ?_, ?_, .inr (Nat.le_refl _)⟩
  · unfold RowT
    rw [HL.out, HI.out]
    refine ⟨by rw [← HF.out, List.length_take, hR2l]; omega, .inr ⟨w.heap.size, G, R2.toArray, rfl, Nat.zero_le _, setRow_heap _ _ R1.toArray _ 158 (0, 0) HG2.out, by omega, hG63, by simp [hR2l], ?_⟩⟩
    rw [List.toList_toArray]
    exact HF.out
  · refine ⟨rfl, rfl, rfl, by simp, fun k hk hne => ?_⟩
    have hkg : k ≠ w.heap.size := by omega
    rw [setRow_other _ _ _ _ hkg]
    show ((w.alloc (.cells ROW.toArray 158)).drew.setRow w.heap.size R1.toArray).heap[k]? = _
    rw [setRow_other _ _ _ _ hkg]
    exact Below.heap_alloc _ _ _ hk

/-- Insert, at any place -/
theorem InsertT_any (v : Value) (es : List TV) (x : TV) (i F : Nat) (w : World) (h : RowT w v es) (hi : i ≤ es.length) (hl : es.length ≤ 1000) (hF : w.heap[F]? = some (.cells x.cells.toArray 158 (0, 0))) (hvF : v.ownBlock ≠ some F) :
    Calls Tryz.prog 85 #[v, .int .i64 (i : Nat), .slice (some ⟨F, 0, none⟩) 1 1] w fun e w' => InsT w v (es.take i ++ x :: es.drop i) e w' := by
  by_cases hie : i = es.length
  · subst hie
    have e : es.take es.length ++ x :: es.drop es.length = es ++ [x] := by simp
    rw [e]
    exact InsertT_end v es x F w h hl hF
  · rcases h.2 with ⟨_, h0⟩ | ⟨g, cap, cur, rfl, _⟩
    · omega
    · by_cases hr : es.length + 1 ≤ cap
      · exact InsertT_shift g cap es x i F w h (by omega) hr hF (fun e => hvF (by rw [e]; rfl))
      · exact InsertT_grow g cap es x i F w h (by omega) hl (by omega) hF
end Go.Proofs.YtlgodpadcilcaaaGreatDoor
namespace Go.Proofs.YtlgodpadcilcaaaGreatDoor
open Go.ChangeShapes Go.WideShapes Go.ChangeAt Go.RowKit

set_option maxHeartbeats 4000000 in
set_option maxRecDepth 100000 in
theorem InsertR_grow (g cap : Nat) (es : List RV) (x : RV) (i F : Nat) (w : World) (h : RowR w (.slice (some ⟨g, 0, none⟩) es.length cap) es) (hi : i < es.length) (hl : es.length ≤ 1000) (hroom : cap < es.length + 1)
    (hF : w.heap[F]? = some (.cells x.cells.toArray 146 (0, 0))) :
    Calls Tryz.prog 71 #[.slice (some ⟨g, 0, none⟩) es.length cap, .int .i64 (i : Nat), .slice (some ⟨F, 0, none⟩) 1 1] w fun e w' => InsR w (.slice (some ⟨g, 0, none⟩) es.length cap) (es.take i ++ x :: es.drop i) e w' := by
  obtain ⟨i0, hi0, hz0, hz1, hz2⟩ := info_parts infoR
  have hsz : (Tryz.prog.info? 146).map (·.size) = some 8 := by rw [hi0]; simp [hz1]
  have hnc : es.length ≤ cap := by
    rcases h.2 with ⟨e, _⟩ | ⟨g', cap', cur, e, _, _, h2, _⟩
    · cases e
    · cases e; exact h2
  have hgw : g < w.heap.size := (h.lt g rfl).2
  have hFw : F < w.heap.size := (Array.getElem?_eq_some_iff.1 hF).1
  have hXl : (es.map RV.cells).flatten.length = es.length * 8 := h.1
  have hone := one_flatR es
  have hnone := x.one
  have hnl : x.cells.length = 8 := x.len
  have HI : Hid (((es.take i ++ x :: es.drop i).map RV.cells).flatten = (es.map RV.cells).flatten.take (i * 8) ++ x.cells ++ (es.map RV.cells).flatten.drop (i * 8)) := flat_insR es x i
  have HL : Hid ((es.take i ++ x :: es.drop i).length = es.length + 1) := by show _ = _; simp; omega
  have hnews := World.news_of_block (cs := x.cells.toArray) (t := 146) (fr := (0, 0)) hF
  have hcells : ∀ j v, (es.map RV.cells).flatten[j]? = some v → w.cell? ⟨g, j, none⟩ = some v := fun j v hj => by
    rw [h.cellAt j (by rw [← hXl]; exact (List.getElem?_eq_some_iff.1 hj).1)]; exact hj
  generalize hn : es.length = n at *
  have HNn : Hid (es.length = n) := hn
  clear hn hF
  generalize (es.map RV.cells).flatten = XS at *
  generalize x.cells = nw at *
  have hdl : (XS.drop (i * 8)).length = (n - i) * 8 := by rw [List.length_drop, hXl]; omega
  have htl : (XS.take (i * 8)).length = i * 8 := by rw [List.length_take, hXl]; omega
  have hold : (Builtin.firstCells i0.size i (.slice (some ⟨g, 0, none⟩) i cap)).run Tryz.prog w.drew = .ok (XS.take (i * 8)).toArray w.drew := by
    rw [hz1]
    exact run_firstCells_some w.drew 8 i ⟨g, 0, none⟩ i cap (XS.take (i * 8)) (by rw [htl]) (fun j v hj => by
      rw [Addr.add_mid, Nat.zero_add]
      rw [List.getElem?_take] at hj
      split at hj
      · exact hcells j v hj
      · cases hj)
  obtain ⟨G, hG⟩ : ∃ G, G = grownCap w (n + 1) cap 146 := ⟨_, rfl⟩
  have hGn : n + 1 ≤ G := by rw [hG]; exact grownCap_ge w _ _ _
  have hG63 : G ≤ maxLen := by rw [hG]; exact grownCap_le_maxLen w (n + 1) cap 146 (by unfold maxLen; omega)
  obtain ⟨Z, hZ⟩ : ∃ Z : List Value, Z = (Builtin.zeroCells (Value.agg #[.string ⟨#[]⟩, .bool false, .int .i64 0, .string ⟨#[]⟩, .string ⟨#[]⟩, .slice none 0 0, .int .i64 0, .int .i64 0]).cells (n + 1 - i)).toList ++ (Builtin.zeroCells (Value.agg #[.string ⟨#[]⟩, .bool false, .int .i64 0, .string ⟨#[]⟩, .string ⟨#[]⟩, .slice none 0 0, .int .i64 0, .int .i64 0]).cells (G - (n + 1))).toList := ⟨_, rfl⟩
  have hzc : ∀ k, (Builtin.zeroCells (Value.agg #[.string ⟨#[]⟩, .bool false, .int .i64 0, .string ⟨#[]⟩, .string ⟨#[]⟩, .slice none 0 0, .int .i64 0, .int .i64 0]).cells k).size = k * 8 := fun k => by
    simp [Builtin.zeroCells, Value.cells]
  have hZl : Z.length = (G - i) * 8 := by
    rw [hZ, List.length_append, Array.length_toList, Array.length_toList, hzc, hzc]; omega
  obtain ⟨ROW, hROW⟩ : ∃ ROW : List Value, ROW = XS.take (i * 8) ++ Z := ⟨_, rfl⟩
  have hRl : ROW.length = G * 8 := by rw [hROW, List.length_append, htl, hZl]; omega
  have hrz : ∀ ty, (Builtin.append_ #[130, 3] ty #[.slice (some ⟨g, 0, none⟩) i cap, .int .i64 ((n : Int) + 1 - (i : Int))]).run Tryz.prog w =
      .ok (.slice (some ⟨w.heap.size, 0, none⟩) (n + 1) G) (w.alloc (.cells ROW.toArray 146)).drew := fun ty => by
    have h := Lib.run_append_grow_zeros (P := Tryz.prog) w 130 3 ty 146 i0 _ .i64 .i64 Tryz.underlying130 Tryz.underlying3 hi0 hz0 (some ⟨g, 0, none⟩) i cap (XS.take (i * 8)) hold (n + 1 - i) (by omega) (by omega) (by omega) (by omega) (by rw [hz2]; omega) (by rw [hz2, show i + (n + 1 - i) = n + 1 by omega]; exact growslice_fits hroom (by omega))
    rw [show i + (n + 1 - i) = n + 1 by omega, ← hG] at h
    rw [show (n : Int) + 1 - (i : Int) = ((n + 1 - i : Nat) : Int) by omega, h]
    have e : (XS.take (i * 8)).toArray ++ Builtin.zeroCells (Value.agg #[.string ⟨#[]⟩, .bool false, .int .i64 0, .string ⟨#[]⟩, .string ⟨#[]⟩, .slice none 0 0, .int .i64 0, .int .i64 0]).cells (n + 1 - i) ++ Builtin.zeroCells (Value.agg #[.string ⟨#[]⟩, .bool false, .int .i64 0, .string ⟨#[]⟩, .string ⟨#[]⟩, .slice none 0 0, .int .i64 0, .int .i64 0]).cells (G - (n + 1)) = ROW.toArray := by
      apply Array.toList_inj.1
      rw [Array.toList_append, Array.toList_append, hROW, hZ]
      simp
    rw [e]
    rfl
  have hg1 : (w.alloc (.cells ROW.toArray 146)).drew.heap[w.heap.size]? = some (.cells ROW.toArray 146 (0, 0)) := heap_alloc_new w _
  obtain ⟨R1, hR1⟩ : ∃ R1 : List Value, R1 = ROW.take (i * 8) ++ nw ++ ROW.drop (i * 8 + nw.length) := ⟨_, rfl⟩
  have hR1l : R1.length = G * 8 := by
    rw [hR1]
    simp only [List.length_append, List.length_take, List.length_drop, hRl, hnl]
    omega
  have hcpA : ∀ (ty : TypeId) dc, (Builtin.copy_ #[130, 130] ty #[.slice (some ⟨w.heap.size, i * 8, none⟩) (n + 1 - i) dc, .slice (some ⟨F, 0, none⟩) 1 1]).run Tryz.prog (w.alloc (.cells ROW.toArray 146)).drew = .ok (goInt (1 : Nat)) ((w.alloc (.cells ROW.toArray 146)).drew.setRow w.heap.size R1.toArray) := fun ty dc => by
    rw [hR1]
    have := run_copy_rowK (P := Tryz.prog) 8 (w.alloc (.cells ROW.toArray 146)).drew 130 130 ty 146 w.heap.size (i * 8) (n + 1 - i) dc ⟨F, 0, none⟩ 1 1 ROW.toArray 146 nw Tryz.underlying130 hsz hg1 1 (by simp only [Nat.min_def]; split <;> omega) (by omega)
      (fun j v hj => by
        have h2 := hnews j v hj
        rw [Addr.add_mid] at h2 ⊢
        rw [World.cell?_drew, World.cell?_alloc_lt _ _ _ (by exact hFw)]
        exact h2) (by rw [hnl]; simp [hRl]; omega) hnone
    simpa using this
  have hg2 : (((w.alloc (.cells ROW.toArray 146)).drew.setRow w.heap.size R1.toArray).drew).heap[w.heap.size]? = some (.cells R1.toArray 146 (0, 0)) := setRow_heap _ _ ROW.toArray _ 146 (0, 0) hg1
  obtain ⟨R2, hR2⟩ : ∃ R2 : List Value, R2 = R1.take ((i + 1) * 8) ++ XS.drop (i * 8) ++ R1.drop ((i + 1) * 8 + (XS.drop (i * 8)).length) := ⟨_, rfl⟩
  have hR2l : R2.length = G * 8 := by
    rw [hR2]
    simp only [List.length_append, List.length_take, List.length_drop, hR1l, hXl]
    omega
  have hcpB : ∀ (ty : TypeId) dc sc, (Builtin.copy_ #[130, 130] ty #[.slice (some ⟨w.heap.size, (i + 1) * 8, none⟩) (n + 1 - (i + 1)) dc, .slice (some ⟨g, i * 8, none⟩) (n - i) sc]).run Tryz.prog (((w.alloc (.cells ROW.toArray 146)).drew.setRow w.heap.size R1.toArray).drew) = .ok (goInt (n - i : Nat)) ((((w.alloc (.cells ROW.toArray 146)).drew.setRow w.heap.size R1.toArray).drew).setRow w.heap.size R2.toArray) := fun ty dc sc => by
    rw [hR2]
    have := run_copy_rowK (P := Tryz.prog) 8 (((w.alloc (.cells ROW.toArray 146)).drew.setRow w.heap.size R1.toArray).drew) 130 130 ty 146 w.heap.size ((i + 1) * 8) (n + 1 - (i + 1)) dc ⟨g, i * 8, none⟩ (n - i) sc R1.toArray 146 (XS.drop (i * 8)) Tryz.underlying130 hsz hg2 (n - i) (by simp only [Nat.min_def]; split <;> omega) hdl
      (fun j v hj => by
        rw [Addr.add_mid, World.cell?_drew, World.cell?_of_block (w := (w.alloc (.cells ROW.toArray 146)).drew) (a := ⟨g, i * 8 + j, none⟩) (setRow_other _ _ _ _ (by show g ≠ w.heap.size; omega)), World.cell?_drew, World.cell?_alloc_lt _ _ _ (by exact hgw)]
        exact hcells _ v (by rwa [List.getElem?_drop] at hj)) (by rw [hdl]; simp [hR1l]; omega) (fun v hv => hone v (List.mem_of_mem_drop hv))
    simpa using this
  have hfin : (R2.take ((n + 1) * 8)) = XS.take (i * 8) ++ nw ++ XS.drop (i * 8) := by
    have := row_grow XS nw Z (i * 8) (by rw [hXl]; omega)
    rw [hXl, hnl, ← hROW] at this
    rw [hR2, hR1, hnl, show (n + 1) * 8 = n * 8 + 8 by omega, show (i + 1) * 8 = i * 8 + 8 by omega]
    exact this
  have HF : Hid _ := hfin
  have HG2 : Hid _ := hg2
  have hz2' : ¬ ((i : Int) = (n : Int)) := by omega
  have hz3 : (cap : Int) < (n : Int) + 1 := by omega
  have hGi : ¬ (G = i) := by omega
  have hGim : ¬ (G = i + 1) := by omega
  have hci : ¬ (cap = i) := by omega
  have hw1 : IntKind.i64.wrap ((i : Int) + 1) = (i : Int) + 1 := by rw [IntKind.wrap_i64]; omega
  have hb1 : (0 : Int) ≤ (i : Int) + 1 := by omega
  have hin : i ≤ n := by omega
  have htn : ((i : Int) + 1).toNat = i + 1 := by omega
  have hb3 : (i : Int) ≤ (n : Int) := by omega
  have mixed : Tryz.prog.follows .mixedOrders = true := by kernel_rfl
  have hG63' : G ≤ 9223372036854775807 := by unfold maxLen at hG63; omega
  clear hfin hg1 hg2 hR2 hR1 hROW hZ hZl hzc hold hG hcells hnews hone hnone hdl htl
  go_enter Tryz.func71, Tryz.ntmps71
  go_wp2_with (first
    | (at_builtin; refine Lib.wpList_append_run _ rfl _ _ _ _ rfl _ _ rfl rfl _ _ (hrz _) ?_)
    | (at_builtin; refine wpList_copy_runI _ rfl _ _ 130 130 rfl _ _ rfl rfl (hcpA _ _) ?_))
  go_region_law_o (refine step_copy_runI rfl _ _ 130 130 rfl (.slice (some ⟨w.heap.size, (i + 1) * 8, none⟩) (n + 1 - (i + 1)) (G - (i + 1))) (.slice (some ⟨g, i * 8, none⟩) (n - i) (cap - i)) (by simp [Act.eval, Act.put]) (by simp [Act.eval, Act.put]) (hcpB 3 (G - (i + 1)) (cap - i)) ?_)
  go_wp2
  go_ret
  refine ⟨w.heap.size, G, by rw [HL.out]; rfl, ?_, ?_, .inr (Nat.le_refl _)⟩
  · unfold RowR
    rw [HL.out, HI.out]
    refine ⟨by rw [← HF.out, List.length_take, hR2l]; omega, .inr ⟨w.heap.size, G, R2.toArray, rfl, Nat.zero_le _, setRow_heap _ _ R1.toArray _ 146 (0, 0) HG2.out, by omega, hG63, by simp [hR2l], ?_⟩⟩
    rw [List.toList_toArray]
    exact HF.out
  · refine ⟨rfl, rfl, rfl, by simp, fun k hk hne => ?_⟩
    have hkg : k ≠ w.heap.size := by omega
    rw [setRow_other _ _ _ _ hkg]
    show ((w.alloc (.cells ROW.toArray 146)).drew.setRow w.heap.size R1.toArray).heap[k]? = _
    rw [setRow_other _ _ _ _ hkg]
    exact Below.heap_alloc _ _ _ hk

/-- Insert, at any place -/
theorem InsertR_any (v : Value) (es : List RV) (x : RV) (i F : Nat) (w : World) (h : RowR w v es) (hi : i ≤ es.length) (hl : es.length ≤ 1000) (hF : w.heap[F]? = some (.cells x.cells.toArray 146 (0, 0))) (hvF : v.ownBlock ≠ some F) :
    Calls Tryz.prog 71 #[v, .int .i64 (i : Nat), .slice (some ⟨F, 0, none⟩) 1 1] w fun e w' => InsR w v (es.take i ++ x :: es.drop i) e w' := by
  by_cases hie : i = es.length
  · subst hie
    have e : es.take es.length ++ x :: es.drop es.length = es ++ [x] := by simp
    rw [e]
    exact InsertR_end v es x F w h hl hF
  · rcases h.2 with ⟨_, h0⟩ | ⟨g, cap, cur, rfl, _⟩
    · omega
    · by_cases hr : es.length + 1 ≤ cap
      · exact InsertR_shift g cap es x i F w h (by omega) hr hF (fun e => hvF (by rw [e]; rfl))
      · exact InsertR_grow g cap es x i F w h (by omega) hl (by omega) hF
end Go.Proofs.YtlgodpadcilcaaaGreatDoor
namespace Go.Proofs.YtlgodpadcilcaaaGreatDoor
open Go.ChangeShapes Go.WideShapes Go.ChangeAt Go.RowKit

/-- all blocks that were there, but L and rb, are as they were -/
structure But2 (L : Nat) (rb : Option Nat) (w w' : World) : Prop where
  os : w'.os = w.os
  tape : w'.tape = w.tape
  output : w'.output = w.output
  size : w.heap.size ≤ w'.heap.size
  block : ∀ k, k < w.heap.size → k ≠ L → rb ≠ some k → w'.heap[k]? = w.heap[k]?
theorem rising_ins {ks : List (List UInt8)} {s : List UInt8} {p : Nat} (h : Rising ks) (hp : Place ks s p) (hn : s ∉ ks) : Rising (ks.take p ++ s :: ks.drop p) := by
  have hlow : ∀ a ∈ ks.take p, Op.bytesLess a s = true := fun a ha => by
    obtain ⟨t, ht, rfl⟩ := List.getElem_of_mem ha
    rw [List.length_take] at ht
    rw [List.getElem_take]
    exact hp.lo t (by omega) (by omega)
  have hhigh : ∀ a ∈ ks.drop p, Op.bytesLess s a = true := fun a ha => by
    obtain ⟨t, ht, rfl⟩ := List.getElem_of_mem ha
    rw [List.length_drop] at ht
    rw [List.getElem_drop]
    refine less_total _ _ (hp.hi (p + t) (by omega) (by omega)) (fun e => hn (by rw [← e]; exact List.getElem_mem _))
  unfold Rising at *
  rw [List.pairwise_append]
  refine ⟨h.sublist (List.take_sublist _ _), List.pairwise_cons.2 ⟨hhigh, h.sublist (List.drop_sublist _ _)⟩, fun a ha b hb => ?_⟩
  rcases List.mem_cons.1 hb with rfl | hb
  · exact hlow a ha
  · exact less_trans _ _ _ (hlow a ha) (hhigh b hb)

/-- the list in block L, its row in block rb -/
structure OwnT (w : World) (L : Nat) (rb : Option Nat) (es : List TV) : Prop where
  row : ∃ v, w.cell? ⟨L, 0, none⟩ = some v ∧ RowT w v es ∧ v.ownBlock = rb
  ne : rb ≠ some L
  fr : w.frozen? ⟨L, 0, none⟩ = false
  up : Rising (es.map (·.key))
  few : es.length ≤ 1000
theorem OwnT.list {w : World} {L : Nat} {rb : Option Nat} {es : List TV} (h : OwnT w L rb es) : ListT w L es := by
  obtain ⟨v, h1, h2, h3⟩ := h.row
  exact ⟨⟨v, h1, h2, by rw [h3]; exact h.ne⟩, h.fr, h.up, by have := h.few; omega⟩
theorem OwnT.lt {w : World} {L : Nat} {rb : Option Nat} {es : List TV} (h : OwnT w L rb es) : L < w.heap.size ∧ ∀ k, rb = some k → k < w.heap.size := by
  obtain ⟨v, h1, h2, h3⟩ := h.row
  exact ⟨World.block_lt_of_cell? w ⟨L, 0, none⟩ h1, fun k hk => (h2.lt k (by rw [h3]; exact hk)).2⟩
/-- what is none of its blocks may change -/
theorem OwnT.keep {w w' : World} {L : Nat} {rb : Option Nat} {es : List TV} (h : OwnT w L rb es) (hL : w'.heap[L]? = w.heap[L]?) (hrb : ∀ k, rb = some k → w'.heap[k]? = w.heap[k]?) : OwnT w' L rb es := by
  obtain ⟨v, h1, h2, h3⟩ := h.row
  refine ⟨⟨v, ?_, ?_, h3⟩, h.ne, ?_, h.up, h.few⟩
  · rw [World.cell?_of_block (w := w) (a := ⟨L, 0, none⟩) hL]; exact h1
  · refine ⟨h2.1, ?_⟩
    rcases h2.2 with h0 | ⟨g, cap, cur, rfl, h4, h5, h6⟩
    · exact .inl h0
    · exact .inr ⟨g, cap, cur, rfl, h4, by rw [hrb g (by rw [← h3]; rfl)]; exact h5, h6⟩
  · rw [World.frozen?_of_block (w := w) (a := ⟨L, 0, none⟩) hL]; exact h.fr

def PutTAns (w w' : World) (L : Nat) (rb : Option Nat) (es : List TV) (x : TV) : Prop :=
  ∃ p rb', Place (es.map (·.key)) x.key p ∧ OwnT w' L rb' (es.take p ++ x :: es.drop p) ∧ (rb' = rb ∨ ∃ g, rb' = some g ∧ w.heap.size ≤ g) ∧ But2 L rb w w'

set_option maxHeartbeats 4000000 in
set_option maxRecDepth 100000 in
theorem PutT_new (L : Nat) (rb : Option Nat) (es : List TV) (x : TV) (w : World) (h : OwnT w L rb es) (hn : x.key ∉ es.map (·.key)) (hl : es.length < 1000) :
    Calls Tryz.prog 58 #[.pointer (some ⟨L, 0, none⟩), strV x.key, .pointer (some ⟨x.blk, 0, none⟩)] w fun e w' => (∃ v, e = .returned v) ∧ PutTAns w w' L rb es x := by
  obtain ⟨v, hv, hrow, hvb⟩ := h.row
  have hlt := h.lt
  have hF := findT_any L es ⟨x.key.toArray⟩ w h.list
  have ek : (⟨x.key.toArray⟩ : ByteArray).data.toList = x.key := rfl
  rw [ek] at hF
  have hd : decide (x.key ∈ es.map (·.key)) = false := decide_eq_false hn
  unfold FoundAns at hF
  rw [hd] at hF
  unfold strV
  go_enter Tryz.func58, Tryz.ntmps58
  go_wp2_with fail
  refine hF.mono ?_
  clear hF
  rintro e w1 ⟨⟨p, hp, rfl⟩, hb1⟩
  have hv1 : w1.cell? ⟨L, 0, none⟩ = some v := by rw [hb1.cell (p := ⟨L, 0, none⟩) hlt.1]; exact hv
  have hf1 : w1.frozen? ⟨L, 0, none⟩ = false := by rw [hb1.frozen (p := ⟨L, 0, none⟩) hlt.1]; exact h.fr
  have hrow1 : RowT w1 v es := hrow.below hb1
  have hpl : p ≤ es.length := by have := hp.le; simpa using this
  obtain ⟨a0, l0, c0, rfl⟩ : ∃ p l c, v = .slice p l c := by
    rcases hrow.2 with ⟨rfl, _⟩ | ⟨g, cap, cur, rfl, _⟩
    · exact ⟨_, _, _, rfl⟩
    · exact ⟨_, _, _, rfl⟩
  have hsL : L < w1.heap.size := by have := hb1.size; omega
  have hI := InsertT_any (.slice a0 l0 c0) es x p w1.heap.size (w1.alloc (.cells x.cells.toArray 158)) (hrow1.below ((Below.refl _ _).alloc (Nat.le_refl _) _)) hpl (by omega) (heap_alloc_new _ _) (fun e => by have := (hrow1.lt _ e).2; omega)
  have eC : x.cells.toArray = #[.string ⟨x.key.toArray⟩, .pointer (some ⟨x.blk, 0, none⟩)] := rfl
  rw [eC] at hI
  have HP : Hid _ := hp
  clear hp hrow hv
  go_wp2_with fail
  refine hI.mono ?_
  clear hI
  rintro e w3 ⟨g, cap, rfl, hr3, hg3, hat3⟩
  have hne3 : (Value.slice a0 l0 c0).ownBlock ≠ some L := by rw [hvb]; exact h.ne
  have hL3 : w3.heap[L]? = w1.heap[L]? := (hg3.block L (by simp; omega) (fun e => hne3 e.symm)).trans (Below.heap_alloc _ _ _ hsL)
  have hv3 : w3.cell? ⟨L, 0, none⟩ = some (.slice a0 l0 c0) := by rw [World.cell?_of_block (w := w1) (a := ⟨L, 0, none⟩) hL3]; exact hv1
  have hf3 : w3.frozen? ⟨L, 0, none⟩ = false := by rw [World.frozen?_of_block (w := w1) (a := ⟨L, 0, none⟩) hL3]; exact hf1
  have hgL : g ≠ L := by
    rcases hat3 with e | e
    · intro e2; rw [e2] at e; exact hne3 e
    · simp at e; omega
  have hs3 := hg3.size
  simp at hs3
  generalize hlen : (es.take p ++ x :: es.drop p).length = n3 at *
  have HLN : Hid ((es.take p ++ x :: es.drop p).length = n3) := hlen
  clear hlen
  go_wp2
  go_end0
  refine ⟨⟨_, rfl⟩, p, some g, HP.out, ⟨⟨_, World.cell?_setCell_same' _ _ _ (by rw [hv3]; rfl), ?_, rfl⟩, fun e => hgL (by cases e; rfl), by rw [World.frozen?_setCell]; exact hf3, ?_, by rw [HLN.out]; have := HLN.out; simp at this; omega⟩, ?_, ?_⟩
  · rw [← HLN.out] at hr3 ⊢
    exact World.ownsRow.kept hr3 (setCell_grown w3 L 0 _) (.inr (fun e => hgL (by cases e; rfl)))
  · rw [List.map_append, List.map_cons, List.map_take, List.map_drop]
    exact rising_ins h.up HP.out hn
  · rcases hat3 with e | e
    · left; rw [← hvb, e]
    · right; exact ⟨g, rfl, by have := hb1.size; simp at e; omega⟩
  · refine ⟨by rw [show (w3.setCell ⟨L, 0, none⟩ _).os = w3.os from rfl, hg3.os]; exact hb1.os, by rw [show (w3.setCell ⟨L, 0, none⟩ _).tape = w3.tape from rfl, hg3.tape]; exact hb1.tape, by rw [show (w3.setCell ⟨L, 0, none⟩ _).output = w3.output from rfl, hg3.output]; exact hb1.output, by have := hb1.size; simp; omega, fun k hk hkL hkr => ?_⟩
    have hk1 : k < w1.heap.size := by have := hb1.size; omega
    rw [Below.heap_setCell _ _ _ _ hkL, hg3.block k (by simp; omega) (by rw [hvb]; exact fun e => hkr e.symm), Below.heap_alloc _ _ _ hk1]
    exact hb1.block k hk
end Go.Proofs.YtlgodpadcilcaaaGreatDoor
namespace Go.Proofs.YtlgodpadcilcaaaGreatDoor
open Go.ChangeShapes Go.WideShapes Go.ChangeAt Go.RowKit

/-- the list in block L, its row in block rb -/
structure OwnR (w : World) (L : Nat) (rb : Option Nat) (es : List RV) : Prop where
  row : ∃ v, w.cell? ⟨L, 0, none⟩ = some v ∧ RowR w v es ∧ v.ownBlock = rb
  ne : rb ≠ some L
  fr : w.frozen? ⟨L, 0, none⟩ = false
  up : Rising (es.map (·.key))
  few : es.length ≤ 1000
theorem OwnR.list {w : World} {L : Nat} {rb : Option Nat} {es : List RV} (h : OwnR w L rb es) : ListR w L es := by
  obtain ⟨v, h1, h2, h3⟩ := h.row
  exact ⟨⟨v, h1, h2, by rw [h3]; exact h.ne⟩, h.fr, h.up, by have := h.few; omega⟩
theorem OwnR.lt {w : World} {L : Nat} {rb : Option Nat} {es : List RV} (h : OwnR w L rb es) : L < w.heap.size ∧ ∀ k, rb = some k → k < w.heap.size := by
  obtain ⟨v, h1, h2, h3⟩ := h.row
  exact ⟨World.block_lt_of_cell? w ⟨L, 0, none⟩ h1, fun k hk => (h2.lt k (by rw [h3]; exact hk)).2⟩
/-- what is none of its blocks may change -/
theorem OwnR.keep {w w' : World} {L : Nat} {rb : Option Nat} {es : List RV} (h : OwnR w L rb es) (hL : w'.heap[L]? = w.heap[L]?) (hrb : ∀ k, rb = some k → w'.heap[k]? = w.heap[k]?) : OwnR w' L rb es := by
  obtain ⟨v, h1, h2, h3⟩ := h.row
  refine ⟨⟨v, ?_, ?_, h3⟩, h.ne, ?_, h.up, h.few⟩
  · rw [World.cell?_of_block (w := w) (a := ⟨L, 0, none⟩) hL]; exact h1
  · refine ⟨h2.1, ?_⟩
    rcases h2.2 with h0 | ⟨g, cap, cur, rfl, h4, h5, h6⟩
    · exact .inl h0
    · exact .inr ⟨g, cap, cur, rfl, h4, by rw [hrb g (by rw [← h3]; rfl)]; exact h5, h6⟩
  · rw [World.frozen?_of_block (w := w) (a := ⟨L, 0, none⟩) hL]; exact h.fr

def PutRAns (w w' : World) (L : Nat) (rb : Option Nat) (es : List RV) (x : RV) : Prop :=
  ∃ p rb', Place (es.map (·.key)) x.key p ∧ OwnR w' L rb' (es.take p ++ x :: es.drop p) ∧ (rb' = rb ∨ ∃ g, rb' = some g ∧ w.heap.size ≤ g) ∧ But2 L rb w w'

set_option maxHeartbeats 4000000 in
set_option maxRecDepth 100000 in
theorem PutR_new (L : Nat) (rb : Option Nat) (es : List RV) (x : RV) (w : World) (h : OwnR w L rb es) (hn : x.key ∉ es.map (·.key)) (hl : es.length < 1000) :
    Calls Tryz.prog 43 #[.pointer (some ⟨L, 0, none⟩), strV x.key, .agg #[.bool x.set, .int .i64 x.k, .string x.b, .string x.c, .slice x.p x.l x.cp, .int .i64 x.rank, .int .i64 x.line]] w fun e w' => (∃ v, e = .returned v) ∧ PutRAns w w' L rb es x := by
  obtain ⟨key, set, k, b, c, pp, l, cp, rank, line⟩ := x
  have hal0 : Below w.heap.size w (w.alloc (.cells #[.bool set, .int .i64 k, .string b, .string c, .slice pp l cp, .int .i64 rank, .int .i64 line] 90)) := (Below.refl _ _).alloc (Nat.le_refl _) _
  have hlt := h.lt
  have h0 : OwnR (w.alloc (.cells #[.bool set, .int .i64 k, .string b, .string c, .slice pp l cp, .int .i64 rank, .int .i64 line] 90)) L rb es := h.keep (hal0.block L hlt.1) (fun q hq => hal0.block q (hlt.2 q hq))
  have hV0 : (w.alloc (.cells #[.bool set, .int .i64 k, .string b, .string c, .slice pp l cp, .int .i64 rank, .int .i64 line] 90)).rangeAt w.heap.size 0 [.bool set, .int .i64 k, .string b, .string c, .slice pp l cp, .int .i64 rank, .int .i64 line] := range_new _ _ _
  have hs0 : (w.alloc (.cells #[.bool set, .int .i64 k, .string b, .string c, .slice pp l cp, .int .i64 rank, .int .i64 line] 90)).heap.size = w.heap.size + 1 := by simp
  have hF := findR_any L es ⟨key.toArray⟩ _ h0.list
  have ek : (⟨key.toArray⟩ : ByteArray).data.toList = key := rfl
  rw [ek] at hF
  have hd : decide (key ∈ es.map (·.key)) = false := decide_eq_false hn
  unfold FoundAns at hF
  rw [hd] at hF
  obtain ⟨v, hv, hrow, hvb⟩ := h0.row
  have hlt0 := h0.lt
  unfold strV
  go_enter Tryz.func43, Tryz.ntmps43
  go_wp2_with fail
  refine hF.mono ?_
  clear hF
  rintro e w1 ⟨⟨p, hp, rfl⟩, hb1⟩
  generalize w.alloc (.cells #[.bool set, .int .i64 k, .string b, .string c, .slice pp l cp, .int .i64 rank, .int .i64 line] 90) = w0 at *
  have hb1s := hb1.size
  have hv1 : w1.cell? ⟨L, 0, none⟩ = some v := by rw [hb1.cell (p := ⟨L, 0, none⟩) hlt0.1]; exact hv
  have hf1 : w1.frozen? ⟨L, 0, none⟩ = false := by rw [hb1.frozen (p := ⟨L, 0, none⟩) hlt0.1]; exact h0.fr
  have hrow1 : RowR w1 v es := hrow.below hb1
  have hV1 := range_below hV0 hb1 (by omega)
  have v0 : w1.cell? ⟨w.heap.size, 0, none⟩ = some (.bool set) := hV1 0 _ rfl
  have v1 : w1.cell? ⟨w.heap.size, 1, none⟩ = some (.int .i64 k) := hV1 1 _ rfl
  have v2 : w1.cell? ⟨w.heap.size, 2, none⟩ = some (.string b) := hV1 2 _ rfl
  have v3 : w1.cell? ⟨w.heap.size, 3, none⟩ = some (.string c) := hV1 3 _ rfl
  have v4 : w1.cell? ⟨w.heap.size, 4, none⟩ = some (.slice pp l cp) := hV1 4 _ rfl
  have v5 : w1.cell? ⟨w.heap.size, 5, none⟩ = some (.int .i64 rank) := hV1 5 _ rfl
  have v6 : w1.cell? ⟨w.heap.size, 6, none⟩ = some (.int .i64 line) := hV1 6 _ rfl
  have hpl : p ≤ es.length := by have := hp.le; simpa using this
  obtain ⟨a0, l0, c0, rfl⟩ : ∃ p l c, v = .slice p l c := by
    rcases hrow.2 with ⟨rfl, _⟩ | ⟨g, cap, cur, rfl, _⟩
    · exact ⟨_, _, _, rfl⟩
    · exact ⟨_, _, _, rfl⟩
  have hsL : L < w1.heap.size := by omega
  have hI := InsertR_any (.slice a0 l0 c0) es ⟨key, set, k, b, c, pp, l, cp, rank, line⟩ p w1.heap.size (w1.alloc (.cells (RV.mk key set k b c pp l cp rank line).cells.toArray 146)).drew (hrow1.below (((Below.refl _ _).alloc (Nat.le_refl _) _).drew)) hpl (by omega) (heap_alloc_new _ _) (fun e => by have := (hrow1.lt _ e).2; omega)
  have eC : (RV.mk key set k b c pp l cp rank line).cells.toArray = #[.string ⟨key.toArray⟩, .bool set, .int .i64 k, .string b, .string c, .slice pp l cp, .int .i64 rank, .int .i64 line] := rfl
  rw [eC] at hI
  have HP : Hid _ := hp
  clear hp hrow hv hV0 hV1
  have hne3 : (Value.slice a0 l0 c0).ownBlock ≠ some L := by rw [hvb]; exact h.ne
  have HI : Hid (∀ w3 g, (w1.alloc (.cells #[.string ⟨key.toArray⟩, .bool set, .int .i64 k, .string b, .string c, .slice pp l cp, .int .i64 rank, .int .i64 line] 146)).drew.grownBy w3 (Value.slice a0 l0 c0).ownBlock → ((Value.slice a0 l0 c0).ownBlock = some g ∨ (w1.alloc (.cells #[.string ⟨key.toArray⟩, .bool set, .int .i64 k, .string b, .string c, .slice pp l cp, .int .i64 rank, .int .i64 line] 146)).drew.heap.size ≤ g) →
      w3.cell? ⟨L, 0, none⟩ = some (.slice a0 l0 c0) ∧ w3.frozen? ⟨L, 0, none⟩ = false ∧ g ≠ L ∧ w1.heap.size + 1 ≤ w3.heap.size) := by
    intro w3 g hg3 hat3
    have hL3 : w3.heap[L]? = w1.heap[L]? := (hg3.block L (by simp; omega) (fun e => hne3 e.symm)).trans (Below.heap_alloc _ _ _ hsL)
    refine ⟨by rw [World.cell?_of_block (w := w1) (a := ⟨L, 0, none⟩) hL3]; exact hv1, by rw [World.frozen?_of_block (w := w1) (a := ⟨L, 0, none⟩) hL3]; exact hf1, ?_, by have := hg3.size; simpa using this⟩
    rcases hat3 with e | e
    · intro e2; rw [e2] at e; exact hne3 e
    · simp at e; omega
  generalize hlen : (es.take p ++ RV.mk key set k b c pp l cp rank line :: es.drop p) = E3 at *
  go_upto_region 4 with fail
  go_region_with (go_at_call 71; refine hI.mono ?_; rintro e w3 ⟨g, cap, rfl, hr3, hg3, hat3⟩; obtain ⟨hv3, hf3, hgL, hs3⟩ := HI.out w3 g hg3 hat3)
  all_goals go_end0
  all_goals refine ⟨⟨_, rfl⟩, p, some g, HP.out, ⟨⟨_, World.cell?_setCell_same' _ _ _ (by rw [hv3]; rfl), ?_, rfl⟩, fun e => hgL (by cases e; rfl), by rw [World.frozen?_setCell]; exact hf3, ?_, by simp; omega⟩, ?_, ?_⟩
  all_goals first
    | (rw [hlen]; exact World.ownsRow.kept hr3 (setCell_grown w3 L 0 _) (.inr (fun e => hgL (by cases e; rfl))))
    | (rw [List.map_append, List.map_cons, List.map_take, List.map_drop]; exact rising_ins h.up HP.out hn)
    | (rcases hat3 with e | e
       · left; rw [← hvb, e]
       · right; exact ⟨g, rfl, by simp at e; omega⟩)
    | (refine ⟨by rw [show (w3.setCell ⟨L, 0, none⟩ _).os = w3.os from rfl, hg3.os]; exact hb1.os.trans hal0.os, by rw [show (w3.setCell ⟨L, 0, none⟩ _).tape = w3.tape from rfl, hg3.tape]; exact hb1.tape.trans hal0.tape, by rw [show (w3.setCell ⟨L, 0, none⟩ _).output = w3.output from rfl, hg3.output]; exact hb1.output.trans hal0.output, by simp; omega, fun k hk hkL hkr => ?_⟩
       rw [Below.heap_setCell _ _ _ _ hkL, hg3.block k (by simp; omega) (by rw [hvb]; exact fun e => hkr e.symm)]
       refine (Below.heap_alloc w1 _ k (by omega)).trans ((hb1.block k (by omega)).trans (hal0.block k hk)))
end Go.Proofs.YtlgodpadcilcaaaGreatDoor
namespace Go.Proofs.YtlgodpadcilcaaaGreatDoor

/-- a type, with its relations in the order of their lines -/
structure Ty where
  nm : List UInt8
  rels : List Rl

/-- one line of a type: the error, and the types then -/
def typeS (st : List Ty) : List (List UInt8) → Nat × List Ty
  | [n] => if nameL n = false then (2, st) else if n ∈ st.map (·.nm) then (3, st) else if st.length = 6 then (1, st) else (0, st ++ [⟨n, []⟩])
  | _ => (2, st)
/-- one line of a relation -/
def relS (st : List Ty) (num : Nat) (set : Bool) : List (List UInt8) → Nat × List Ty
  | [] => (2, st)
  | n :: ex =>
    match st.getLast? with
    | none => (2, st)
    | some ty =>
      if nameL n = false then (2, st) else
      match wholeL ex with
      | none => (2, st)
      | some e => if n ∈ ty.rels.map (·.nm) then (3, st) else if ty.rels.length = 6 then (1, st) else (0, st.dropLast ++ [⟨ty.nm, ty.rels ++ [⟨ty.nm, n, set, e, num⟩]⟩])
/-- one line -/
def lineS (st : List Ty) (num : Nat) (t : List UInt8) : Nat × List Ty :=
  if t = [] ∨ t.take 2 = [47, 47] then (0, st) else
  match splitL 32 t with
  | [] => (2, st)
  | w :: ps => if w = [116, 121, 112, 101] then typeS st ps else if w = [114, 101, 108] then relS st num false ps else if w = [115, 101, 116] then relS st num true ps else (2, st)
/-- lines from number num on: the number and the error of the first that is wrong, or the types -/
def linesS (st : List Ty) (num : Nat) : List (List UInt8) → (Nat × Nat) ⊕ List Ty
  | [] => .inr st
  | l :: r => match lineS st num l with
    | (0, st') => linesS st' (num + 1) r
    | (e, _) => .inl (num, e)

/-- what holds of the types that lines make -/
structure StOk (st : List Ty) : Prop where
  few : st.length ≤ 6
  nodup : (st.map (·.nm)).Nodup
  rels : ∀ ty ∈ st, ty.rels.length ≤ 6 ∧ (ty.rels.map (·.nm)).Nodup ∧ ∀ r ∈ ty.rels, r.ty = ty.nm
theorem StOk.nil : StOk [] := ⟨by simp, by simp, by simp⟩
theorem typeS_ok {st : List Ty} (h : StOk st) (ps : List (List UInt8)) : StOk (typeS st ps).2 := by
  unfold typeS
  split
  · split
    · exact h
    · split
      · exact h
      · split
        · exact h
        · rename_i n _ hm hl
          refine ⟨by have := h.few; simp; omega, ?_, ?_⟩
          · rw [List.map_append, List.nodup_append]
            refine ⟨h.nodup, by simp, fun a ha b hb => ?_⟩
            simp at hb
            subst hb
            exact fun e => hm (e ▸ ha)
          · intro ty hty
            rcases List.mem_append.1 hty with hty | hty
            · exact h.rels ty hty
            · simp at hty; subst hty; simp
  · exact h
theorem getLast_split {st : List Ty} {ty : Ty} (h : st.getLast? = some ty) : st = st.dropLast ++ [ty] := by
  obtain ⟨ys, rfl⟩ := List.getLast?_eq_some_iff.1 h
  simp
theorem relS_ok {st : List Ty} (h : StOk st) (num : Nat) (set : Bool) (ps : List (List UInt8)) : StOk (relS st num set ps).2 := by
  unfold relS
  split
  · exact h
  · split
    · exact h
    · rename_i ty hty
      split
      · exact h
      · split
        · exact h
        · split
          · exact h
          · split
            · exact h
            · rename_i n ex _ _ e _ hm hl
              have hs := getLast_split hty
              have hmem : ty ∈ st := by rw [hs]; simp
              obtain ⟨r1, r2, r3⟩ := h.rels ty hmem
              have hd : ∀ t ∈ st.dropLast, t ∈ st := fun t ht => by rw [hs]; simp [ht]
              refine ⟨?_, ?_, ?_⟩
              · have := h.few
                rw [hs] at this
                simpa using this
              · have := h.nodup
                rw [hs] at this
                simpa using this
              · intro t ht
                rcases List.mem_append.1 ht with ht | ht
                · exact h.rels t (hd t ht)
                · simp at ht
                  subst ht
                  refine ⟨by simp; omega, ?_, ?_⟩
                  · rw [List.map_append, List.nodup_append]
                    refine ⟨r2, by simp, fun a ha b hb => ?_⟩
                    simp at hb
                    subst hb
                    exact fun e => hm (e ▸ ha)
                  · intro r hr
                    rcases List.mem_append.1 hr with hr | hr
                    · exact r3 r hr
                    · simp at hr; subst hr; rfl
theorem lineS_ok {st : List Ty} (h : StOk st) (num : Nat) (t : List UInt8) : StOk (lineS st num t).2 := by
  unfold lineS
  split
  · exact h
  · split
    · exact h
    · split
      · exact typeS_ok h _
      · split
        · exact relS_ok h _ _ _
        · split
          · exact relS_ok h _ _ _
          · exact h
end Go.Proofs.YtlgodpadcilcaaaGreatDoor
