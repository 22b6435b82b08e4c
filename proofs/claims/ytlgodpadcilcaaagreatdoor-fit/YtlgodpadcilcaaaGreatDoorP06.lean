import Derived.Test.YtlgodpadcilcaaaGreatDoorP05
import Derived.BigRegion
import Derived.Deep.RegionHeld
import Derived.Test.YtlgodpadcilcaaaGreatDoorP01
namespace Go.Proofs.YtlgodpadcilcaaaGreatDoor
open Go.ChangeShapes Go.WideShapes Go.ChangeAt Go.RowKit Go.Shelf
attribute [local go_sem] Oper.semAt_some

theorem infoPl : (Tryz.prog.info? 109).map (fun i => (i.zero, i.size, i.bytes)) = some (some (.agg #[.string ⟨#[]⟩, .string ⟨#[]⟩, .pointer none, .bool false, .int .i64 0, .string ⟨#[]⟩, .string ⟨#[]⟩, .slice none 0 0, .int .i64 0, .int .i64 0]), 10, 128) := by kernel_rfl

/-- a place out of a type and a relation's entry -/
def mkPV (z : Zt) (y : RV) : PV := ⟨z.tv.key, y.key, z.tv.blk, y.set, y.k, y.b, y.c, y.p, y.l, y.cp, y.rank, y.line⟩
theorem PV.len (x : PV) : x.cells.length = 10 := rfl
def RowPV (w : World) (v : Value) (ps : List PV) : Prop := w.ownsRow 0 109 10 v ps.length (ps.map PV.cells).flatten
/-- all places, type by type -/
def placesOf (zs : List Zt) : List PV := zs.flatMap (fun z => z.es.map (mkPV z))

theorem placesOf_len : ∀ (l : List Zt), (∀ z ∈ l, z.es.length ≤ 1000) → (placesOf l).length ≤ 1000 * l.length
  | [], _ => by simp [placesOf]
  | z :: l, h => by
    have h1 := placesOf_len l (fun y hy => h y (by simp [hy]))
    have h2 := h z (by simp)
    simp only [placesOf, List.flatMap_cons, List.length_append, List.length_map, List.length_cons] at h1 ⊢
    omega
theorem placesOf_snoc (l : List Zt) (z : Zt) : placesOf (l ++ [z]) = placesOf l ++ z.es.map (mkPV z) := by simp [placesOf]
theorem attach_fst {β γ δ : Type} (l : List (β × γ)) (f : β → δ) : l.attach.map (fun x => f x.1.1) = (l.map Prod.fst).map f := by
  have e : l.attach.map (fun x => f x.1.1) = ((l.attach.map Subtype.val).map Prod.fst).map f := by rw [List.map_map, List.map_map]; rfl
  rw [e, List.attach_map_subtype_val]

/-- the box holds places -/
def HoldsPl (n₀ B : Nat) (W : World) (ps : List PV) : Prop := ∃ v, Boxed W B 100 v ∧ W.ownsRow n₀ 109 10 v ps.length (ps.map PV.cells).flatten ∧ True
theorem HoldsPl.alloc {n₀ B : Nat} {W : World} {ps : List PV} (h : HoldsPl n₀ B W ps) (o : Obj) : HoldsPl n₀ B (W.alloc o) ps := by
  obtain ⟨v, h1, h2, h3⟩ := h
  exact ⟨v, h1.alloc o, h2.alloc o, h3⟩
theorem holdsPl_own {β : Type} (n₀ B : Nat) (f : β → List PV) : Own (fun s W => HoldsPl n₀ B W (f s)) := holdsRow_own n₀ B 100 109 10 (fun s => (f s).length) (fun s => ((f s).map PV.cells).flatten) (fun _ _ => True)
def vals {zs : List Zt} (pre : List (Of zs)) : List Zt := pre.map (·.1)
theorem vals_snoc {zs : List Zt} (pre : List (Of zs)) (x : Of zs) : vals (pre ++ [x]) = vals pre ++ [x.1] := by simp [vals]
theorem vals_attach (zs : List Zt) : vals zs.attach = zs := List.attach_map_subtype_val zs
def mkAll {z : Zt} (pre : List (Of z.pairs)) : List PV := pre.map (fun y => mkPV z y.1.1)
theorem mkAll_snoc {z : Zt} (pre : List (Of z.pairs)) (y : Of z.pairs) : mkAll (pre ++ [y]) = mkAll pre ++ [mkPV z y.1.1] := by simp [mkAll]

set_option maxRecDepth 100000 in
set_option maxHeartbeats 8000000 in
theorem places_any (Rd S : Nat) (rbT : Option Nat) (zs : List Zt) (st : List Ty) (w : World) (h : PRep w Rd S rbT zs st) :
    Calls Tryz.prog 38 #[.pointer (some ⟨S, 0, none⟩)] w fun e w' => ∃ v, e = .returned v ∧ w'.ownsRow w.heap.size 109 10 v (placesOf zs).length ((placesOf zs).map PV.cells).flatten ∧ Below w.heap.size w w' := by
  obtain ⟨i0, hi, hz0, hz1, hz2⟩ := info_parts infoPl
  have hfew : zs.length ≤ 1000 := by have := h.own.few; simpa using this
  have hesl : ∀ z ∈ zs, z.es.length ≤ 1000 := fun z hz => (h.zok z hz).own.few
  refine (callsIn_wide (n := 12)).1 ?_
  refine callsIn_of_wp_marks Tryz.func38 rfl trivial ?_ rfl
  simp only [Tryz.ntmps38, List.size_toArray, List.length_cons, List.length_nil, Nat.reduceAdd, Nat.reduceSub, Array.replicate_succ, Array.replicate_zero, List.push_toArray, List.append_toArray, List.nil_append, List.cons_append]
  gi_wp2_with (refine ⟨trivial, ?_⟩; gi_at_call 33; refine (AllT_in _ _ _).mono ?_; rintro e w' ⟨rfl, rfl⟩)
  have bS := (Boxed.new w 100 (.slice none 0 0)).alloc (.cells #[.pointer (some ⟨S, 0, none⟩)] 111)
  have bA := Boxed.new (w.alloc (.cells #[.slice none 0 0] 100)) 111 (.pointer (some ⟨S, 0, none⟩))
  simp only [World.size_alloc] at bA
  have hB0 : Below w.heap.size w ((w.alloc (.cells #[.slice none 0 0] 100)).alloc (.cells #[.pointer (some ⟨S, 0, none⟩)] 111)) := ((Below.refl _ w).alloc (Nat.le_refl _) _).alloc (by simp) _
  have hsz0 : ((w.alloc (.cells #[.slice none 0 0] 100)).alloc (.cells #[.pointer (some ⟨S, 0, none⟩)] 111)).heap.size = w.heap.size + 2 := by simp
  obtain ⟨W0, hW0⟩ : ∃ W0, (w.alloc (.cells #[.slice none 0 0] 100)).alloc (.cells #[.pointer (some ⟨S, 0, none⟩)] 111) = W0 := ⟨_, rfl⟩
  rw [hW0] at bS bA hB0 hsz0 ⊢
  clear hW0
  have h0 := h.below hB0
  refine wpIn_rangeFunc_ownH (α := Of zs) rfl (by decide) (gf := 62) (lb := #[.pointer (some ⟨w.heap.size + 1, 0, none⟩)]) rfl trivial (enters_of Tryz.func62 (by kernel_rfl) rfl)
    (AllT_stops _ w.heap.size (w.heap.size + 1) S rbT Zt.tv zs W0 bA.cell (by omega) h0.own (fun g hg => h.lt g (mem_blocks_T hg)) (by omega)) belowK_t (belowK_b (by omega)) (Below.refl _ _) (fun _ => rfl)
    (fun pre W => HoldsPl w.heap.size w.heap.size W (placesOf (vals pre)) ∧ Below w.heap.size w W)
    (fun _ _ _ => False)
    (OwnFrom.and (Own.from (holdsPl_own _ _ _) _) (ownFrom_below (Nat.le_refl _) (by omega)))
    (fun _ _ _ _ _ hs _ _ => hs)
    ⟨⟨.slice none 0 0, bS, World.ownsRow_nil _ _ _ _, trivial⟩, hB0⟩
    (fun x a' W => ∃ B4 B5, w.heap.size < B4 ∧ w.heap.size < B5 ∧ (Boxed W B4 9 (strV x.1.tv.key) ∧ Boxed W B5 50 (.pointer (some ⟨x.1.tv.blk, 0, none⟩))) ∧ a' = { tmps := #[.pointer (some ⟨S, 0, none⟩), undef, .slice none 0 0, .pointer (some ⟨w.heap.size, 0, none⟩), .pointer (some ⟨B4, 0, none⟩), .pointer (some ⟨B5, 0, none⟩), undef, undef, .pointer (some ⟨S, 0, none⟩), .pointer (some ⟨S, 0, none⟩), .pointer (some ⟨S, 0, none⟩), .func (.func 62) #[] #[.pointer (some ⟨w.heap.size + 1, 0, none⟩)], strV x.1.tv.key, .pointer (some ⟨x.1.tv.blk, 0, none⟩), undef, undef, undef, undef, undef, undef, undef, undef, undef, undef, undef, undef, undef], defers := [] })
    (fun x a' _ X Y row hs hg hr => by
      obtain ⟨B4, B5, e1, e2, ⟨e3, e4⟩, e5⟩ := hs
      exact ⟨B4, B5, e1, e2, ⟨boxed_own B4 9 (fun (_ : Unit) => strV x.1.tv.key) () X Y row e3 hg (fun r e => (hr r e).2), boxed_own B5 50 (fun (_ : Unit) => Value.pointer (some ⟨x.1.tv.blk, 0, none⟩)) () X Y row e4 hg (fun r e => (hr r e).2)⟩, e5⟩)
    ?assign ?body ?done ?stop
  case assign =>
    rintro l pre x W K ⟨hPl, hB1⟩ hK
    have bSl : w.heap.size < W.heap.size := by obtain ⟨v, hv, _⟩ := hPl; exact hv.lt
    unfold encT
    simp only [strV]
    gi_wp2
    refine hK _ _ (((KeepsOthers.alloc _ _).trans (KeepsOthers.alloc _ _)).from _) (((Below.refl _ W).alloc hB1.size _).alloc (by simp; have := hB1.size; omega) _) ⟨(hPl.alloc _).alloc _, (hB1.alloc hB1.size _).alloc (by simp; have := hB1.size; omega) _⟩ ⟨W.heap.size, W.heap.size + 1, bSl, by omega, ⟨(Boxed.new W 9 _).alloc _, ?_⟩, rfl⟩
    have := Boxed.new (W.alloc (.cells #[.string ⟨x.1.tv.key.toArray⟩] 9)) 50 (.pointer (some ⟨x.1.tv.blk, 0, none⟩))
    simpa using this
  case body =>
    rintro l pre x a' W hl ⟨r, hr⟩ ⟨hPl, hB1⟩ ⟨B4, B5, hB4, hB5, ⟨b4, b5⟩, rfl⟩ hlt
    have c5 := b5.cell
    have h1' : 1 ≤ 12 - 1 - 1 := by decide
    have hzk := (h.below hB1).zok x.1 x.2
    gi_wp2_with (refine ⟨trivial, ?_⟩; gi_at_call 34; refine (CallsIn.inRound l (AllR_in _ _ _)).mono ?_; rintro e w' ⟨rfl, rfl⟩)
    have hsW := hB1.size
    have bN := Boxed.new W 50 (.pointer (some ⟨x.1.tv.blk, 0, none⟩))
    have hr' : (W.alloc (.cells #[.pointer (some ⟨x.1.tv.blk, 0, none⟩)] 50)).heap[l]? = some (.loop r) := (Below.heap_alloc W _ l (Array.getElem?_eq_some_iff.1 hr).1).trans hr
    have hal : Below W.heap.size W (W.alloc (.cells #[.pointer (some ⟨x.1.tv.blk, 0, none⟩)] 50)) := (Below.refl _ _).alloc (Nat.le_refl _) _
    have hown : OwnR (W.alloc (.cells #[.pointer (some ⟨x.1.tv.blk, 0, none⟩)] 50)) x.1.tv.blk x.1.rb (x.1.pairs.map Prod.fst) := by
      rw [pairs_fst hzk]
      exact hzk.own.keep (hal.block _ hzk.own.lt.1) (fun k hk => hal.block k (hzk.own.lt.2 k hk))
    have hpl : (placesOf (vals pre)).length ≤ 1000000 := by
      have h1 := placesOf_len (vals pre) (fun z hz => by
        obtain ⟨y, _, rfl⟩ := List.mem_map.1 hz
        exact hesl y.1 y.2)
      have h2 : (vals pre).length = pre.length := List.length_map _
      rw [h2] at h1
      omega
    have hpr : x.1.pairs.length ≤ 1000 := by
      have := hesl x.1 x.2
      unfold Zt.pairs
      rw [List.length_zip]
      omega
    refine wpIn_rangeFunc_ownN (α := Of x.1.pairs) (l₀ := l) (r₀ := r) rfl hr' h1' (gf := 64) (lb := #[.pointer (some ⟨W.heap.size, 0, none⟩)]) rfl trivial (enters_of Tryz.func64 (by kernel_rfl) rfl)
      ((AllR_stops _ w.heap.size W.heap.size x.1.tv.blk x.1.rb Prod.fst x.1.pairs _ bN.cell (by simp) hown (fun g hg => h.lt g (mem_blocks_R x.2 (by simp [Zt.blocks, hg]))) (by simp; omega)).inRound l) belowK_t (belowK_b (by simp; omega)) (Below.refl _ _) (fun _ => rfl)
      (fun pre' W' => ((HoldsPl w.heap.size w.heap.size W' (placesOf (vals pre) ++ mkAll pre') ∧ Boxed W' B4 9 (strV x.1.tv.key)) ∧ Boxed W' B5 50 (.pointer (some ⟨x.1.tv.blk, 0, none⟩))) ∧ (Below w.heap.size W W' ∧ KeepsFrom W0.heap.size W W'))
      (fun _ _ _ => False)
      (OwnFrom.and (OwnFrom.and (OwnFrom.and (Own.from (holdsPl_own _ _ _) _) (Own.from (boxed_own _ _ _) _)) (Own.from (boxed_own _ _ _) _)) (OwnFrom.and (ownFrom_below hsW (by simp; omega)) (ownFrom_keepsFrom (by simp))))
      (fun _ _ _ _ _ hs _ _ => hs)
      ⟨⟨⟨by have := hPl.alloc (.cells #[.pointer (some ⟨x.1.tv.blk, 0, none⟩)] 50); simpa [mkAll] using this, b4.alloc _⟩, b5.alloc _⟩, (Below.refl _ W).alloc hsW _, (KeepsOthers.alloc _ _).from _⟩
      (fun y a'' W'' => ∃ By, w.heap.size < By ∧ BoxA W'' By 90 (relCells y.1.1) ∧ a'' = { tmps := #[.pointer (some ⟨S, 0, none⟩), undef, .slice none 0 0, .pointer (some ⟨w.heap.size, 0, none⟩), .pointer (some ⟨B4, 0, none⟩), .pointer (some ⟨B5, 0, none⟩), strV y.1.1.key, .pointer (some ⟨By, 0, none⟩), .pointer (some ⟨S, 0, none⟩), .pointer (some ⟨S, 0, none⟩), .pointer (some ⟨S, 0, none⟩), .func (.func 62) #[] #[.pointer (some ⟨w.heap.size + 1, 0, none⟩)], strV x.1.tv.key, .pointer (some ⟨x.1.tv.blk, 0, none⟩), .pointer (some ⟨x.1.tv.blk, 0, none⟩), .func (.func 64) #[] #[.pointer (some ⟨W.heap.size, 0, none⟩)], strV y.1.1.key, .agg (relCells y.1.1), undef, undef, undef, undef, undef, undef, undef, undef, undef], defers := [] })
      (fun y a'' _ X Y row hs hg hr => by obtain ⟨By, e1, e2, e3⟩ := hs; exact ⟨By, e1, boxA_own By 90 (fun (_ : Unit) => relCells y.1.1) () X Y row e2 hg (fun r e => (hr r e).2), e3⟩)
      ?assign2 ?body2 ?done2 ?stop2
    case assign2 =>
      rintro l2 pre' y W' K ⟨⟨⟨hPl2, b42⟩, b52⟩, hBW, hKF⟩ hK
      have bSl : w.heap.size < W'.heap.size := by obtain ⟨v, hv, _⟩ := hPl2; exact hv.lt
      unfold encR
      simp only [strV]
      gi_wp2
      have hs2 : w.heap.size ≤ W'.heap.size := by have := hBW.size; omega
      exact hK _ _ ((KeepsOthers.alloc _ _).from _) ((Below.refl _ W').alloc hs2 _) ⟨⟨⟨hPl2.alloc _, b42.alloc _⟩, b52.alloc _⟩, hBW.alloc hs2 _, hKF.trans ((KeepsOthers.alloc _ _).from _)⟩ ⟨W'.heap.size, bSl, BoxA.new W' 90 _, rfl⟩
    case body2 =>
      rintro l2 pre' y a'' W' _ _ ⟨⟨⟨⟨v2, bS2, hr2, -⟩, b42⟩, b52⟩, hBW, hKF⟩ ⟨By, hBy, bY, rfl⟩ hlt2
      have hs2 := hBW.size
      have cS := bS2.cell
      have c4 := b42.cell
      have c5 := b52.cell
      have y0 : W'.cell? ⟨By, 0, none⟩ = some (.bool y.1.1.set) := bY.cell 0
      have y1 : W'.cell? ⟨By, 1, none⟩ = some (.int .i64 y.1.1.k) := bY.cell 1
      have y2 : W'.cell? ⟨By, 2, none⟩ = some (.string y.1.1.b) := bY.cell 2
      have y3 : W'.cell? ⟨By, 3, none⟩ = some (.string y.1.1.c) := bY.cell 3
      have y4 : W'.cell? ⟨By, 4, none⟩ = some (.slice y.1.1.p y.1.1.l y.1.1.cp) := bY.cell 4
      have y5 : W'.cell? ⟨By, 5, none⟩ = some (.int .i64 y.1.1.rank) := bY.cell 5
      have y6 : W'.cell? ⟨By, 6, none⟩ = some (.int .i64 y.1.1.line) := bY.cell 6
      have hnl : (placesOf (vals pre) ++ mkAll pre').length ≤ 1001000 := by
        have h2 : (mkAll pre').length = pre'.length := List.length_map _
        rw [List.length_append, h2]; omega
      have HL : Hid (placesOf (vals pre) ++ mkAll (pre' ++ [y]) = (placesOf (vals pre) ++ mkAll pre') ++ [mkPV x.1 y.1.1]) := by show _ = _; rw [mkAll_snoc, List.append_assoc]
      obtain ⟨ps, hps⟩ : ∃ ps, placesOf (vals pre) ++ mkAll pre' = ps := ⟨_, rfl⟩
      rw [hps] at hr2 hnl HL
      clear hps
      unfold relCells at bY
      simp only [relCells, strV] at *
      gi_wp2_with (gi_at_builtin; refine wpListIn_append_own _ rfl _ _ 100 rfl w.heap.size 109 i0 _ 10 128 Tryz.underlying100 hi hz0 hz1 hz2 rfl (by decide) _ _ _ rfl (hr2.alloc _) ⟨W'.heap.size, 0, none⟩ 1 1 (mkPV x.1 y.1.1).cells rfl rfl ?_ ?_ (by unfold maxLen; omega) (by omega) (by simp; omega) ?_; (exact World.news_of_block (cs := (mkPV x.1 y.1.1).cells.toArray) (t := 109) (fr := (0, 0)) (heap_alloc_new W' _)); (intro u hu; simp [PV.cells, mkPV, strV] at hu; rcases hu with rfl | rfl | rfl | rfl | rfl | rfl | rfl | rfl | rfl | rfl <;> rfl); intro v' w1 hown' hgrow _; obtain ⟨g', cap', rfl⟩ := ownsRow_succ hown'; obtain ⟨hv1, hv2, hr3, hk2, hb2⟩ := bS2.appended (by decide) hr2 (by omega) (Nat.le_refl _) hown' hgrow; have hc1 := hv1.cell; have hf1 := hv1.frozen)
      have hb4 := ((b42.alloc _).kept hgrow (b42.not_row (by decide) hr2)).other (B' := w.heap.size) (by omega) (.slice (some ⟨g', 0, none⟩) (ps.length + 1) cap')
      have hb5 := ((b52.alloc _).kept hgrow (b52.not_row (by decide) hr2)).other (B' := w.heap.size) (by omega) (.slice (some ⟨g', 0, none⟩) (ps.length + 1) cap')
      refine ⟨hk2.from _, hb2, ⟨⟨?_, hb4⟩, hb5⟩, hBW.trans hb2, hKF.trans (hk2.from _)⟩
      rw [HL.out]
      refine ⟨_, hv2, ?_, trivial⟩
      rw [List.map_append, List.flatten_append, List.length_append]
      simpa using hr3
    case done2 =>
      rintro ys' W' rfl ⟨⟨⟨hPl2, b42⟩, b52⟩, hBW, hKF⟩
      have HPl2 : Hid (HoldsPl w.heap.size w.heap.size W' (placesOf (vals (pre ++ [x])))) := by
        show HoldsPl _ _ _ _
        rw [vals_snoc, placesOf_snoc]
        unfold mkAll at hPl2
        rw [attach_fst, pairs_fst hzk] at hPl2
        exact hPl2
      gi_wp2
      exact ⟨hKF, hBW, HPl2.out, hB1.trans hBW⟩
    case stop2 =>
      rintro c pre' W' _ h
      exact h.elim
  case done =>
    rintro D ys W hD rfl ⟨hPl, hB1⟩ hK
    rw [vals_attach] at hPl
    obtain ⟨v, bS1, hr1, -⟩ := hPl
    have cS := bS1.cell
    gi_wp2
    refine ⟨by simp, .inl ⟨_, _, rfl, run_takeDeferred hK, ?_⟩⟩
    refine ⟨_, results_tmp rfl _ _ _, v, rfl, ownsRow_putObj ?_ _ hK rfl, hB1.trans (belowK_b (w := w) (Nat.le_refl _) W D _ _ (by omega) hK rfl rfl)⟩
    exact hr1
  case stop =>
    rintro D c pre W _ _ h _
    exact h.elim
end Go.Proofs.YtlgodpadcilcaaaGreatDoor
namespace Go.Proofs.YtlgodpadcilcaaaGreatDoor
open Go.ChangeShapes Go.WideShapes Go.ChangeAt Go.RowKit Go.Shelf

theorem RowPV.cell {B : Nat} {w : World} {g cap : Nat} {ps : List PV} (h : w.ownsRow B 109 10 (.slice (some ⟨g, 0, none⟩) ps.length cap) ps.length (ps.map PV.cells).flatten) (j : Nat) (hj : j < ps.length) (i : Nat) (hi : i < 10) : w.cell? ⟨g, j * 10 + i, none⟩ = ps[j].cells[i]? := by
  rw [Nat.mul_comm j, h.cellAt _ (by omega), flattenK 10 (ps.map PV.cells) (fun cs hcs => by obtain ⟨x, _, rfl⟩ := List.mem_map.1 hcs; exact x.len) j (by simpa using hj) i hi]
  simp

theorem Mat.lt {w : World} {b : Nat} {X : Nat → Nat → Bool} (h : Mat w b X) : b < w.heap.size := World.block_lt_of_cell? w ⟨b, 0 * 36 + 0, none⟩ (h.cell 0 0 (by decide) (by decide))
theorem Mat.same {w w' : World} {b : Nat} {X : Nat → Nat → Bool} (h : Mat w b X) (hb : w'.heap[b]? = w.heap[b]?) : Mat w' b X :=
  ⟨fun i j hi hj => by rw [World.cell?_of_block (w := w) (a := ⟨b, i * 36 + j, none⟩) hb]; exact h.cell i j hi hj, fun k => by rw [World.frozen?_of_block (w := w) (a := ⟨b, k, none⟩) hb]; exact h.fr k, by rw [hb]; exact h.blk⟩
theorem Mat.below {w w' : World} {b : Nat} {X : Nat → Nat → Bool} (h : Mat w b X) (hb : Below w.heap.size w w') : Mat w' b X := h.same (hb.block b h.lt)
theorem Mat.congr {w : World} {b : Nat} {X Y : Nat → Nat → Bool} (h : Mat w b X) (e : ∀ i j, i < 36 → j < 36 → X i j = Y i j) : Mat w b Y := ⟨fun i j hi hj => by rw [← e i j hi hj]; exact h.cell i j hi hj, h.fr, h.blk⟩
theorem Mat.far {w : World} {b c k : Nat} {X : Nat → Nat → Bool} {v : Value} (h : Mat w b X) (hn : b ≠ c) : Mat (w.setCell ⟨c, k, none⟩ v) b X := h.same (Below.heap_setCell _ _ _ _ hn)
theorem BoxA.far {W : World} {B c k : Nat} {t : TypeId} {cs : Array Value} {v : Value} (h : BoxA W B t cs) (hn : B ≠ c) : BoxA (W.setCell ⟨c, k, none⟩ v) B t cs := by
  show (W.setCell ⟨c, k, none⟩ v).heap[B]? = _
  rw [Below.heap_setCell _ _ _ _ hn]; exact h
theorem boxed_far {W : World} {B c k : Nat} {t : TypeId} {u v : Value} (h : Boxed W B t u) (hn : B ≠ c) : Boxed (W.setCell ⟨c, k, none⟩ v) B t u := by
  show (W.setCell ⟨c, k, none⟩ v).heap[B]? = _
  rw [Below.heap_setCell _ _ _ _ hn]; exact h

/-- whether a term in one place's expression leads to place number b -/
def ldV (ps : List PV) (x : PV) (t : Sing) (b : Nat) : Bool := match ps[b]? with | some q => leadsV t x q | none => false

/-- the tables behind some terms of place number i -/
def tabH (ps : List PV) (x : PV) (i : Nat) (X : Nat → Nat → Bool) (pre : List (Sing × Bool)) (a b : Nat) : Bool := X a b || (decide (a = i) && pre.any (fun p => ldV ps x p.1 b))
def tabA (ps : List PV) (x : PV) (i : Nat) (X : Nat → Nat → Bool) (pre : List (Sing × Bool)) (a b : Nat) : Bool := X a b || (decide (a = i) && pre.any (fun p => p.2 && ldV ps x p.1 b))

/-- what the visitor of hanging keeps -/
structure HgI (w : World) (v : Value) (ps : List PV) (x : PV) (i B1 B5 Bh B4 Ba : Nat) (X A : Nat → Nat → Bool) (pre : List (Sing × Bool)) (W : World) : Prop where
  bel : Below w.heap.size w W
  b1 : Boxed W B1 100 v
  b4 : Boxed W B4 3 (.int .i64 (i : Int))
  b5 : BoxA W B5 109 x.cells.toArray
  mh : Mat W Bh (tabH ps x i X pre)
  ma : Mat W Ba (tabA ps x i A pre)

/-- within a round of its loop, ahead of place number j -/
structure HgJ (w : World) (v : Value) (ps : List PV) (x : PV) (i B1 B5 Bh B4 Ba B7 : Nat) (tc : Array Value) (t : Sing) (ag : Bool) (X A : Nat → Nat → Bool) (j : Nat) (W0 W : World) : Prop where
  bel : Below w.heap.size w W
  b1 : Boxed W B1 100 v
  b4 : Boxed W B4 3 (.int .i64 (i : Int))
  b5 : BoxA W B5 109 x.cells.toArray
  b7 : BoxA W B7 88 tc
  mh : Mat W Bh (fun a b => X a b || (decide (a = i) && (decide (b < j) && ldV ps x t b)))
  ma : Mat W Ba (fun a b => A a b || (decide (a = i) && (decide (b < j) && (ag && ldV ps x t b))))
  but : ButM [Bh, Ba] W0 W
theorem HgJ.below {w : World} {v : Value} {ps : List PV} {x : PV} {i B1 B5 Bh B4 Ba B7 : Nat} {tc : Array Value} {t : Sing} {ag : Bool} {X A : Nat → Nat → Bool} {j : Nat} {W0 W W' : World} (h : HgJ w v ps x i B1 B5 Bh B4 Ba B7 tc t ag X A j W0 W) (hb : Below W.heap.size W W') : HgJ w v ps x i B1 B5 Bh B4 Ba B7 tc t ag X A j W0 W' :=
  ⟨h.bel.trans (hb.mono h.bel.size), boxed_below h.b1 hb, boxed_below h.b4 hb, h.b5.below hb, h.b7.below hb, h.mh.below hb, h.ma.below hb, h.but.trans (ButM.of_below hb)⟩
/-- a place that is not led to -/
theorem HgJ.skip {w : World} {v : Value} {ps : List PV} {x : PV} {i B1 B5 Bh B4 Ba B7 : Nat} {tc : Array Value} {t : Sing} {ag : Bool} {X A : Nat → Nat → Bool} {j : Nat} {W0 W : World} (h : HgJ w v ps x i B1 B5 Bh B4 Ba B7 tc t ag X A j W0 W) (hl : ldV ps x t j = false) : HgJ w v ps x i B1 B5 Bh B4 Ba B7 tc t ag X A (j + 1) W0 W := by
  refine ⟨h.bel, h.b1, h.b4, h.b5, h.b7, h.mh.congr (fun a b _ _ => ?_), h.ma.congr (fun a b _ _ => ?_), h.but⟩
  · by_cases e : b = j
    · subst e; simp [hl]
    · have : decide (b < j + 1) = decide (b < j) := by rw [decide_eq_decide]; omega
      rw [this]
  · by_cases e : b = j
    · subst e; simp [hl]
    · have : decide (b < j + 1) = decide (b < j) := by rw [decide_eq_decide]; omega
      rw [this]
/-- a place that is led to -/
theorem HgJ.hit {w : World} {v : Value} {ps : List PV} {x : PV} {i B1 B5 Bh B4 Ba B7 : Nat} {tc : Array Value} {t : Sing} {ag : Bool} {X A : Nat → Nat → Bool} {j : Nat} {W0 W : World} (h : HgJ w v ps x i B1 B5 Bh B4 Ba B7 tc t ag X A j W0 W) (hl : ldV ps x t j = true) (hi : i < 36) (hj : j < 36)
    (hne : Bh ≠ Ba) (n1 : B1 ≠ Bh ∧ B1 ≠ Ba) (n4 : B4 ≠ Bh ∧ B4 ≠ Ba) (n5 : B5 ≠ Bh ∧ B5 ≠ Ba) (n7 : B7 ≠ Bh ∧ B7 ≠ Ba) (hwh : w.heap.size ≤ Bh) (hwa : w.heap.size ≤ Ba) {q : Bool} (hq : q = (A i j || ag)) :
    HgJ w v ps x i B1 B5 Bh B4 Ba B7 tc t ag X A (j + 1) W0 ((W.setCell ⟨Bh, i * 36 + j, none⟩ (.bool true)).setCell ⟨Ba, i * 36 + j, none⟩ (.bool q)) := by
  refine ⟨(h.bel.setCell (p := ⟨Bh, i * 36 + j, none⟩) hwh _).setCell (p := ⟨Ba, i * 36 + j, none⟩) hwa _, boxed_far (boxed_far h.b1 n1.1) n1.2, boxed_far (boxed_far h.b4 n4.1) n4.2, (h.b5.far n5.1).far n5.2, (h.b7.far n7.1).far n7.2, ((h.mh.set i j hi hj true).far hne).congr (fun a b _ _ => ?_), ((h.ma.far (Ne.symm hne)).set i j hi hj q).congr (fun a b _ _ => ?_), (h.but.set (.inl (by simp)) _ _).set (.inl (by simp)) _ _⟩
  · by_cases e : a = i ∧ b = j
    · obtain ⟨rfl, rfl⟩ := e; simp [hl]
    · rw [if_neg e]
      by_cases ea : a = i
      · have : decide (b < j + 1) = decide (b < j) := by rw [decide_eq_decide]; omega
        rw [this]
      · simp [ea]
  · by_cases e : a = i ∧ b = j
    · obtain ⟨rfl, rfl⟩ := e; simp [hl, hq]
    · rw [if_neg e]
      by_cases ea : a = i
      · have : decide (b < j + 1) = decide (b < j) := by rw [decide_eq_decide]; omega
        rw [this]
      · simp [ea]
end Go.Proofs.YtlgodpadcilcaaaGreatDoor
namespace Go.Proofs.YtlgodpadcilcaaaGreatDoor
open Go.ChangeShapes Go.WideShapes Go.ChangeAt Go.RowKit Go.Shelf

set_option maxRecDepth 100000 in
set_option maxHeartbeats 16000000 in
theorem hanging1_visits (w : World) (g cap : Nat) (ps : List PV) (i B1 B5 Bh B4 Ba : Nat) (X A : Nat → Nat → Bool) (hrow : w.ownsRow 0 109 10 (.slice (some ⟨g, 0, none⟩) ps.length cap) ps.length (ps.map PV.cells).flatten) (hps : ps.length ≤ 36) (hi : i < ps.length) (hne : Bh ≠ Ba) (n1 : B1 ≠ Bh ∧ B1 ≠ Ba) (n4 : B4 ≠ Bh ∧ B4 ≠ Ba) (n5 : B5 ≠ Bh ∧ B5 ≠ Ba) (hwh : w.heap.size ≤ Bh) (hwa : w.heap.size ≤ Ba) :
    Visits 68 #[.pointer (some ⟨B1, 0, none⟩), .pointer (some ⟨B5, 0, none⟩), .pointer (some ⟨Bh, 0, none⟩), .pointer (some ⟨B4, 0, none⟩), .pointer (some ⟨Ba, 0, none⟩)] [Bh, Ba] (HgI w (.slice (some ⟨g, 0, none⟩) ps.length cap) ps ps[i] i B1 B5 Bh B4 Ba X A) where
  below := fun pre W W' h hb => ⟨h.bel.trans (hb.mono h.bel.size), boxed_below h.b1 hb, boxed_below h.b4 hb, h.b5.below hb, h.mh.below hb, h.ma.below hb⟩
  call := by
    intro pre t ag tc Sp w0 W hI hE
    have hg : g < w.heap.size := (hrow.lt g rfl).2
    have HCell : Hid (∀ W', Below w.heap.size w W' → ∀ j (hj : j < ps.length) k, k < 10 → W'.cell? ⟨g, j * 10 + k, none⟩ = ps[j].cells[k]?) := fun W' hb j hj k hk => by
      rw [hb.cell (p := ⟨g, j * 10 + k, none⟩) hg]; exact RowPV.cell hrow j hj k hk
    have HLd : Hid (∀ (u : World) y, Calls Tryz.prog 69 #[.agg tc.toArray, .agg ps[i].cells.toArray, .agg (PV.cells y).toArray] u fun e w' => e = .returned (.bool (leadsV t ps[i] y)) ∧ Below u.heap.size u w') := fun u y => leads_any t Sp tc ps[i] y w0 u hE
    obtain ⟨B7, hB7⟩ : ∃ B7, W.heap.size = B7 := ⟨_, rfl⟩
    obtain ⟨W1, hW1⟩ : ∃ W1, W.alloc (.cells tc.toArray 88) = W1 := ⟨_, rfl⟩
    have hb1 : Below W.heap.size W W1 := by rw [← hW1]; exact (Below.refl _ _).alloc (Nat.le_refl _) _
    have n7 : B7 ≠ Bh ∧ B7 ≠ Ba := ⟨by have := hI.mh.lt; omega, by have := hI.ma.lt; omega⟩
    have hJ0 : HgJ w (.slice (some ⟨g, 0, none⟩) ps.length cap) ps ps[i] i B1 B5 Bh B4 Ba B7 tc.toArray t ag (tabH ps ps[i] i X pre) (tabA ps ps[i] i A pre) 0 W W1 :=
      ⟨hI.bel.trans (hb1.mono hI.bel.size), boxed_below hI.b1 hb1, boxed_below hI.b4 hb1, hI.b5.below hb1, by rw [← hW1, ← hB7]; exact BoxA.new W _ _, (hI.mh.below hb1).congr (fun a b _ _ => by simp), (hI.ma.below hb1).congr (fun a b _ _ => by simp), ButM.of_below hb1⟩
    have HFin : Hid (∀ W', HgJ w (.slice (some ⟨g, 0, none⟩) ps.length cap) ps ps[i] i B1 B5 Bh B4 Ba B7 tc.toArray t ag (tabH ps ps[i] i X pre) (tabA ps ps[i] i A pre) ps.length W W' → HgI w (.slice (some ⟨g, 0, none⟩) ps.length cap) ps ps[i] i B1 B5 Bh B4 Ba X A (pre ++ [(t, ag)]) W' ∧ ButM [Bh, Ba] W W') := fun W' h => by
      have hout : ∀ b, (decide (b < ps.length) && ldV ps ps[i] t b) = ldV ps ps[i] t b := fun b => by
        by_cases hb : b < ps.length
        · simp [hb]
        · have : ps[b]? = none := List.getElem?_eq_none (by omega)
          simp [ldV, this]
      refine ⟨⟨h.bel, h.b1, h.b4, h.b5, h.mh.congr (fun a b _ _ => ?_), h.ma.congr (fun a b _ _ => ?_)⟩, h.but⟩
      · rw [hout]
        simp only [tabH, List.any_append, List.any_cons, List.any_nil, Bool.or_false]
        cases X a b <;> cases decide (a = i) <;> simp
      · have e : (decide (b < ps.length) && (ag && ldV ps ps[i] t b)) = (ag && ldV ps ps[i] t b) := by
          have := hout b
          cases ag <;> simp_all
        rw [e]
        simp only [tabA, List.any_append, List.any_cons, List.any_nil, Bool.or_false]
        cases A a b <;> cases decide (a = i) <;> simp
    obtain ⟨X', hX'⟩ : ∃ X', tabH ps ps[i] i X pre = X' := ⟨_, rfl⟩
    obtain ⟨A', hA'⟩ : ∃ A', tabA ps ps[i] i A pre = A' := ⟨_, rfl⟩
    rw [hX', hA'] at hJ0 HFin
    have HLt : Hid (∀ j (hj : j < ps.length), ldV ps ps[i] t j = leadsV t ps[i] ps[j]) := fun j hj => by simp [ldV, List.getElem?_eq_getElem hj]
    have HW1 : Hid _ := hW1
    have HJ0 : Hid _ := hJ0
    obtain ⟨k, b, c, rfl⟩ := hE.leafForm
    have c1 := hJ0.b1.cell
    clear hJ0 hX' hA' hW1 hE hI hrow hb1
    have hi36 : i < 36 := by omega
    have hii : (i : Int) < 36 := by omega
    obtain ⟨x, hx⟩ : ∃ x, ps[i] = x := ⟨_, rfl⟩
    have HX : Hid (ps[i] = x) := hx
    rw [hx] at HLd HFin HLt HJ0
    clear hx
    obtain ⟨n, hn⟩ : ∃ n, ps.length = n := ⟨_, rfl⟩
    have HN : Hid (ps.length = n) := hn
    rw [hn] at c1 HFin HJ0 hps
    clear hn
    simp only [ExpV] at *
    simp only [List.append_toArray, List.cons_append, List.nil_append]
    go_enter Tryz.func68, Tryz.ntmps68
    go_upto_region 1 with fail
    rw [HW1.out]
    go_wp2
    go_loopw [13] (fun s13 wr => ∃ j : Nat, j ≤ n ∧ s13 = .int .i64 (j : Int) ∧ Hid (HgJ w (.slice (some ⟨g, 0, none⟩) n cap) ps x i B1 B5 Bh B4 Ba B7 #[.int .i64 k, .string b, .string c, .slice none 0 0] t ag X' A' j W wr)) (fun s13 _ => n - (intOf s13).toNat)
    case atStart => exact ⟨0, Nat.zero_le _, rfl, HJ0.out⟩
    case round =>
      obtain ⟨j, hj, rfl, HJ⟩ := hrel
      by_cases hlt : j < n
      · have hjp : j < ps.length := by have := HN.out; omega
        obtain ⟨y, hy⟩ : ∃ y, ps[j] = y := ⟨_, rfl⟩
        have cj : ∀ k, k < 10 → wr.cell? ⟨g, j * 10 + k, none⟩ = y.cells[k]? := fun k hk => by rw [HCell.out wr HJ.out.bel j hjp k hk, hy]
        have HL : Hid (ldV ps x t j = leadsV t x y) := by show _ = _; rw [HLt.out j hjp, hy]
        have hld := fun u => HLd.out u y
        generalize leadsV t x y = q at *
        clear hy HCell HLd HLt HX
        obtain ⟨yty, ynm, yblk, yset, yk, yb, yc, yp, yl, ycp, yrank, yline⟩ := y
        obtain ⟨xty, xnm, xblk, xset, xk, xb, xc, xp, xl, xcp, xrank, xline⟩ := x
        have d0 := cj 0 (by decide)
        have d1 := cj 1 (by decide)
        have d2 := cj 2 (by decide)
        have d3 := cj 3 (by decide)
        have d4 := cj 4 (by decide)
        have d5 := cj 5 (by decide)
        have d6 := cj 6 (by decide)
        have d7 := cj 7 (by decide)
        have d8 := cj 8 (by decide)
        have d9 := cj 9 (by decide)
        clear cj
        simp only [PV.cells, strV, List.getElem?_cons_zero, List.getElem?_cons_succ, Nat.add_zero] at d0 d1 d2 d3 d4 d5 d6 d7 d8 d9 hld
        obtain ⟨C10, hC10⟩ : ∃ C10 : Array Value, C10 = #[.string ⟨yty.toArray⟩, .string ⟨ynm.toArray⟩, .pointer (some ⟨yblk, 0, none⟩), .bool yset, .int .i64 yk, .string yb, .string yc, .slice yp yl ycp, .int .i64 yrank, .int .i64 yline] := ⟨_, rfl⟩
        obtain ⟨W2, hW2⟩ : ∃ W2, wr.alloc (.cells C10 109) = W2 := ⟨_, rfl⟩
        have hb2 : Below wr.heap.size wr W2 := by rw [← hW2]; exact (Below.refl _ _).alloc (Nat.le_refl _) _
        have hJ2 := HJ.out.below hb2
        have bN : BoxA W2 wr.heap.size 109 C10 := by rw [← hW2]; exact BoxA.new wr _ _
        rw [hC10] at hW2
        have HW2 : Hid _ := hW2
        clear hW2
        subst hC10
        have HJ2 : Hid _ := hJ2
        go_upto_region 4 with fail
        rw [HW2.out]
        clear d0 d1 d2 d3 d4 d5 d6 d7 d8 d9
        have f0 : W2.cell? ⟨B5, 0, none⟩ = some (.string ⟨xty.toArray⟩) := hJ2.b5.cell 0
        have f1 : W2.cell? ⟨B5, 1, none⟩ = some (.string ⟨xnm.toArray⟩) := hJ2.b5.cell 1
        have f2 : W2.cell? ⟨B5, 2, none⟩ = some (.pointer (some ⟨xblk, 0, none⟩)) := hJ2.b5.cell 2
        have f3 : W2.cell? ⟨B5, 3, none⟩ = some (.bool xset) := hJ2.b5.cell 3
        have f4 : W2.cell? ⟨B5, 4, none⟩ = some (.int .i64 xk) := hJ2.b5.cell 4
        have f5 : W2.cell? ⟨B5, 5, none⟩ = some (.string xb) := hJ2.b5.cell 5
        have f6 : W2.cell? ⟨B5, 6, none⟩ = some (.string xc) := hJ2.b5.cell 6
        have f7 : W2.cell? ⟨B5, 7, none⟩ = some (.slice xp xl xcp) := hJ2.b5.cell 7
        have f8 : W2.cell? ⟨B5, 8, none⟩ = some (.int .i64 xrank) := hJ2.b5.cell 8
        have f9 : W2.cell? ⟨B5, 9, none⟩ = some (.int .i64 xline) := hJ2.b5.cell 9
        have t0 : W2.cell? ⟨wr.heap.size, 0, none⟩ = some (.string ⟨yty.toArray⟩) := bN.cell 0
        have t1 : W2.cell? ⟨wr.heap.size, 1, none⟩ = some (.string ⟨ynm.toArray⟩) := bN.cell 1
        have t2 : W2.cell? ⟨wr.heap.size, 2, none⟩ = some (.pointer (some ⟨yblk, 0, none⟩)) := bN.cell 2
        have t3 : W2.cell? ⟨wr.heap.size, 3, none⟩ = some (.bool yset) := bN.cell 3
        have t4 : W2.cell? ⟨wr.heap.size, 4, none⟩ = some (.int .i64 yk) := bN.cell 4
        have t5 : W2.cell? ⟨wr.heap.size, 5, none⟩ = some (.string yb) := bN.cell 5
        have t6 : W2.cell? ⟨wr.heap.size, 6, none⟩ = some (.string yc) := bN.cell 6
        have t7 : W2.cell? ⟨wr.heap.size, 7, none⟩ = some (.slice yp yl ycp) := bN.cell 7
        have t8 : W2.cell? ⟨wr.heap.size, 8, none⟩ = some (.int .i64 yrank) := bN.cell 8
        have t9 : W2.cell? ⟨wr.heap.size, 9, none⟩ = some (.int .i64 yline) := bN.cell 9
        have e0 : W2.cell? ⟨B7, 0, none⟩ = some (.int .i64 k) := hJ2.b7.cell 0
        have e1 : W2.cell? ⟨B7, 1, none⟩ = some (.string b) := hJ2.b7.cell 1
        have e2 : W2.cell? ⟨B7, 2, none⟩ = some (.string c) := hJ2.b7.cell 2
        have e3 : W2.cell? ⟨B7, 3, none⟩ = some (.slice none 0 0) := hJ2.b7.cell 3
        clear hJ2 bN HJ
        have hld2 := hld W2
        clear hld
        generalize (⟨xty.toArray⟩ : ByteArray) = XT at *
        generalize (⟨xnm.toArray⟩ : ByteArray) = XN at *
        generalize (⟨yty.toArray⟩ : ByteArray) = YT at *
        generalize (⟨ynm.toArray⟩ : ByteArray) = YN at *
        cases q with
        | false =>
          go_wp2_with (go_at_call 69; refine hld2.mono ?_; rintro e w3 ⟨rfl, hb3⟩)
          go_roundw
          case rel => exact ⟨j + 1, by omega, by go_num, (HJ2.out.below hb3).skip HL.out⟩
          case measure => simp [intOf]; omega
        | true =>
          go_wp2_with fail
          refine hld2.mono ?_
          rintro e w3 ⟨rfl, hb3⟩
          have hJ3 := HJ2.out.below hb3
          have HJ3 : Hid _ := hJ3
          have g4 := hJ3.b4.cell
          have gh := hJ3.mh.cell i j hi36 (by omega)
          have gf := hJ3.mh.fr
          have w4b : ∀ v, (w3.setCell ⟨Bh, i * 36 + j, none⟩ v).cell? ⟨B4, 0, none⟩ = some (.int .i64 (i : Int)) := fun v => by rw [cell_set_far n4.1]; exact g4
          have w4a : ∀ v, (w3.setCell ⟨Bh, i * 36 + j, none⟩ v).cell? ⟨Ba, i * 36 + j, none⟩ = some (.bool (A' i j)) := fun v => by
            rw [cell_set_far (Ne.symm hne), hJ3.ma.cell i j hi36 (by omega)]; simp
          have w4f : ∀ v k, (w3.setCell ⟨Bh, i * 36 + j, none⟩ v).frozen? ⟨Ba, k, none⟩ = false := fun v k => by rw [World.frozen?_setCell]; exact hJ3.ma.fr k
          clear hJ3 f0 f1 f2 f3 f4 f5 f6 f7 f8 f9 t0 t1 t2 t3 t4 t5 t6 t7 t8 t9 e0 e1 e2 e3 hld2
          have hji : (j : Int) < 36 := by omega
          go_upto_region 6 with fail
          have h4b := w4b (.bool true)
          have h4a := w4a (.bool true)
          have h4f := w4f (.bool true)
          have HHit : Hid (∀ q, q = (A' i j || ag) → HgJ w (.slice (some ⟨g, 0, none⟩) n cap) ps ⟨xty, xnm, xblk, xset, xk, xb, xc, xp, xl, xcp, xrank, xline⟩ i B1 B5 Bh B4 Ba B7 #[.int .i64 k, .string b, .string c, .slice none 0 0] t ag X' A' (j + 1) W ((w3.setCell ⟨Bh, i * 36 + j, none⟩ (.bool true)).setCell ⟨Ba, i * 36 + j, none⟩ (.bool q))) := fun q hq => HJ3.out.hit HL.out hi36 (by omega) hne n1 n4 n5 n7 hwh hwa hq
          clear w4b w4a w4f HJ3 HJ2
          generalize w3.setCell ⟨Bh, i * 36 + j, none⟩ (.bool true) = w4 at *
          generalize A' i j = qa at *
          cases qa with
          | true =>
            go_region
            all_goals go_wp2
            all_goals go_roundw
            all_goals first | (refine ⟨j + 1, by omega, by go_num, ?_⟩; exact (HHit.out _ (by simp)).below ((Below.refl _ _).drew)) | (simp [intOf]; omega)
          | false =>
            go_region
            all_goals go_wp2
            all_goals go_roundw
            all_goals first | (refine ⟨j + 1, by omega, by go_num, ?_⟩; exact (HHit.out _ (by simp)).below ((Below.refl _ _).drew)) | (simp [intOf]; omega)
      · obtain rfl : j = n := by omega
        go_wp2
        go_end0
        have hf := HFin.out _ HJ.out
        rw [← HX.out, ← HN.out] at hf
        exact ⟨⟨_, rfl⟩, hf⟩
end Go.Proofs.YtlgodpadcilcaaaGreatDoor
namespace Go.Proofs.YtlgodpadcilcaaaGreatDoor
open Go.ChangeShapes Go.WideShapes Go.ChangeAt Go.RowKit Go.Shelf

/-- the tables behind the first k places -/
def tabX (ps : List PV) (exs : List Exp) (k a b : Nat) : Bool := decide (a < k) && (match ps[a]?, exs[a]? with | some x, some e => (e.flat false).any (fun p => ldV ps x p.1 b) | _, _ => false)
def tabY (ps : List PV) (exs : List Exp) (k a b : Nat) : Bool := decide (a < k) && (match ps[a]?, exs[a]? with | some x, some e => (e.flat false).any (fun p => p.2 && ldV ps x p.1 b) | _, _ => false)
theorem tabX_step (ps : List PV) (exs : List Exp) (k : Nat) (hk : k < ps.length) (he : k < exs.length) (a b : Nat) : tabH ps ps[k] k (tabX ps exs k) (exs[k].flat false) a b = tabX ps exs (k + 1) a b := by
  unfold tabH tabX
  by_cases e : a = k
  · subst e
    simp [List.getElem?_eq_getElem hk, List.getElem?_eq_getElem he]
  · have h1 : decide (a < k + 1) = decide (a < k) := by rw [decide_eq_decide]; omega
    simp [e, h1]
theorem tabY_step (ps : List PV) (exs : List Exp) (k : Nat) (hk : k < ps.length) (he : k < exs.length) (a b : Nat) : tabA ps ps[k] k (tabY ps exs k) (exs[k].flat false) a b = tabY ps exs (k + 1) a b := by
  unfold tabA tabY
  by_cases e : a = k
  · subst e
    simp [List.getElem?_eq_getElem hk, List.getElem?_eq_getElem he]
  · have h1 : decide (a < k + 1) = decide (a < k) := by rw [decide_eq_decide]; omega
    simp [e, h1]

def isOff : Value → Bool | .bool false => true | _ => false
theorem isOff_eq {v : Value} (h : isOff v = true) : v = .bool false := by
  unfold isOff at h
  split at h
  · rfl
  · cases h
theorem zeroArr_size : Tryz.zeroCells104.size = 1296 := by kernel_rfl
theorem zeroArr_all : Tryz.zeroCells104.toList.all isOff = true := by kernel_rfl
theorem Mat.zero {w : World} {b : Nat} (h : w.heap[b]? = some (.cells Tryz.zeroCells104 104)) : Mat w b (fun _ _ => false) := by
  have hs := zeroArr_size
  have ha := zeroArr_all
  generalize Tryz.zeroCells104 = c at *
  refine ⟨fun i j hi hj => ?_, fun k => ?_, c, h, hs⟩
  · have hlt : i * 36 + j < c.size := by omega
    have e : w.cell? ⟨b, i * 36 + j, none⟩ = c[i * 36 + j]? := by simp [World.cell?, h]
    rw [e, Array.getElem?_eq_getElem hlt]
    rw [List.all_eq_true] at ha
    exact congrArg some (isOff_eq (ha _ (by simp)))
  · simp [World.frozen?, h]

/-- a table, by value -/
def TabC (c : Array Value) (X : Nat → Nat → Bool) : Prop := c.size = 1296 ∧ ∀ i j, i < 36 → j < 36 → c[i * 36 + j]? = some (.bool (X i j))
theorem Mat.tab {w : World} {b : Nat} {X : Nat → Nat → Bool} (h : Mat w b X) : ∃ c, w.heap[b]? = some (.cells c 104) ∧ TabC c X := by
  obtain ⟨c, h1, h2⟩ := h.blk
  refine ⟨c, h1, h2, fun i j hi hj => ?_⟩
  have := h.cell i j hi hj
  have e : w.cell? ⟨b, i * 36 + j, none⟩ = c[i * 36 + j]? := by simp [World.cell?, h1]
  rw [← e]; exact this

theorem belowCells {B g : Nat} {a : World} (hg : B ≤ g) : ∀ (vs : List Value) (o : Nat) (w : World), Below B a w → Below B a (w.setCells g o vs)
  | [], _, _, h => h
  | v :: r, o, _, h => belowCells hg r (o + 1) _ (h.setCell (p := ⟨g, o, none⟩) hg v)
theorem sizeArr : (Tryz.prog.info? 104).map (·.size) = some 1296 := by kernel_rfl
theorem results_cell2 {fn : Func} {p q : Tmp} {t u : TypeId} (h : fn.results = #[.cell p t, .cell q u]) (tmps : Array Value) (P : Program) (w : World) :
    (results fn tmps).run P w = ((asAddr (tmps.getD p undef)).run P w).andThen fun a w₁ => ((loadVar t a).run P w₁).andThen fun v w₂ => ((asAddr (tmps.getD q undef)).run P w₂).andThen fun a' w₃ => ((loadVar u a').run P w₃).andThen fun v' w₄ => .ok (.tuple #[v, v']) w₄ := by
  simp only [results, h]
  simp [Sem.run_bind, Result.andThen]
theorem post_two {fn : Func} (hres : fn.results = #[.cell 2 104, .cell 3 104]) {R : Ending → World → Prop} {a : Act} {w : World} (B C : Nat) (L1 L2 : List Value) (hd : a.defers = [])
    (h2 : a.tmps.getD 2 undef = .pointer (some ⟨B, 0, none⟩)) (h3 : a.tmps.getD 3 undef = .pointer (some ⟨C, 0, none⟩)) (hl1 : L1.length = 1296) (hl2 : L2.length = 1296) (hc : w.rangeAt B 0 L1) (hc2 : w.rangeAt C 0 L2) (hR : R (.returned (.tuple #[.agg L1.toArray, .agg L2.toArray])) w) : bodyPost Tryz.prog fn R .ret a w := by
  refine bodyPost_ret (v := .tuple #[.agg L1.toArray, .agg L2.toArray]) ?_ hd hR
  rw [results_cell2 hres, h2, h3]
  simp only [asAddr, Sem.run_pure, Result.andThen]
  rw [run_loadVar_mid w B 0 104 L1 _ hc Tryz.underlying104 rfl (by rw [sizeArr, hl1])]
  simp only []
  rw [run_loadVar_mid w C 0 104 L2 _ hc2 Tryz.underlying104 rfl (by rw [sizeArr, hl2])]
theorem TabC.bool {c : Array Value} {X : Nat → Nat → Bool} (h : TabC c X) : ∀ v ∈ c.toList, ∃ b, v = .bool b := fun v hv => by
  obtain ⟨k, hk, rfl⟩ := List.getElem_of_mem hv
  have hk2 : k < 1296 := by have := h.1; simp at hk; omega
  have e := h.2 (k / 36) (k % 36) (by omega) (by omega)
  rw [show k / 36 * 36 + k % 36 = k by omega] at e
  refine ⟨X (k / 36) (k % 36), ?_⟩
  have e2 : c[k]? = some c.toList[k] := by rw [Array.getElem?_eq_getElem (by simpa using hk)]; simp
  rw [e2] at e
  exact Option.some.inj e

set_option maxRecDepth 100000 in
set_option maxHeartbeats 8000000 in
theorem hanging_any (v : Value) (ps : List PV) (exs : List Exp) (w : World) (hrow : w.ownsRow 0 109 10 v ps.length (ps.map PV.cells).flatten) (hps : ps.length ≤ 36) (hel : exs.length = ps.length)
    (hex : ∀ a (h : a < ps.length) (h' : a < exs.length), exs[a].sz ≤ 1000000 ∧ ERep (fun g => g < w.heap.size) w exs[a] (ExpV ps[a].k ps[a].b ps[a].c ps[a].p ps[a].l ps[a].cp)) :
    Calls Tryz.prog 39 #[v] w fun e w' => ∃ c1 c2, e = .returned (.tuple #[.agg c1, .agg c2]) ∧ TabC c1 (tabX ps exs ps.length) ∧ TabC c2 (tabY ps exs ps.length) ∧ Below w.heap.size w w' := by
  obtain ⟨va, vc, rfl, hform⟩ : ∃ a c, v = .slice a ps.length c ∧ ∀ q, a = some q → ∃ g, q = ⟨g, 0, none⟩ := by
    rcases hrow.2 with ⟨e, h0⟩ | ⟨g, cap', cur, e, _⟩
    · rw [h0]; exact ⟨_, _, e, fun q hq => by cases hq⟩
    · exact ⟨_, _, e, fun q hq => by cases hq; exact ⟨g, rfl⟩⟩
  have hnil : va = none → ps.length = 0 := fun e => by
    rcases hrow.2 with ⟨_, h0⟩ | ⟨g, cap', cur, e2, _⟩
    · exact h0
    · rw [e] at e2; cases e2
  obtain ⟨W0, hW0⟩ : ∃ W0, ((w.alloc (.cells #[.slice va ps.length vc] 100)).alloc (.cells Tryz.zeroCells104 104)).alloc (.cells Tryz.zeroCells104 104) = W0 := ⟨_, rfl⟩
  have hb0 : Below w.heap.size w W0 := by rw [← hW0]; exact (((Below.refl _ w).alloc (Nat.le_refl _) _).alloc (by simp) _).alloc (by simp; omega) _
  have hs0 : W0.heap.size = w.heap.size + 3 := by rw [← hW0]; simp
  have b1 : Boxed W0 w.heap.size 100 (.slice va ps.length vc) := by rw [← hW0]; exact ((Boxed.new w 100 _).alloc _).alloc _
  have mh : Mat W0 (w.heap.size + 1) (fun _ _ => false) := Mat.zero (by
    rw [← hW0]
    have h1 := heap_alloc_new (w.alloc (.cells #[.slice va ps.length vc] 100)) (.cells Tryz.zeroCells104 104)
    simp only [World.size_alloc] at h1
    rw [Below.heap_alloc _ _ _ (by simp)]
    exact h1)
  have ma : Mat W0 (w.heap.size + 1 + 1) (fun _ _ => false) := Mat.zero (by
    rw [← hW0]
    have h1 := heap_alloc_new ((w.alloc (.cells #[.slice va ps.length vc] 100)).alloc (.cells Tryz.zeroCells104 104)) (.cells Tryz.zeroCells104 104)
    simp only [World.size_alloc] at h1
    exact h1)
  have HW0 : Hid _ := hW0
  have c1 := b1.cell
  clear hW0
  have HInit : Hid (Below w.heap.size w W0 ∧ Boxed W0 w.heap.size 100 (.slice va ps.length vc) ∧ Mat W0 (w.heap.size + 1) (tabX ps exs 0) ∧ Mat W0 (w.heap.size + 1 + 1) (tabY ps exs 0)) := ⟨hb0, b1, mh.congr (fun a b _ _ => by simp [tabX]), ma.congr (fun a b _ _ => by simp [tabY])⟩
  clear hb0 b1 mh ma
  obtain ⟨n, hn⟩ : ∃ n, ps.length = n := ⟨_, rfl⟩
  have HN : Hid (ps.length = n) := hn
  have HRow : Hid _ := hrow
  have HEx : Hid _ := hex
  clear hrow hex
  rw [hn] at c1 hnil hps ⊢
  have HW0' : Hid (((w.alloc (.cells #[.slice va n vc] 100)).alloc (.cells Tryz.zeroCells104 104)).alloc (.cells Tryz.zeroCells104 104) = W0) := by
    show _ = _; rw [← hn]; exact HW0.out
  clear HW0 hn
  go_enter Tryz.func39, Tryz.ntmps39
  go_upto_region 1 with fail
  rw [HW0'.out]
  go_wp2
  go_loopw [8] (fun s8 wr => ∃ k : Nat, k ≤ n ∧ s8 = .int .i64 (k : Int) ∧ Hid (Below w.heap.size w wr ∧ Boxed wr w.heap.size 100 (.slice va ps.length vc) ∧ Mat wr (w.heap.size + 1) (tabX ps exs k) ∧ Mat wr (w.heap.size + 1 + 1) (tabY ps exs k))) (fun s8 _ => n - (intOf s8).toNat)
  case atStart => exact ⟨0, Nat.zero_le _, rfl, HInit.out⟩
  case round =>
    obtain ⟨k, hk, rfl, HI⟩ := hrel
    by_cases hlt : k < n
    · have hkp : k < ps.length := by have := HN.out; omega
      have hke : k < exs.length := by omega
      obtain ⟨g, rfl⟩ : ∃ g, va = some ⟨g, 0, none⟩ := by
        cases va with
        | none => have := hnil rfl; omega
        | some a => obtain ⟨g, rfl⟩ := hform a rfl; exact ⟨g, rfl⟩
      obtain ⟨hbw, hb1, hmh, hma⟩ := HI.out
      have hrow' : w.ownsRow 0 109 10 (.slice (some ⟨g, 0, none⟩) ps.length vc) ps.length (ps.map PV.cells).flatten := HRow.out
      have hg : g < w.heap.size := (hrow'.lt g rfl).2
      have cj : ∀ q, q < 10 → wr.cell? ⟨g, k * 10 + q, none⟩ = ps[k].cells[q]? := fun q hq => by
        rw [hbw.cell (p := ⟨g, k * 10 + q, none⟩) hg]; exact RowPV.cell hrow' k hkp q hq
      obtain ⟨hsz, hE⟩ := HEx.out k hkp hke
      have hsw := hbw.size
      have hml := hma.lt
      obtain ⟨W2, hW2⟩ : ∃ W2, (wr.alloc (.cells #[.int .i64 (k : Int)] 3)).alloc (.cells ps[k].cells.toArray 109) = W2 := ⟨_, rfl⟩
      have hb2 : Below wr.heap.size wr W2 := by rw [← hW2]; exact ((Below.refl _ wr).alloc (Nat.le_refl _) _).alloc (by simp) _
      have hbw2 : Below w.heap.size w W2 := hbw.trans (hb2.mono hsw)
      have hI0 : HgI w (.slice (some ⟨g, 0, none⟩) ps.length vc) ps ps[k] k w.heap.size (wr.heap.size + 1) (w.heap.size + 1) wr.heap.size (w.heap.size + 1 + 1) (tabX ps exs k) (tabY ps exs k) [] W2 := by
        refine ⟨hbw2, boxed_below hb1 hb2, ?_, ?_, (hmh.below hb2).congr (fun a b _ _ => by simp [tabH]), (hma.below hb2).congr (fun a b _ _ => by simp [tabA])⟩
        · rw [← hW2]; exact (Boxed.new wr 3 _).alloc _
        · rw [← hW2]
          have := BoxA.new (wr.alloc (.cells #[.int .i64 (k : Int)] 3)) 109 ps[k].cells.toArray
          simpa using this
      have hv := hanging1_visits w g vc ps k w.heap.size (wr.heap.size + 1) (w.heap.size + 1) wr.heap.size (w.heap.size + 1 + 1) (tabX ps exs k) (tabY ps exs k) hrow' (by have := HN.out; omega) hkp (by omega) ⟨by omega, by omega⟩ ⟨by omega, by omega⟩ ⟨by omega, by omega⟩ (by omega) (by omega)
      have hX := eachTerm_any 68 (enters_of Tryz.func68 (by kernel_rfl) rfl) _ [w.heap.size + 1, w.heap.size + 1 + 1] _ hv exs[k] (ExpV ps[k].k ps[k].b ps[k].c ps[k].p ps[k].l ps[k].cp) W2 hsz
        (fun q hq => by have := hb2.size; simp at hq; omega) (hE.mono (fun q hq => ⟨by have := hbw2.size; omega, by simp; omega⟩) (fun q hq => hbw2.block q hq)) hI0
      have b5 := hI0.b5
      have HStep : Hid (∀ W', HgI w (.slice (some ⟨g, 0, none⟩) ps.length vc) ps ps[k] k w.heap.size (wr.heap.size + 1) (w.heap.size + 1) wr.heap.size (w.heap.size + 1 + 1) (tabX ps exs k) (tabY ps exs k) (exs[k].flat false) W' → Below w.heap.size w W' ∧ Boxed W' w.heap.size 100 (.slice (some ⟨g, 0, none⟩) ps.length vc) ∧ Mat W' (w.heap.size + 1) (tabX ps exs (k + 1)) ∧ Mat W' (w.heap.size + 1 + 1) (tabY ps exs (k + 1))) := fun W' h =>
        ⟨h.bel, h.b1, h.mh.congr (fun a b _ _ => tabX_step ps exs k hkp hke a b), h.ma.congr (fun a b _ _ => tabY_step ps exs k hkp hke a b)⟩
      clear hv hI0 hE hb1 hmh hma HI HRow HEx hbw hb2 hrow'
      have HW2 : Hid _ := hW2
      clear hW2
      generalize ps[k] = y at *
      obtain ⟨yty, ynm, yblk, yset, yk, yb, yc, yp, yl, ycp, yrank, yline⟩ := y
      have d0 := cj 0 (by decide)
      have d1 := cj 1 (by decide)
      have d2 := cj 2 (by decide)
      have d3 := cj 3 (by decide)
      have d4 := cj 4 (by decide)
      have d5 := cj 5 (by decide)
      have d6 := cj 6 (by decide)
      have d7 := cj 7 (by decide)
      have d8 := cj 8 (by decide)
      have d9 := cj 9 (by decide)
      clear cj
      simp only [PV.cells, strV, List.getElem?_cons_zero, List.getElem?_cons_succ, Nat.add_zero] at d0 d1 d2 d3 d4 d5 d6 d7 d8 d9 HW2
      have e4 : W2.cell? ⟨wr.heap.size + 1, 4, none⟩ = some (.int .i64 yk) := b5.cell 4
      have e5 : W2.cell? ⟨wr.heap.size + 1, 5, none⟩ = some (.string yb) := b5.cell 5
      have e6 : W2.cell? ⟨wr.heap.size + 1, 6, none⟩ = some (.string yc) := b5.cell 6
      have e7 : W2.cell? ⟨wr.heap.size + 1, 7, none⟩ = some (.slice yp yl ycp) := b5.cell 7
      simp only [ExpV] at hX
      clear b5
      go_upto_region 4 with fail
      rw [HW2.out]
      go_wp2_with (go_at_call 35; refine hX.mono ?_; rintro e w' ⟨⟨v2, rfl⟩, h1, h2⟩)
      go_roundw
      case rel => exact ⟨k + 1, by omega, by go_num, HStep.out _ h1⟩
      case measure => simp [intOf]; omega
    · obtain rfl : k = n := by omega
      obtain ⟨hbw, hb1, hmh, hma⟩ := HI.out
      obtain ⟨t1, hh1, ht1⟩ := hmh.tab
      obtain ⟨t2, hh2, ht2⟩ := hma.tab
      obtain ⟨L1, hL1⟩ : ∃ L1, t1.toList = L1 := ⟨_, rfl⟩
      obtain ⟨L2, hL2⟩ : ∃ L2, t2.toList = L2 := ⟨_, rfl⟩
      have hl1 : L1.length = 1296 := by rw [← hL1]; simpa using ht1.1
      have hl2 : L2.length = 1296 := by rw [← hL2]; simpa using ht2.1
      have o1 : ∀ v ∈ L1, v.oneCell' = true := fun v hv => by rw [← hL1] at hv; obtain ⟨b, rfl⟩ := ht1.bool v hv; rfl
      have o2 : ∀ v ∈ L2, v.oneCell' = true := fun v hv => by rw [← hL2] at hv; obtain ⟨b, rfl⟩ := ht2.bool v hv; rfl
      have r1 : wr.rangeAt (w.heap.size + 1) 0 L1 := fun j v hv => by
        rw [← hL1] at hv
        rw [Nat.zero_add]
        simp [World.cell?, hh1]
        simpa using hv
      have r2 : wr.rangeAt (w.heap.size + 1 + 1) 0 L2 := fun j v hv => by
        rw [← hL2] at hv
        rw [Nat.zero_add]
        simp [World.cell?, hh2]
        simpa using hv
      have q1 : wr.there (w.heap.size + 1) 0 1296 := fun j hj => ⟨r1.isSome j (by omega), by rw [Nat.zero_add]; exact hmh.fr j⟩
      have q2 : wr.there (w.heap.size + 1 + 1) 0 1296 := fun j hj => ⟨r2.isSome j (by omega), by rw [Nat.zero_add]; exact hma.fr j⟩
      have hu := Tryz.underlying104
      have z1 : (Tryz.prog.info? 104).map (·.size) = some L1.length := by rw [sizeArr, hl1]
      have z2 : (Tryz.prog.info? 104).map (·.size) = some L2.length := by rw [sizeArr, hl2]
      have HT1 : Hid (TabC L1.toArray (tabX ps exs ps.length)) := by show TabC _ _; rw [← hL1, HN.out]; simpa using ht1
      have HT2 : Hid (TabC L2.toArray (tabY ps exs ps.length)) := by show TabC _ _; rw [← hL2, HN.out]; simpa using ht2
      have HBw : Hid _ := hbw
      clear hh1 hh2 ht1 ht2 hL1 hL2 hmh hma hb1 hbw HI HRow HEx HInit
      go_wp2
      have hS0 : (wr.drew.rangeAt (w.heap.size + 1) 0 L1 ∧ wr.drew.rangeAt (w.heap.size + 1 + 1) 0 L2) ∧ (wr.drew.there (w.heap.size + 1) 0 1296 ∧ wr.drew.there (w.heap.size + 1 + 1) 0 1296) :=
        ⟨⟨(World.rangeAt_drew _ _ _ _).2 r1, (World.rangeAt_drew _ _ _ _).2 r2⟩, (World.there_drew _ _ _ _).2 q1, (World.there_drew _ _ _ _).2 q2⟩
      refine wp_region_held_drew (S := fun u => (u.rangeAt (w.heap.size + 1) 0 L1 ∧ u.rangeAt (w.heap.size + 1 + 1) 0 L2) ∧ (u.there (w.heap.size + 1) 0 1296 ∧ u.there (w.heap.size + 1 + 1) 0 1296)) (by kernel_rfl) hS0 (fun hS => ?_)
      refine wpAnyH_take (i := 0) (v := .agg L1.toArray) rfl (by kernel_rfl) (by kernel_rfl) (by kernel_rfl) (fun _ _ _ h => h) (yieldsIf_load_mid (by rfl) _ _ rfl (w.heap.size + 1) 0 rfl L1 _ (fun u hu => hu.1.1) hu rfl z1) hS ?_
      refine wpAnyH_take (i := 1) (v := .agg L2.toArray) rfl (by kernel_rfl) (by kernel_rfl) (by kernel_rfl) (fun _ _ _ h => h) (yieldsIf_load_mid (by rfl) _ _ rfl (w.heap.size + 1 + 1) 0 rfl L2 _ (fun u hu => hu.1.2) hu rfl z2) hS ?_
      refine wpAnyH_ready (rs := [2]) (by kernel_rfl) (by simp) ?_
      refine AllReadyH.cons rfl (fun K' hK => ?_) AllReadyH.nil
      rw [if_pos (by rfl)]
      refine wp_store_mid 104 _ _ rfl (w.heap.size + 1) 0 L1.toArray rfl rfl (by simpa [hl1] using hS.2.1) (by simpa using z1) (all_oneCell_toArray o1) ?_
      have hS1 : ((wr.drew.setCells (w.heap.size + 1) 0 L1).rangeAt (w.heap.size + 1) 0 L1 ∧ (wr.drew.setCells (w.heap.size + 1) 0 L1).rangeAt (w.heap.size + 1 + 1) 0 L2) ∧ ((wr.drew.setCells (w.heap.size + 1) 0 L1).there (w.heap.size + 1) 0 1296 ∧ (wr.drew.setCells (w.heap.size + 1) 0 L1).there (w.heap.size + 1 + 1) 0 1296) :=
        ⟨⟨World.rangeAt_setCells_same _ _ _ _ (by rw [hl1]; exact hS.2.1), World.rangeAt_setCells_apart hS.1.2 _ _ _ (by omega)⟩, World.there_setCells hS.2.1 _ _ _, World.there_setCells hS.2.2 _ _ _⟩
      refine hK.out _ _ hS1 (fun _ => ?_)
      refine wpAnyH_ready (rs := [3]) (by kernel_rfl) (by simp) ?_
      refine AllReadyH.cons rfl (fun K' hK => ?_) AllReadyH.nil
      rw [if_pos (by rfl)]
      refine wp_store_mid 104 _ _ rfl (w.heap.size + 1 + 1) 0 L2.toArray rfl rfl (by simpa [hl2] using hS1.2.2) (by simpa using z2) (all_oneCell_toArray o2) ?_
      have hS2 : (((wr.drew.setCells (w.heap.size + 1) 0 L1).setCells (w.heap.size + 1 + 1) 0 L2).rangeAt (w.heap.size + 1) 0 L1 ∧ ((wr.drew.setCells (w.heap.size + 1) 0 L1).setCells (w.heap.size + 1 + 1) 0 L2).rangeAt (w.heap.size + 1 + 1) 0 L2) ∧ (((wr.drew.setCells (w.heap.size + 1) 0 L1).setCells (w.heap.size + 1 + 1) 0 L2).there (w.heap.size + 1) 0 1296 ∧ ((wr.drew.setCells (w.heap.size + 1) 0 L1).setCells (w.heap.size + 1 + 1) 0 L2).there (w.heap.size + 1 + 1) 0 1296) :=
        ⟨⟨World.rangeAt_setCells_apart hS1.1.1 _ _ _ (by omega), World.rangeAt_setCells_same _ _ _ _ (by rw [hl2]; exact hS1.2.2)⟩, World.there_setCells hS1.2.1 _ _ _, World.there_setCells hS1.2.2 _ _ _⟩
      refine hK.out _ _ hS2 (fun _ => ?_)
      refine wpAnyH_done (by kernel_rfl) ?_ _
      go_wp2
      have h1 := HT1.out
      have h2 := HT2.out
      rw [HN.out] at h1 h2
      exact post_two rfl (w.heap.size + 1) (w.heap.size + 1 + 1) L1 L2 rfl rfl rfl hl1 hl2 hS2.1.1 hS2.1.2 ⟨_, _, rfl, h1, h2, belowCells (by omega) _ _ _ (belowCells (by omega) _ _ _ (HBw.out.trans ((Below.refl _ _).drew)))⟩
end Go.Proofs.YtlgodpadcilcaaaGreatDoor
namespace Go.Proofs.YtlgodpadcilcaaaGreatDoor
open Go.ChangeShapes Go.WideShapes Go.ChangeAt Go.RowKit Go.Shelf

theorem sizeRow36 : (Tryz.prog.info? 102).map (·.size) = some 36 := by kernel_rfl
/-- row i of a table -/
def rowC (c : Array Value) (i : Nat) : List Value := (c.toList.drop (i * 36)).take 36
theorem rowC_len {c : Array Value} {X : Nat → Nat → Bool} (h : TabC c X) {i : Nat} (hi : i < 36) : (rowC c i).length = 36 := by
  have := h.1
  simp [rowC]; omega
theorem rowC_at {c : Array Value} {X : Nat → Nat → Bool} (h : TabC c X) {i j : Nat} (hi : i < 36) (hj : j < 36) : (rowC c i)[j]? = some (.bool (X i j)) := by
  unfold rowC
  rw [List.getElem?_take_of_lt hj, List.getElem?_drop]
  have := h.2 i j hi hj
  simpa using this
theorem range_row {w : World} {b : Nat} {c : Array Value} (h : w.heap[b]? = some (.cells c 104)) (i : Nat) : w.rangeAt b (i * 36) (rowC c i) := fun j v hv => by
  unfold rowC at hv
  have hj : j < 36 := by
    have h1 := (List.getElem?_eq_some_iff.1 hv).1
    rw [List.length_take] at h1; omega
  rw [List.getElem?_take_of_lt hj, List.getElem?_drop] at hv
  simp [World.cell?, h]
  simpa using hv

theorem index_row (row : List Value) (j : Nat) (hj : j < 36) (q : Bool) (h : row.toArray[j]? = some (.bool q)) (W : World) : (Instr.index 102 (.agg row.toArray) (.int .i64 (j : Int))).run Tryz.prog W = .ok (.bool q) W := by
  have h' : row[j]? = some (.bool q) := by simpa using h
  unfold Instr.index
  simp [go_sem, Sem.run_bind, hj, h']

/-- what leadBack answers -/
def LbAns (A X : Nat → Nat → Bool) (e : Ending) : Prop := ∃ q : Bool, e = .returned (.bool q) ∧ (q = true ↔ ∃ i, i < 36 ∧ ∃ j, j < 36 ∧ A i j = true ∧ X j i = true)

set_option maxRecDepth 100000 in
set_option maxHeartbeats 4000000 in
theorem leadBack_any (Bh : Nat) (c2 : Array Value) (X A : Nat → Nat → Bool) (w : World) (hM : Mat w Bh X) (hT : TabC c2 A) :
    Calls Tryz.prog 41 #[.pointer (some ⟨Bh, 0, none⟩), .agg c2] w fun e w' => LbAns A X e ∧ Below w.heap.size w w' := by
  obtain ⟨W, hW⟩ : ∃ W, w.alloc (.cells c2 104) = W := ⟨_, rfl⟩
  have hb : Below w.heap.size w W := by rw [← hW]; exact (Below.refl _ _).alloc (Nat.le_refl _) _
  have hblk : W.heap[w.heap.size]? = some (.cells c2 104) := by rw [← hW]; exact heap_alloc_new w _
  have hM2 := hM.below hb
  have HRg : Hid (∀ i, W.rangeAt w.heap.size (i * 36) (rowC c2 i)) := fun i => range_row hblk i
  have HW : Hid _ := hW
  have HB : Hid _ := hb
  have HM : Hid _ := hM2
  have HT : Hid _ := hT
  clear hW hb hblk hM hM2 hT
  go_enter Tryz.func41, Tryz.ntmps41
  go_wp2
  rw [HW.out]
  go_loop [8] (fun s8 => ∃ i : Nat, i ≤ 36 ∧ s8 = .int .i64 (i : Int) ∧ Hid (∀ a, a < i → ∀ b, b < 36 → ¬ (A a b = true ∧ X b a = true))) (fun s8 => 36 - (intOf s8).toNat)
  case atStart => exact ⟨0, by omega, rfl, fun a ha => by omega⟩
  case round =>
    obtain ⟨i, hi, rfl, HN⟩ := hrel
    by_cases hi6 : i < 36
    · have hrg := HRg.out i
      have hz : (Tryz.prog.info? 102).map (·.size) = some (rowC c2 i).length := by rw [sizeRow36, rowC_len HT.out hi6]
      have HRow : Hid (∀ j, j < 36 → (rowC c2 i)[j]? = some (.bool (A i j))) := fun j hj => rowC_at HT.out hi6 hj
      have hrl : (rowC c2 i).length = 36 := rowC_len HT.out hi6
      have hii : (i : Int) < 36 := by omega
      generalize rowC c2 i = row at *
      have HZ : Hid _ := hz
      have HG : Hid _ := hrg
      clear hz hrg
      go_wp2_with (refine wpList_load_mid rfl 102 (.tmp 12) rfl w.heap.size (i * 36) rfl row _ HG.out Tryz.underlying102 rfl HZ.out ?_)
      go_loop [14] (fun s14 => ∃ j : Nat, j ≤ 36 ∧ s14 = .int .i64 (j : Int) ∧ Hid (∀ b, b < j → ¬ (A i b = true ∧ X b i = true))) (fun s14 => 36 - (intOf s14).toNat)
      case atStart => exact ⟨0, by omega, rfl, fun b hb => by omega⟩
      case round =>
        obtain ⟨j, hj, rfl, HN2⟩ := hrel
        by_cases hj6 : j < 36
        · have hr := HRow.out j hj6
          have hr2 : row.toArray[j]? = some (.bool (A i j)) := by simpa using hr
          have cx := HM.out.cell j i hj6 hi6
          have hji : (j : Int) < 36 := by omega
          have hr3 := index_row row j hj6 (A i j) hr2 W
          have HEq : Hid (∀ q1 q2, q1 = A i j → q2 = X j i → q1 = true → q2 = true → LbAns A X (.returned (.bool true))) := fun q1 q2 h1 h2 h3 h4 => ⟨true, rfl, ⟨fun _ => ⟨i, hi6, j, hj6, by rw [← h1]; exact h3, by rw [← h2]; exact h4⟩, fun _ => rfl⟩⟩
          have HNx : Hid (∀ q1 q2, q1 = A i j → q2 = X j i → ¬ (q1 = true ∧ q2 = true) → ∀ b, b < j + 1 → ¬ (A i b = true ∧ X b i = true)) := fun q1 q2 h1 h2 h3 b hb => by
            by_cases e : b = j
            · subst e; rw [← h1, ← h2]; exact h3
            · exact HN2.out b (by omega)
          obtain ⟨q1, hq1⟩ : ∃ q1, A i j = q1 := ⟨_, rfl⟩
          obtain ⟨q2, hq2⟩ : ∃ q2, X j i = q2 := ⟨_, rfl⟩
          have HQ1 : Hid (A i j = q1) := hq1
          have HQ2 : Hid (X j i = q2) := hq2
          rw [hq1] at hr3
          clear hr hr2
          rw [hq2] at cx
          clear hq1 hq2 HN2
          cases q1 with
          | true =>
            cases q2 with
            | true =>
              go_wp2
              go_ret
              exact ⟨HEq.out true true HQ1.out.symm HQ2.out.symm rfl rfl, HB.out⟩
            | false =>
              go_wp2
              go_round
              case rel => exact ⟨j + 1, by omega, by go_num, HNx.out true false HQ1.out.symm HQ2.out.symm (by simp)⟩
              case measure => simp [intOf]; omega
          | false =>
            go_wp2
            go_round
            case rel => exact ⟨j + 1, by omega, by go_num, HNx.out false q2 HQ1.out.symm HQ2.out.symm (by simp)⟩
            case measure => simp [intOf]; omega
        · obtain rfl : j = 36 := by omega
          go_wp2
          go_round
          case rel => exact ⟨i + 1, by omega, by go_num, fun a ha b hb => by
            by_cases e : a = i
            · subst e; exact HN2.out b hb
            · exact HN.out a (by omega) b hb⟩
          case measure => simp [intOf]; omega
    · obtain rfl : i = 36 := by omega
      go_wp2
      go_ret
      exact ⟨⟨false, rfl, ⟨fun h => (by cases h), fun ⟨a, ha, b, hb, h1, h2⟩ => absurd ⟨h1, h2⟩ (HN.out a ha b hb)⟩⟩, HB.out⟩
end Go.Proofs.YtlgodpadcilcaaaGreatDoor
namespace Go.Proofs.YtlgodpadcilcaaaGreatDoor
open Go.ChangeShapes Go.WideShapes Go.ChangeAt Go.RowKit Go.Shelf

def RcAns (e : Ending) : Prop := ∃ r : Nat, e = .returned (.int .i64 (r : Int))

set_option maxRecDepth 100000 in
set_option maxHeartbeats 4000000 in
theorem reach_any (Bh i : Nat) (X : Nat → Nat → Bool) (w : World) (hM : Mat w Bh X) (hi : i < 36) :
    Calls Tryz.prog 42 #[.pointer (some ⟨Bh, 0, none⟩), .int .i64 (i : Int)] w fun e w' => RcAns e ∧ w' = w := by
  obtain ⟨c, hblk, hT⟩ := hM.tab
  have hrg := range_row hblk i
  have hz : (Tryz.prog.info? 102).map (·.size) = some (rowC c i).length := by rw [sizeRow36, rowC_len hT hi]
  have HIx : Hid (∀ j : Nat, j < 36 → (Instr.index 102 (.agg (rowC c i).toArray) (.int .i64 (j : Int))).run Tryz.prog w = .ok (.bool (X i j)) w) := fun j hj => index_row _ j hj _ (by simpa using rowC_at hT hi hj) w
  have HZ : Hid _ := hz
  have HG : Hid _ := hrg
  have hii : (i : Int) < 36 := by omega
  clear hz hrg hT hM hblk
  generalize rowC c i = row at *
  go_enter Tryz.func42, Tryz.ntmps42
  go_wp2_with (refine wpList_load_mid rfl 102 (.tmp 11) rfl Bh (i * 36) rfl row _ HG.out Tryz.underlying102 rfl HZ.out ?_)
  go_loop [5, 13] (fun s5 s13 => ∃ j r : Nat, j ≤ 36 ∧ s13 = .int .i64 (j : Int) ∧ s5 = .int .i64 (r : Int) ∧ r ≤ j + 1) (fun _ s13 => 36 - (intOf s13).toNat)
  case atStart => exact ⟨0, 1, by omega, rfl, rfl, by omega⟩
  case round =>
    obtain ⟨j, r, hj, rfl, rfl, hr⟩ := hrel
    by_cases hj6 : j < 36
    · have hx := HIx.out j hj6
      generalize X i j = q at *
      have hji : (j : Int) < 36 := by omega
      cases q with
      | true =>
        by_cases hji2 : j = i
        · subst hji2
          go_wp2
          go_round
          case rel => exact ⟨j + 1, r, by omega, by go_num, rfl, by omega⟩
          case measure => simp [intOf]; omega
        · have hq : ¬ (j : Int) = (i : Int) := by omega
          go_wp2
          go_round
          case rel => exact ⟨j + 1, r + 1, by omega, by go_num, by go_num, by omega⟩
          case measure => simp [intOf]; omega
      | false =>
        go_wp2
        go_round
        case rel => exact ⟨j + 1, r, by omega, by go_num, rfl, by omega⟩
        case measure => simp [intOf]; omega
    · obtain rfl : j = 36 := by omega
      go_wp2
      go_ret
      exact ⟨⟨r, rfl⟩, rfl⟩
end Go.Proofs.YtlgodpadcilcaaaGreatDoor
namespace Go.Proofs.YtlgodpadcilcaaaGreatDoor
open Go.ChangeShapes Go.WideShapes Go.ChangeAt Go.RowKit Go.Shelf

/-- a row out of its cells -/
theorem owns_of_cells {w w' : World} {g cap n t sz : Nat} {xs xs' : List Value} (h : w.ownsRow 0 t sz (.slice (some ⟨g, 0, none⟩) n cap) n xs) (hb : ∃ c, w'.heap[g]? = some (.cells c t) ∧ c.size = cap * sz) (hl : xs'.length = n * sz) (hc : ∀ k, k < n * sz → w'.cell? ⟨g, k, none⟩ = xs'[k]?) : w'.ownsRow 0 t sz (.slice (some ⟨g, 0, none⟩) n cap) n xs' := by
  obtain ⟨c, hc1, hc2⟩ := hb
  rcases h.2 with ⟨e, _⟩ | ⟨g', cap', cur, e, h4, h5, h6, h7, h8, h9⟩
  · cases e
  · cases e
    refine ⟨hl, .inr ⟨g, cap, c, rfl, h4, hc1, h6, h7, hc2, ?_⟩⟩
    have hle : n * sz ≤ c.size := by rw [hc2]; exact Nat.mul_le_mul_right _ h6
    refine List.ext_getElem? (fun k => ?_)
    by_cases hk : k < n * sz
    · rw [List.getElem?_take_of_lt hk, ← hc k hk]
      simp [World.cell?, hc1]
    · rw [List.getElem?_eq_none (by rw [List.length_take]; simp; omega), List.getElem?_eq_none (by omega)]
theorem setCells_blk {b : Nat} {t : TypeId} : ∀ (vs : List Value) (o : Nat) (w : World) (c : Array Value), w.heap[b]? = some (.cells c t) → ∃ c', (w.setCells b o vs).heap[b]? = some (.cells c' t) ∧ c'.size = c.size
  | [], _, _, c, h => ⟨c, h, rfl⟩
  | v :: r, o, w, c, h => by
    obtain ⟨c', h1, h2⟩ := setCells_blk r (o + 1) (w.setCell ⟨b, o, none⟩ v) _ (blk_set h o v)
    exact ⟨c', h1, by rw [h2]; simp⟩
theorem setCells_far {b k : Nat} (hk : k ≠ b) : ∀ (vs : List Value) (o : Nat) (w : World), (w.setCells b o vs).heap[k]? = w.heap[k]?
  | [], _, _ => rfl
  | _ :: r, o, _ => (setCells_far hk r (o + 1) _).trans (Below.heap_setCell _ _ _ _ hk)
theorem setCells_size {b : Nat} : ∀ (vs : List Value) (o : Nat) (w : World), (w.setCells b o vs).heap.size = w.heap.size
  | [], _, _ => rfl
  | _ :: r, o, _ => (setCells_size r (o + 1) _).trans (by simp)

/-- an entry's relation put in its place -/
theorem RowR.put {w : World} {g cap : Nat} {es : List RV} (h : RowR w (.slice (some ⟨g, 0, none⟩) es.length cap) es) (p : Nat) (hp : p < es.length) (y : RV) (hy : y.key = es[p].key) : RowR (w.setCells g (p * 8 + 1) y.cells.tail) (.slice (some ⟨g, 0, none⟩) (es.set p y).length cap) (es.set p y) := by
  have htl : y.cells.tail.length = 7 := rfl
  have hsome : ∀ j, j < y.cells.tail.length → (w.cell? ⟨g, p * 8 + 1 + j, none⟩).isSome = true := fun j hj => by
    rw [htl] at hj
    have h1 := h.cell p hp (1 + j) (by omega)
    rw [show p * 8 + 1 + j = p * 8 + (1 + j) by omega, h1]
    rw [List.getElem?_eq_getElem (by show 1 + j < 8; omega)]
    rfl
  have hcl : ∀ k, k < es.length * 8 → (w.setCells g (p * 8 + 1) y.cells.tail).cell? ⟨g, k, none⟩ = (((es.set p y).map RV.cells).flatten)[k]? := fun k hk => by
    have hj : k / 8 < es.length := by omega
    have e : ((es.set p y).map RV.cells).flatten[k]? = ((es.set p y)[k / 8]'(by simpa using hj)).cells[k % 8]? := by
      have h1 := flattenK 8 ((es.set p y).map RV.cells) (fun cs hcs => by obtain ⟨x, _, rfl⟩ := List.mem_map.1 hcs; rfl) (k / 8) (by simpa using hj) (k % 8) (by omega)
      rw [show 8 * (k / 8) + k % 8 = k by omega] at h1
      rw [h1, List.getElem_map]
    rw [e, List.getElem_set]
    by_cases hjp : p = k / 8
    · rw [if_pos hjp]
      by_cases h0 : k % 8 = 0
      · rw [World.cell?_setCells_out _ _ _ _ _ (fun _ _ => .inl (by show k < _; omega)), h0]
        have h1 := h.cell p hp 0 (by decide)
        rw [show p * 8 + 0 = k by omega] at h1
        rw [h1]
        show some (strV es[p].key) = some (strV y.key)
        rw [hy]
      · obtain ⟨m, hm⟩ : ∃ m, k % 8 = m + 1 := ⟨k % 8 - 1, by omega⟩
        have hm7 : m < y.cells.tail.length := by rw [htl]; omega
        have h1 := World.cell?_setCells_in g y.cells.tail (p * 8 + 1) w hsome m hm7
        rw [show p * 8 + 1 + m = k by omega] at h1
        rw [h1, hm, List.getElem_tail, List.getElem?_eq_getElem]
    · rw [if_neg hjp, World.cell?_setCells_out _ _ _ _ _ (fun _ _ => by show k < _ ∨ _ ≤ k; rw [htl]; omega)]
      have h1 := h.cell (k / 8) hj (k % 8) (by omega)
      rw [show k / 8 * 8 + k % 8 = k by omega] at h1
      exact h1
  have hcur : ∃ c, w.heap[g]? = some (.cells c 146) ∧ c.size = cap * 8 := by
    rcases h.2 with ⟨e, _⟩ | ⟨g', cap', cur, e, h4, h5, h6, h7, h8, h9⟩
    · cases e
    · cases e; exact ⟨cur, h5, h8⟩
  obtain ⟨c, hc1, hc2⟩ := hcur
  obtain ⟨c', hc3, hc4⟩ := setCells_blk y.cells.tail (p * 8 + 1) w c hc1
  unfold RowR
  rw [List.length_set]
  refine owns_of_cells h ⟨c', hc3, by rw [hc4, hc2]⟩ ?_ hcl
  have hfl : ∀ l : List RV, (l.map RV.cells).flatten.length = l.length * 8 := fun l => by
    induction l with
    | nil => rfl
    | cons x r ih =>
      rw [List.map_cons, List.flatten_cons, List.length_append, ih, List.length_cons]
      show 8 + _ = _
      omega
  rw [hfl, List.length_set]

theorem butCells {M : List Nat} {a : World} {B : Nat} (hB : B ∈ M ∨ a.heap.size ≤ B) : ∀ (vs : List Value) (o : Nat) (w : World), ButM M a w → ButM M a (w.setCells B o vs)
  | [], _, _, h => h
  | v :: r, o, _, h => butCells hB r (o + 1) _ (h.set hB o v)
theorem ButM.drew {M : List Nat} {a w : World} (h : ButM M a w) : ButM M a w.drew := ⟨h.os, h.tape, h.output, h.size, h.block⟩
theorem keys_set {es : List RV} {p : Nat} (hp : p < es.length) {y : RV} (hy : y.key = es[p].key) : (es.set p y).map (·.key) = es.map (·.key) := by
  refine List.ext_getElem (by simp) (fun j h1 h2 => ?_)
  rw [List.getElem_map, List.getElem_map, List.getElem_set]
  split
  · rename_i e; subst e; exact hy
  · rfl
/-- an entry's name, and whether it is a set -/
def kst (e : RV) : List UInt8 × Bool := (e.key, e.set)
theorem kst_set {es : List RV} {p : Nat} (hp : p < es.length) {y : RV} (hy : kst y = kst es[p]) : (es.set p y).map kst = es.map kst := by
  refine List.ext_getElem (by simp) (fun j h1 h2 => ?_)
  rw [List.getElem_map, List.getElem_map, List.getElem_set]
  split
  · rename_i e; subst e; exact hy
  · rfl
theorem kst_keys {es es' : List RV} (h : es'.map kst = es.map kst) : es'.map (·.key) = es.map (·.key) := by
  have := congrArg (List.map Prod.fst) h
  simpa [List.map_map, Function.comp_def, kst] using this
theorem OwnR.put {w : World} {L g cap : Nat} {rb : Option Nat} {es : List RV} (h : OwnR w L rb es) (hrow : RowR w (.slice (some ⟨g, 0, none⟩) es.length cap) es) (hv : w.cell? ⟨L, 0, none⟩ = some (.slice (some ⟨g, 0, none⟩) es.length cap)) (hrb : rb = some g) (p : Nat) (hp : p < es.length) (y : RV) (hy : y.key = es[p].key) : OwnR (w.setCells g (p * 8 + 1) y.cells.tail).drew L rb (es.set p y) := by
  have hgL : L ≠ g := fun e => h.ne (by rw [hrb, e])
  have hk := keys_set hp hy
  have hrp := RowR.put hrow p hp y hy
  have hlen : (es.set p y).length = es.length := List.length_set
  generalize y.cells.tail = vs at *
  generalize es.set p y = es' at *
  have hL : (w.setCells g (p * 8 + 1) vs).heap[L]? = w.heap[L]? := setCells_far hgL _ _ _
  generalize w.setCells g (p * 8 + 1) vs = w' at *
  have hm : OwnR w' L rb es' := by
    refine ⟨⟨.slice (some ⟨g, 0, none⟩) es'.length cap, ?_, hrp, hrb.symm⟩, h.ne, ?_, by rw [hk]; exact h.up, by rw [hlen]; exact h.few⟩
    · rw [World.cell?_of_block (w := w) (a := ⟨L, 0, none⟩) hL, hv, hlen]
    · rw [World.frozen?_of_block (w := w) (a := ⟨L, 0, none⟩) hL]; exact h.fr
  exact hm.keep rfl (fun _ _ => rfl)

set_option maxHeartbeats 4000000 in
set_option maxRecDepth 100000 in
theorem PutR_old (L : Nat) (rb : Option Nat) (es : List RV) (x : RV) (w : World) (h : OwnR w L rb es) (hn0 : kst x ∈ es.map kst) :
    Calls Tryz.prog 43 #[.pointer (some ⟨L, 0, none⟩), strV x.key, .agg #[.bool x.set, .int .i64 x.k, .string x.b, .string x.c, .slice x.p x.l x.cp, .int .i64 x.rank, .int .i64 x.line]] w fun e w' => (∃ v, e = .returned v) ∧ ∃ es', OwnR w' L rb es' ∧ es'.map kst = es.map kst ∧ ButM rb.toList w w' := by
  have hn : x.key ∈ es.map (·.key) := by
    obtain ⟨y, hy, e⟩ := List.mem_map.1 hn0
    exact List.mem_map.2 ⟨y, hy, congrArg Prod.fst e⟩
  have hst : ∀ p, (hp : p < es.length) → es[p].key = x.key → es[p].set = x.set := fun p hp e => by
    obtain ⟨i, hi, e2⟩ := List.getElem_of_mem hn0
    rw [List.getElem_map] at e2
    have hi' : i < es.length := by simpa using hi
    have e3 : es[i].key = x.key := congrArg Prod.fst e2
    have hip : i = p := by
      rcases Nat.lt_trichotomy i p with hlt | heq | hlt
      · have := h.up.lt hlt (by simpa using hp)
        rw [List.getElem_map, List.getElem_map, e3, e, less_irrefl] at this
        cases this
      · exact heq
      · have := h.up.lt hlt (by simpa using hi')
        rw [List.getElem_map, List.getElem_map, e3, e, less_irrefl] at this
        cases this
    subst hip
    exact congrArg Prod.snd e2
  obtain ⟨key, set, k, b, c, pp, l, cp, rank, line⟩ := x
  obtain ⟨w0, hw0⟩ : ∃ w0, w.alloc (.cells #[.bool set, .int .i64 k, .string b, .string c, .slice pp l cp, .int .i64 rank, .int .i64 line] 90) = w0 := ⟨_, rfl⟩
  have hal0 : Below w.heap.size w w0 := by rw [← hw0]; exact (Below.refl _ _).alloc (Nat.le_refl _) _
  have hlt := h.lt
  have h0 : OwnR w0 L rb es := h.keep (hal0.block L hlt.1) (fun q hq => hal0.block q (hlt.2 q hq))
  have hV0 : w0.rangeAt w.heap.size 0 [.bool set, .int .i64 k, .string b, .string c, .slice pp l cp, .int .i64 rank, .int .i64 line] := by rw [← hw0]; exact range_new _ _ _
  have hs0 : w0.heap.size = w.heap.size + 1 := by rw [← hw0]; simp
  have hF : Calls Tryz.prog 70 #[.pointer (some ⟨L, 0, none⟩), .string ⟨key.toArray⟩] w0 fun e w' => (∃ p : Nat, Place (es.map (·.key)) key p ∧ e = .returned (.tuple #[.int .i64 p, .bool true])) ∧ Below w0.heap.size w0 w' := by
    have h1 := findR_any L es ⟨key.toArray⟩ w0 h0.list
    rw [show (⟨key.toArray⟩ : ByteArray).data.toList = key from rfl] at h1
    unfold FoundAns at h1
    rw [decide_eq_true (show key ∈ es.map (·.key) from hn)] at h1
    exact h1
  have HW0 : Hid _ := hw0
  have HH : Hid _ := h0
  have HAl : Hid _ := hal0
  clear hw0 h h0 hal0
  unfold strV
  go_enter Tryz.func43, Tryz.ntmps43
  go_wp2_with fail
  rw [HW0.out]
  refine hF.mono ?_
  clear hF
  rintro e w1 ⟨⟨p, hp, rfl⟩, hb1⟩
  have hb1s := hb1.size
  have h1 : OwnR w1 L rb es := HH.out.keep (hb1.block L (by omega)) (fun q hq => hb1.block q (by have := hlt.2 q hq; omega))
  obtain ⟨hpl0, hpk⟩ := (hp.found h1.up).1 hn
  have hpl : p < es.length := by simpa using hpl0
  rw [List.getElem_map] at hpk
  have hps := hst p hpl hpk
  have HK : Hid (kst ⟨es[p].key, set, k, b, c, pp, l, cp, rank, line⟩ = kst es[p]) := by show (es[p].key, set) = (es[p].key, es[p].set); rw [hps]
  clear hps hpk hst hpl0 hn0
  obtain ⟨v, hv, hrow, hvb⟩ := h1.row
  have hf1 := h1.fr
  obtain ⟨g, cap, rfl⟩ : ∃ g cap, v = .slice (some ⟨g, 0, none⟩) es.length cap := by
    rcases hrow.2 with ⟨_, h2⟩ | ⟨g, cap, cur, e, _⟩
    · omega
    · exact ⟨g, cap, e⟩
  have hV1 := range_below hV0 hb1 (by omega)
  have v0 : w1.cell? ⟨w.heap.size, 0, none⟩ = some (.bool set) := hV1 0 _ rfl
  have v1 : w1.cell? ⟨w.heap.size, 1, none⟩ = some (.int .i64 k) := hV1 1 _ rfl
  have v2 : w1.cell? ⟨w.heap.size, 2, none⟩ = some (.string b) := hV1 2 _ rfl
  have v3 : w1.cell? ⟨w.heap.size, 3, none⟩ = some (.string c) := hV1 3 _ rfl
  have v4 : w1.cell? ⟨w.heap.size, 4, none⟩ = some (.slice pp l cp) := hV1 4 _ rfl
  have v5 : w1.cell? ⟨w.heap.size, 5, none⟩ = some (.int .i64 rank) := hV1 5 _ rfl
  have v6 : w1.cell? ⟨w.heap.size, 6, none⟩ = some (.int .i64 line) := hV1 6 _ rfl
  have hfz : ∀ q, w1.frozen? ⟨g, q, none⟩ = false := fun q => by
    rcases hrow.2 with ⟨e, _⟩ | ⟨g', cap', cur, e, h4, h5, _⟩
    · cases e
    · cases e; simp [World.frozen?, h5]
  have hc := fun i hi => hrow.cell p hpl i hi
  have hrbg : rb = some g := by rw [← hvb]; rfl
  have hown2 := h1.put hrow hv hrbg p hpl ⟨es[p].key, set, k, b, c, pp, l, cp, rank, line⟩ rfl
  have hbut2 : ButM rb.toList w (w1.setCells g (p * 8 + 1) [.bool set, .int .i64 k, .string b, .string c, .slice pp l cp, .int .i64 rank, .int .i64 line]).drew := (butCells (.inl (by rw [hrbg]; simp)) _ _ _ ((ButM.of_below HAl.out).trans (ButM.of_below hb1))).drew
  have HFin : Hid (∃ es', OwnR (w1.setCells g (p * 8 + 1) [.bool set, .int .i64 k, .string b, .string c, .slice pp l cp, .int .i64 rank, .int .i64 line]).drew L rb es' ∧ es'.map kst = es.map kst ∧ ButM rb.toList w (w1.setCells g (p * 8 + 1) [.bool set, .int .i64 k, .string b, .string c, .slice pp l cp, .int .i64 rank, .int .i64 line]).drew) := ⟨_, hown2, kst_set hpl HK.out, hbut2⟩
  clear hown2 hbut2 hrbg
  have HO : Hid _ := h1
  have HR : Hid _ := hrow
  have HVB : Hid _ := hvb
  have HB1 : Hid _ := hb1
  obtain ⟨y0, hy0⟩ : ∃ y0, es[p] = y0 := ⟨_, rfl⟩
  have HY0 : Hid (es[p] = y0) := hy0
  rw [hy0] at hc
  clear hy0 hrow h1 hvb hb1 hp hn HW0 HH hV0 hV1
  obtain ⟨ykey, yset, yk, yb, yc, yp, yl, ycp, yrank, yline⟩ := y0
  have e1 := hc 1 (by decide)
  have e2 := hc 2 (by decide)
  have e3 := hc 3 (by decide)
  have e4 := hc 4 (by decide)
  have e5 := hc 5 (by decide)
  have e6 := hc 6 (by decide)
  have e7 := hc 7 (by decide)
  clear hc
  simp only [RV.cells, strV, List.getElem?_cons_zero, List.getElem?_cons_succ] at e1 e2 e3 e4 e5 e6 e7
  obtain ⟨n, hn⟩ : ∃ n, es.length = n := ⟨_, rfl⟩
  have HN : Hid (es.length = n) := hn
  rw [hn] at hv hpl
  clear hn
  have hpi : (p : Int) < (n : Int) := by omega
  go_upto_region 3 with fail
  go_region
  all_goals go_wp2
  all_goals (try go_end0)
  all_goals first | exact ⟨⟨_, rfl⟩, HFin.out⟩ | (refine bodyPost_ret (results_none rfl _ _ _) rfl ?_; exact ⟨⟨_, rfl⟩, HFin.out⟩)
end Go.Proofs.YtlgodpadcilcaaaGreatDoor
namespace Go.Proofs.YtlgodpadcilcaaaGreatDoor

/-- a text cut at the first byte c -/
def cutF (c : UInt8) : List UInt8 → Option (List UInt8 × List UInt8)
  | [] => none
  | b :: l => if b = c then some ([], l) else (cutF c l).map (fun x => (b :: x.1, x.2))
theorem cutF_none {c : UInt8} : ∀ {l : List UInt8}, (∀ x ∈ l, x ≠ c) → cutF c l = none
  | [], _ => rfl
  | b :: l, h => by rw [cutF, if_neg (h b (by simp)), cutF_none (fun x hx => h x (by simp [hx]))]; rfl
theorem cutF_some {c : UInt8} : ∀ {p : List UInt8} (r : List UInt8), (∀ x ∈ p, x ≠ c) → cutF c (p ++ c :: r) = some (p, r)
  | [], r, _ => by simp [cutF]
  | b :: p, r, h => by rw [List.cons_append, cutF, if_neg (h b (by simp)), cutF_some r (fun x hx => h x (by simp [hx]))]; rfl
theorem cutF_spec {c : UInt8} : ∀ {l p r : List UInt8}, cutF c l = some (p, r) → l = p ++ c :: r ∧ ∀ x ∈ p, x ≠ c
  | [], _, _, h => by cases h
  | b :: l, p, r, h => by
    rw [cutF] at h
    split at h
    · rename_i e
      cases h
      subst e
      exact ⟨rfl, by simp⟩
    · rename_i e
      cases hc : cutF c l with
      | none => rw [hc] at h; cases h
      | some x =>
        obtain ⟨p', r'⟩ := x
        rw [hc] at h
        cases h
        obtain ⟨h1, h2⟩ := cutF_spec hc
        refine ⟨by rw [h1]; rfl, fun x hx => ?_⟩
        rcases List.mem_cons.1 hx with rfl | hx
        · exact e
        · exact h2 x hx
theorem cutF_free {c : UInt8} : ∀ {l : List UInt8}, cutF c l = none → ∀ x ∈ l, x ≠ c
  | [], _ => by simp
  | b :: l, h => by
    rw [cutF] at h
    split at h
    · cases h
    · rename_i e
      cases hc : cutF c l with
      | some x => rw [hc] at h; cases h
      | none =>
        intro x hx
        rcases List.mem_cons.1 hx with rfl | hx
        · exact e
        · exact cutF_free hc x hx
theorem cutF_snoc (c b : UInt8) (l : List UInt8) : cutF c (l ++ [b]) = match cutF c l with
    | some (p, r) => some (p, r ++ [b])
    | none => if b = c then some (l, []) else none := by
  cases h : cutF c l with
  | some x =>
    obtain ⟨p, r⟩ := x
    obtain ⟨h1, h2⟩ := cutF_spec h
    rw [h1]
    have e : p ++ c :: r ++ [b] = p ++ c :: (r ++ [b]) := by simp
    rw [e]
    exact cutF_some _ h2
  | none =>
    have hf := cutF_free h
    by_cases e : b = c
    · subst e
      simp only [if_true]
      exact cutF_some [] hf
    · simp only [if_neg e]
      exact cutF_none (fun x hx => by
        rcases List.mem_append.1 hx with hx | hx
        · exact hf x hx
        · simp at hx; subst hx; exact e)

def isLD (b : UInt8) : Bool := isLow b || (decide (48 ≤ b.toNat) && decide (b.toNat ≤ 57))
/-- an id -/
def idL (s : List UInt8) : Bool := decide (1 ≤ s.length) && decide (s.length ≤ 8) && s.all isLD
theorem nameL_low {s : List UInt8} (h : nameL s = true) : ∀ x ∈ s, isLow x = true := by
  unfold nameL at h
  simp only [Bool.and_eq_true] at h
  exact List.all_eq_true.1 h.1.2
theorem idL_low {s : List UInt8} (h : idL s = true) : ∀ x ∈ s, isLD x = true := by
  unfold idL at h
  simp only [Bool.and_eq_true] at h
  exact List.all_eq_true.1 h.2
theorem low_ne {x c : UInt8} (hc : isLD c = false) (h : isLow x = true) : x ≠ c := fun e => by
  subst e
  unfold isLD at hc
  rw [h] at hc
  cases hc
theorem ld_ne {x c : UInt8} (hc : isLD c = false) (h : isLD x = true) : x ≠ c := fun e => by
  subst e
  rw [h] at hc
  cases hc
theorem name_free {s : List UInt8} (h : nameL s = true) {c : UInt8} (hc : isLD c = false) : ∀ x ∈ s, x ≠ c := fun x hx => low_ne hc (nameL_low h x hx)
theorem id_free {s : List UInt8} (h : idL s = true) {c : UInt8} (hc : isLD c = false) : ∀ x ∈ s, x ≠ c := fun x hx => ld_ne hc (idL_low h x hx)
theorem name_nil : nameL [] = false := by decide
theorem id_nil : idL [] = false := by decide

/-- an object -/
def objS (t : List UInt8) : Option (List UInt8 × List UInt8) :=
  match cutF 58 t with
  | none => none
  | some (n, i) => if nameL n && idL i then some (n, i) else none
/-- a subject; its relation is empty if it is no set -/
def subS (t : List UInt8) : Option (List UInt8 × List UInt8 × List UInt8) :=
  match cutF 35 t with
  | none => (objS t).map (fun x => (x.1, x.2, []))
  | some (o, r) => if nameL r then (objS o).map (fun x => (x.1, x.2, r)) else none
/-- a tuple's parts -/
structure Tup where
  k : List UInt8
  i : List UInt8
  r : List UInt8
  k2 : List UInt8
  i2 : List UInt8
  r2 : List UInt8
def tupS (t : List UInt8) : Option Tup :=
  match cutF 64 t with
  | none => none
  | some (left, right) =>
    match cutF 35 left with
    | none => none
    | some (o, r) => if nameL r then
        match objS o, subS right with
        | some a, some b => some ⟨a.1, a.2, r, b.1, b.2.1, b.2.2⟩
        | _, _ => none
      else none

/-- how a tuple is written -/
structure Shape (t : List UInt8) (x : Tup) : Prop where
  k : nameL x.k = true
  i : idL x.i = true
  r : nameL x.r = true
  k2 : nameL x.k2 = true
  i2 : idL x.i2 = true
  r2 : x.r2 = [] ∨ nameL x.r2 = true
  eq : t = x.k ++ 58 :: (x.i ++ 35 :: (x.r ++ 64 :: (x.k2 ++ 58 :: (x.i2 ++ (if x.r2 = [] then [] else 35 :: x.r2)))))

theorem objS_of {n i : List UInt8} (h1 : nameL n = true) (h2 : idL i = true) : objS (n ++ 58 :: i) = some (n, i) := by
  unfold objS
  rw [cutF_some _ (name_free h1 (by decide))]
  simp [h1, h2]
theorem objS_spec {t : List UInt8} {a : List UInt8 × List UInt8} (h : objS t = some a) : nameL a.1 = true ∧ idL a.2 = true ∧ t = a.1 ++ 58 :: a.2 := by
  unfold objS at h
  split at h
  · cases h
  · rename_i n i hc
    split at h
    · rename_i hb
      cases h
      simp only [Bool.and_eq_true] at hb
      exact ⟨hb.1, hb.2, (cutF_spec hc).1⟩
    · cases h
theorem obj_free {n i : List UInt8} (h1 : nameL n = true) (h2 : idL i = true) {c : UInt8} (hc : isLD c = false) (h58 : (58 : UInt8) ≠ c) : ∀ x ∈ n ++ 58 :: i, x ≠ c := fun x hx => by
  rcases List.mem_append.1 hx with hx | hx
  · exact name_free h1 hc x hx
  · rcases List.mem_cons.1 hx with rfl | hx
    · exact h58
    · exact id_free h2 hc x hx
theorem tupS_of {t : List UInt8} {x : Tup} (h : Shape t x) : tupS t = some x := by
  obtain ⟨k, i, r, k2, i2, r2⟩ := x
  obtain ⟨h1, h2, h3, h4, h5, h6, rfl⟩ := h
  simp only at h1 h2 h3 h4 h5 h6 ⊢
  have e : k ++ 58 :: (i ++ 35 :: (r ++ 64 :: (k2 ++ 58 :: (i2 ++ (if r2 = [] then [] else 35 :: r2))))) = (k ++ 58 :: i ++ 35 :: r) ++ 64 :: (k2 ++ 58 :: (i2 ++ (if r2 = [] then [] else 35 :: r2))) := by simp
  have f64 : ∀ x ∈ k ++ 58 :: i ++ 35 :: r, x ≠ 64 := fun x hx => by
    rcases List.mem_append.1 hx with hx | hx
    · exact obj_free h1 h2 (by decide) (by decide) x hx
    · rcases List.mem_cons.1 hx with rfl | hx
      · decide
      · exact name_free h3 (by decide) x hx
  unfold tupS
  rw [e, cutF_some _ f64]
  simp only
  rw [cutF_some _ (obj_free h1 h2 (by decide) (by decide))]
  simp only [h3, if_true, objS_of h1 h2]
  have hs : subS (k2 ++ 58 :: (i2 ++ (if r2 = [] then [] else 35 :: r2))) = some (k2, i2, r2) := by
    unfold subS
    rcases h6 with rfl | h6
    · simp only [if_true, List.append_nil]
      rw [cutF_none (obj_free h4 h5 (by decide) (by decide))]
      simp only [objS_of h4 h5]
      rfl
    · have hne : r2 ≠ [] := fun e => by subst e; rw [name_nil] at h6; cases h6
      rw [if_neg hne]
      have e2 : k2 ++ 58 :: (i2 ++ 35 :: r2) = (k2 ++ 58 :: i2) ++ 35 :: r2 := by simp
      rw [e2, cutF_some _ (obj_free h4 h5 (by decide) (by decide))]
      simp only [h6, if_true, objS_of h4 h5]
      rfl
  rw [hs]
theorem tupS_spec {t : List UInt8} {x : Tup} (h : tupS t = some x) : Shape t x := by
  unfold tupS at h
  split at h
  · cases h
  · rename_i left right hc
    split at h
    · cases h
    · rename_i o r hc2
      split at h
      · rename_i hr
        split at h
        · rename_i a b ha hb
          cases h
          obtain ⟨a1, a2, a3⟩ := objS_spec ha
          have e1 := (cutF_spec hc).1
          have e2 := (cutF_spec hc2).1
          unfold subS at hb
          split at hb
          · cases ho : objS right with
            | none => rw [ho] at hb; cases hb
            | some y =>
              rw [ho] at hb
              cases hb
              obtain ⟨b1, b2, b3⟩ := objS_spec ho
              exact ⟨a1, a2, hr, b1, b2, .inl rfl, by rw [e1, e2, a3, b3]; simp⟩
          · rename_i o2 r2 hc3
            split at hb
            · rename_i hr2
              cases ho : objS o2 with
              | none => rw [ho] at hb; cases hb
              | some y =>
                rw [ho] at hb
                cases hb
                obtain ⟨b1, b2, b3⟩ := objS_spec ho
                have hne : r2 ≠ [] := fun e => by subst e; rw [name_nil] at hr2; cases hr2
                exact ⟨a1, a2, hr, b1, b2, .inr hr2, by rw [e1, e2, a3, (cutF_spec hc3).1, b3]; simp [hne]⟩
            · cases hb
        · cases h
      · cases h

/-- the pieces between signs, in their order -/
def piecesR : List UInt8 → List UInt8 → List (List UInt8)
  | [], t => [t]
  | c :: cs, t => match cutF c t with
    | none => [t]
    | some (p, r) => p :: piecesR cs r
def signsR : List UInt8 := [58, 35, 64, 58, 35]
theorem piecesR_ne (cs t : List UInt8) : piecesR cs t ≠ [] := by
  cases cs with
  | nil => simp [piecesR]
  | cons c cs => unfold piecesR; split <;> simp
theorem piecesR_len : ∀ (cs t : List UInt8), (piecesR cs t).length ≤ cs.length + 1
  | [], t => by simp [piecesR]
  | c :: cs, t => by
    unfold piecesR
    split
    · simp
    · have := piecesR_len cs (by assumption)
      simp only [List.length_cons]
      omega
/-- what one byte more does -/
def grow1 (cs : List UInt8) (ps : List (List UInt8)) (b : UInt8) : List (List UInt8) :=
  if cs[ps.length - 1]? = some b then ps ++ [[]] else ps.dropLast ++ [ps.getLastD [] ++ [b]]
theorem piecesR_snoc : ∀ (cs t : List UInt8) (b : UInt8), piecesR cs (t ++ [b]) = grow1 cs (piecesR cs t) b
  | [], t, b => by simp [piecesR, grow1]
  | c :: cs, t, b => by
    rw [piecesR, cutF_snoc, piecesR]
    cases h : cutF c t with
    | none =>
      simp only [grow1, List.length_cons, List.length_nil]
      by_cases e : b = c
      · subst e
        simp only [if_true]
        have : piecesR cs [] = [[]] := by
          cases cs with
          | nil => rfl
          | cons c cs => rfl
        rw [this]
        simp
      · have e' : ¬ c = b := fun h => e h.symm
        simp [e, e']
    | some x =>
      obtain ⟨p, r⟩ := x
      simp only
      rw [piecesR_snoc cs r b]
      have hne := piecesR_ne cs r
      generalize piecesR cs r = ps at *
      obtain ⟨q, qs, rfl⟩ : ∃ q qs, ps = q :: qs := by
        cases ps with
        | nil => exact absurd rfl hne
        | cons q qs => exact ⟨q, qs, rfl⟩
      simp only [grow1, List.length_cons, Nat.add_sub_cancel]
      rw [List.getElem?_cons_succ]
      split
      · rfl
      · simp [List.getLastD]

/-- the document's parts of a text -/
def partsR (ps : List (List UInt8)) : Tup := ⟨ps.getD 0 [], ps.getD 1 [], ps.getD 2 [], ps.getD 3 [], ps.getD 4 [], ps.getD 5 []⟩
def okR (ps : List (List UInt8)) : Bool := nameL (partsR ps).k && idL (partsR ps).i && nameL (partsR ps).r && nameL (partsR ps).k2 && idL (partsR ps).i2 && (decide (ps.length = 5) || decide (ps.length = 6) && nameL (partsR ps).r2)
theorem piecesR_join : ∀ (cs t : List UInt8) (p : List UInt8) (ps : List (List UInt8)), piecesR cs t = p :: ps → (ps = [] ∧ t = p) ∨ ∃ c cs' r, cs = c :: cs' ∧ t = p ++ c :: r ∧ piecesR cs' r = ps
  | [], t, p, ps, h => by
    simp [piecesR] at h
    exact .inl ⟨h.2, h.1⟩
  | c :: cs, t, p, ps, h => by
    rw [piecesR] at h
    split at h
    · simp at h
      exact .inl ⟨h.2, h.1⟩
    · rename_i p' r hc
      simp at h
      obtain ⟨rfl, rfl⟩ := h
      exact .inr ⟨c, cs, r, rfl, (cutF_spec hc).1, rfl⟩
theorem shape_ok {t : List UInt8} {x : Tup} (h : Shape t x) : okR (piecesR signsR t) = true ∧ partsR (piecesR signsR t) = x := by
  obtain ⟨k, i, r, k2, i2, r2⟩ := x
  obtain ⟨h1, h2, h3, h4, h5, h6, rfl⟩ := h
  simp only at h1 h2 h3 h4 h5 h6 ⊢
  have hp : piecesR signsR (k ++ 58 :: (i ++ 35 :: (r ++ 64 :: (k2 ++ 58 :: (i2 ++ (if r2 = [] then [] else 35 :: r2)))))) = [k, i, r, k2] ++ (if r2 = [] then [i2] else [i2, r2]) := by
    unfold signsR
    rw [piecesR, cutF_some _ (name_free h1 (by decide))]
    simp only
    rw [piecesR, cutF_some _ (id_free h2 (by decide))]
    simp only
    rw [piecesR, cutF_some _ (name_free h3 (by decide))]
    simp only
    rw [piecesR, cutF_some _ (name_free h4 (by decide))]
    simp only
    rw [piecesR]
    by_cases e : r2 = []
    · simp only [if_pos e, List.append_nil]
      rw [cutF_none (id_free h5 (by decide))]
      rfl
    · simp only [if_neg e]
      rw [cutF_some _ (id_free h5 (by decide))]
      rfl
  rw [hp]
  by_cases e : r2 = []
  · subst e
    simp [okR, partsR, h1, h2, h3, h4, h5]
  · have h6' := h6.resolve_left e
    simp [okR, partsR, h1, h2, h3, h4, h5, h6', e]
theorem ok_shape {t : List UInt8} (h : okR (piecesR signsR t) = true) : Shape t (partsR (piecesR signsR t)) := by
  generalize hps : piecesR signsR t = ps at *
  unfold okR at h
  simp only [Bool.and_eq_true, Bool.or_eq_true, decide_eq_true_iff] at h
  obtain ⟨⟨⟨⟨⟨h1, h2⟩, h3⟩, h4⟩, h5⟩, h6⟩ := h
  have hlen : ps.length = 5 ∨ ps.length = 6 := by
    rcases h6 with h | h
    · exact .inl h
    · exact .inr h.1
  obtain ⟨a, b, c, d, e, q, rfl⟩ : ∃ a b c d e q, ps = a :: b :: c :: d :: e :: q := by
    match ps, hlen with
    | a :: b :: c :: d :: e :: q, _ => exact ⟨a, b, c, d, e, q, rfl⟩
    | [], h => simp at h
    | [_], h => simp at h
    | [_, _], h => simp at h
    | [_, _, _], h => simp at h
    | [_, _, _, _], h => simp at h
  unfold signsR at hps
  rcases piecesR_join _ _ _ _ hps with ⟨h, _⟩ | ⟨_, _, r1, e1, t1, hps⟩
  · cases h
  cases e1
  rcases piecesR_join _ _ _ _ hps with ⟨h, _⟩ | ⟨_, _, r2, e1, t2, hps⟩
  · cases h
  cases e1
  rcases piecesR_join _ _ _ _ hps with ⟨h, _⟩ | ⟨_, _, r3, e1, t3, hps⟩
  · cases h
  cases e1
  rcases piecesR_join _ _ _ _ hps with ⟨h, _⟩ | ⟨_, _, r4, e1, t4, hps⟩
  · cases h
  cases e1
  rcases piecesR_join _ _ _ _ hps with ⟨hq, t5⟩ | ⟨_, _, r5, e1, t5, hps⟩
  · subst hq
    exact ⟨h1, h2, h3, h4, h5, .inl rfl, by rw [t1, t2, t3, t4, t5]; simp [partsR]⟩
  · cases e1
    simp only [piecesR] at hps
    subst hps
    have h6' : nameL r5 = true := by
      rcases h6 with h | h
      · simp at h
      · exact h.2
    have hne : r5 ≠ [] := fun e => by subst e; rw [name_nil] at h6'; cases h6'
    exact ⟨h1, h2, h3, h4, h5, .inr h6', by rw [t1, t2, t3, t4, t5]; simp [partsR, hne]⟩
/-- the program's reading and the document's are one -/
theorem tup_ref (t : List UInt8) : tupS t = if okR (piecesR signsR t) = true then some (partsR (piecesR signsR t)) else none := by
  by_cases h : okR (piecesR signsR t) = true
  · rw [if_pos h]
    exact tupS_of (ok_shape h)
  · rw [if_neg h]
    cases ht : tupS t with
    | none => rfl
    | some x => exact absurd (shape_ok (tupS_spec ht)).1 h
end Go.Proofs.YtlgodpadcilcaaaGreatDoor
