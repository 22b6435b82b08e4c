import Derived.Test.YtlgodpadcilcaaaGreatDoorP07
namespace Go.Proofs.YtlgodpadcilcaaaGreatDoor
open Go.ChangeShapes Go.WideShapes Go.ChangeAt Go.RowKit

theorem drop_open {xs : List (List UInt8)} {i : Nat} (hi : i < xs.length) (h1 : xs[i] = [40]) : termL (xs.drop i) = match exprL (xs.drop (i + 1)) with
    | some (e, w' :: r') => if w' = [41] then some (e, r') else none
    | _ => none := by
  rw [List.drop_eq_getElem_cons hi, termL_cons, if_pos h1]
  cases exprL (xs.drop (i + 1)) with
  | none => rfl
  | some q => obtain ⟨e, r⟩ := q; cases r <;> rfl

set_option maxRecDepth 100000 in
set_option maxHeartbeats 8000000 in
theorem rterm_open (f : Nat) (hE : RExprOK f) (P : Nat) (nb : Option Nat) (N : List NV) (v : Value) (xs : List (List UInt8)) (i : Nat) (w : World) (h : NRep w P nb N) (hW : WordsR w (P :: nb.toList) v xs) (hi : i < xs.length) (hf : xs.length - i ≤ f + 1) (hl : xs.length ≤ 1000000) (hN : N.length + xs.length - i ≤ 1000000) (hz : ∀ x ∈ xs, x.length ≤ 1000000) (hx : xs[i] = [40]) :
    Calls Tryz.prog 79 #[.pointer (some ⟨P, 0, none⟩), v, .int .i64 (i : Int)] w (RAns P nb N w xs i (termL (xs.drop i))) := by
  have hX := hE P nb N v xs (i + 1) w h hW (by omega) (by omega) hl (by omega) hz
  rw [drop_open hi hx]
  have hW0 := hW
  obtain ⟨b, o, c, rfl, hc, hb, hbM, hcell⟩ := hW
  have h0 : w.cell? ⟨b, o + i, none⟩ = some (.string ⟨#[40]⟩) := by rw [hcell i hi, hx]; rfl
  have e1 : (((i + 1 : Nat) : Int)) = (i : Int) + 1 := by omega
  rw [e1] at hX
  clear e1
  cases he : exprL (xs.drop (i + 1)) with
  | none =>
    rw [he] at hX
    have hX2 : Calls Tryz.prog 52 #[.pointer (some ⟨P, 0, none⟩), .slice (some ⟨b, o, none⟩) xs.length c, .int .i64 ((i : Int) + 1)] w fun e w' => (∃ k : Int, e = .returned (.tuple #[.int .i64 (-1), .int .i64 k])) ∧ ButM (P :: nb.toList) w w' := hX
    show Calls Tryz.prog 79 _ w fun e w' => (∃ k : Int, e = .returned (.tuple #[.int .i64 (-1), .int .i64 k])) ∧ ButM (P :: nb.toList) w w'
    clear hX hcell hx hbM h he hW0
    generalize xs.length = n at *
    go_enter Tryz.func79, Tryz.ntmps79
    go_wp2_with (go_at_call 52; refine hX2.mono ?_; rintro e w' ⟨⟨k, rfl⟩, hbm⟩)
    try go_ret2
    exact ⟨⟨_, rfl⟩, ⟨hbm.os, hbm.tape, hbm.output, hbm.size, hbm.block⟩⟩
  | some q =>
    obtain ⟨x, rest⟩ := q
    rw [he] at hX
    have hX2 : Calls Tryz.prog 52 #[.pointer (some ⟨P, 0, none⟩), .slice (some ⟨b, o, none⟩) xs.length c, .int .i64 ((i : Int) + 1)] w fun e w' => ∃ top k nb' N', e = .returned (.tuple #[.int .i64 ((top : Nat) : Int), .int .i64 ((k : Nat) : Int)]) ∧ k ≤ xs.length ∧ i + 1 < k ∧ rest = xs.drop k ∧ NGrow P nb N w w' nb' N' ∧ i + 1 + N'.length ≤ k ∧ Tree (fun g => w.heap.size ≤ g ∧ g < w'.heap.size ∧ g ∉ P :: nb'.toList) w' (N ++ N') x top := hX
    have HW : Hid (WordsR w (P :: nb.toList) (.slice (some ⟨b, o, none⟩) xs.length c) xs) := hW0
    clear hX hx h he hW0
    obtain ⟨R, hR⟩ : ∃ R : Ending → World → Prop, R = RAns P nb N w xs i (match (some (x, rest) : Option (Exp × List (List UInt8))) with
              | some (e, w' :: r') => if w' = [41] then some (e, r') else none
              | _ => none) := ⟨_, rfl⟩
    rw [← hR]
    have HRR : Hid _ := hR
    clear hR
    have HC : Hid (∀ j (h : j < xs.length), w.cell? ⟨b, o + j, none⟩ = some (strV xs[j])) := hcell
    clear hcell
    go_enter Tryz.func79, Tryz.ntmps79
    go_wp2_with fail
    refine hX2.mono ?_
    clear hX2
    rintro e w' ⟨top, k, nb', N', rfl, hk, hik, hrest, hg, hn, hT⟩
    have hbb : w'.heap[b]? = w.heap[b]? := hg.but.block b hb hbM
    by_cases hkl : k < xs.length
    · have hr : rest = xs[k] :: xs.drop (k + 1) := by rw [hrest]; exact List.drop_eq_getElem_cons hkl
      have c1 : w'.cell? ⟨b, o + k, none⟩ = some (.string ⟨xs[k].toArray⟩) := by rw [World.cell?_of_block (w := w) (a := ⟨b, o + k, none⟩) hbb]; exact HC.out k hkl
      by_cases hq : xs[k] = [41]
      · have hA : Hid (R (.returned (.tuple #[.int .i64 (top : Int), .int .i64 ((k : Int) + 1)])) w') := by
          show R _ _
          rw [HRR.out, hr]
          simp only [hq, if_true]
          exact ⟨top, k + 1, nb', N', by simp, by omega, by omega, rfl, hg, by omega, hT⟩
        have hqb : (⟨xs[k].toArray⟩ : ByteArray) = ⟨#[41]⟩ := by rw [hq]
        rw [hqb] at c1
        clear HRR HC HW hr hT hg hbb hrest hqb hq
        clear hbM
        generalize xs.length = n at *
        go_wp2
        try go_ret2
        exact hA.out
      · have hA : Hid (∀ k2 : Int, R (.returned (.tuple #[.int .i64 (-1), .int .i64 k2])) w') := fun k2 => by
          rw [HRR.out, hr]
          simp only [if_neg hq]
          exact ⟨⟨k2, rfl⟩, hg.but⟩
        have hqb : ((⟨xs[k].toArray⟩ : ByteArray).toList == [41]) = false := by rw [ByteArray.toList_eq, beq_eq_false_iff_ne]; exact hq
        clear HRR HC HW hr hT hg hbb hrest hq
        generalize (⟨xs[k].toArray⟩ : ByteArray) = X at *
        clear hbM
        generalize xs.length = n at *
        go_wp2
        try go_ret2
        exact hA.out _
    · obtain rfl : k = xs.length := by omega
      have hr : rest = [] := by rw [hrest]; simp
      have hA : Hid (∀ k2 : Int, R (.returned (.tuple #[.int .i64 (-1), .int .i64 k2])) w') := fun k2 => by
        rw [HRR.out, hr]
        exact ⟨⟨k2, rfl⟩, hg.but⟩
      clear HRR HC HW hr hT hg hbb hrest
      clear hbM
      generalize xs.length = n at *
      go_wp2
      try go_ret2
      exact hA.out _

theorem rterm_any (f : Nat) (hE : RExprOK f) : RTermOK (f + 1) := by
  intro P nb N v xs i w h hW hi hf hl hN hz
  by_cases hlt : i < xs.length
  · by_cases h1 : xs[i] = [40]
    · exact rterm_open f hE P nb N v xs i w h hW hlt hf hl hN hz h1
    · by_cases h2 : xs[i] = selfL
      · exact rterm_self P nb N v xs i w h hW hlt hl hN h2
      · exact rterm_word P nb N v xs i w h hW hlt hl hN hz h2 h1
  · exact rterm_out P nb N v xs i w hW (by omega)
theorem rterm_zero : RTermOK 0 := fun P nb N v xs i w _ hW hi hf _ _ _ => rterm_out P nb N v xs i w hW (by omega)
end Go.Proofs.YtlgodpadcilcaaaGreatDoor
namespace Go.Proofs.YtlgodpadcilcaaaGreatDoor
open Go.ChangeShapes Go.WideShapes Go.ChangeAt Go.RowKit

theorem infoI : (Tryz.prog.info? 3).map (fun i => (i.zero, i.size, i.bytes)) = some (some (.int .i64 0), 1, 8) := by kernel_rfl
def intV (j : Nat) : Value := .int .i64 (j : Int)

theorem ButM.grown {G : Nat} {w w' : World} (h : ButM [G] w w') : w.grownBy w' (some G) := ⟨h.os, h.tape, h.output, h.size, fun k hk hn => h.block k hk (fun hm => hn (by simp at hm; rw [hm]))⟩
theorem ButM.of_grown {G : Nat} {w w' : World} (h : w.grownBy w' (some G)) : ButM [G] w w' := ⟨h.os, h.tape, h.output, h.size, fun k hk hn => h.block k hk (fun hm => hn (by cases hm; simp))⟩
theorem NRep.but {G P : Nat} {nb : Option Nat} {N : List NV} {w w' : World} (h : NRep w P nb N) (hb : ButM [G] w w') (hG : G ∉ P :: nb.toList) : NRep w' P nb N := by
  have hlt := h.lt
  have hP : w'.heap[P]? = w.heap[P]? := hb.block P hlt.1 (fun hm => hG (by simp at hm; rw [hm]; simp))
  obtain ⟨v, h1, h2, h3⟩ := h.row
  refine ⟨⟨v, by rw [World.cell?_of_block (w := w) (a := ⟨P, 2, none⟩) hP]; exact h1, h2.kept hb.grown ?_, h3⟩, h.ne, by rw [World.frozen?_of_block (w := w) (a := ⟨P, 2, none⟩) hP]; exact h.frz⟩
  cases hv : v.ownBlock with
  | none => exact .inr (by simp)
  | some g =>
    right
    intro e
    cases e
    exact hG (List.mem_cons_of_mem _ (by rw [← h3, hv]; simp))
theorem NGrow.far {G P : Nat} {nb nb' : Option Nat} {N N' : List NV} {w w' w3 : World} (h : NGrow P nb N w w' nb' N') (hb : ButM [G] w' w3) (hG : G ∉ P :: nb'.toList) (hGw : w.heap.size ≤ G) : NGrow P nb N w w3 nb' N' := by
  have hs := h.but.size
  have hlt := h.rep.lt
  have hP : w3.heap[P]? = w'.heap[P]? := hb.block P hlt.1 (fun hm => hG (by simp at hm; rw [hm]; simp))
  refine ⟨⟨hb.os.trans h.but.os, hb.tape.trans h.but.tape, hb.output.trans h.but.output, Nat.le_trans hs hb.size, fun k hk hm => (hb.block k (by omega) (fun e => by simp at e; omega)).trans (h.but.block k hk hm)⟩, h.rep.but hb hG, h.nbs, fun i hi => ?_, fun i => ?_⟩
  · rw [World.cell?_of_block (w := w') (a := ⟨P, i, none⟩) hP]; exact h.cells i hi
  · rw [World.frozen?_of_block (w := w') (a := ⟨P, i, none⟩) hP]; exact h.frz i

theorem owns_same {w w' : World} {B t sz n : Nat} {v : Value} {xs : List Value} (h : w.ownsRow B t sz v n xs) (hb : ∀ g, v.ownBlock = some g → w'.heap[g]? = w.heap[g]?) : w'.ownsRow B t sz v n xs := by
  refine ⟨h.1, ?_⟩
  rcases h.2 with h0 | ⟨g, cap, cur, rfl, h4, h5, h6⟩
  · exact .inl h0
  · exact .inr ⟨g, cap, cur, rfl, h4, by rw [hb g rfl]; exact h5, h6⟩

/-- the terms read so far: their nodes in row G -/
structure RLoop (P : Nat) (nb : Option Nat) (N : List NV) (w wr : World) (i k : Nat) (nb' : Option Nat) (N' : List NV) (G cap : Nat) (ps : List Nat) (es : List Exp) : Prop where
  grow : NGrow P nb N w wr nb' N'
  cnt : i + N'.length + es.length ≤ k + 1
  row : wr.ownsRow w.heap.size 3 1 (.slice (some ⟨G, 0, none⟩) ps.length cap) ps.length (ps.map intV)
  gm : G ∉ P :: nb'.toList
  len : ps.length = es.length
  trees : ∀ j (h : j < es.length) (h' : j < ps.length), Tree (fun g => w.heap.size ≤ g ∧ g < wr.heap.size ∧ g ∉ P :: nb'.toList ∧ g ≠ G) wr (N ++ N') es[j] ps[j]

/-- the first term -/
theorem RLoop.one {P : Nat} {nb : Option Nat} {N : List NV} {w w1 : World} {i k : Nat} {nb' : Option Nat} {N' : List NV} {x : Exp} {top : Nat} (hg : NGrow P nb N w w1 nb' N') (hn : i + N'.length ≤ k)
    (hT : Tree (fun g => w.heap.size ≤ g ∧ g < w1.heap.size ∧ g ∉ P :: nb'.toList) w1 (N ++ N') x top) : RLoop P nb N w (w1.alloc (.cells #[intV top] 3)) i k nb' N' w1.heap.size 1 [top] [x] := by
  have hal : Below w1.heap.size w1 (w1.alloc (.cells #[intV top] 3)) := (Below.refl _ _).alloc (Nat.le_refl _) _
  have hs := hg.but.size
  have hlt := hg.rep.lt
  have hGn : w1.heap.size ∉ P :: nb'.toList := fun hm => by
    rcases List.mem_cons.1 hm with e | hm
    · omega
    · have := hlt.2 _ (by simpa using hm); omega
  refine ⟨hg.far (ButM.of_below hal) hGn (by omega), by simp; omega, ⟨rfl, .inr ⟨w1.heap.size, 1, #[intV top], rfl, by omega, heap_alloc_new _ _, Nat.le_refl _, by unfold maxLen; omega, rfl, rfl⟩⟩, hGn, rfl, fun j h h' => ?_⟩
  have ej : j = 0 := by simp at h; omega
  subst ej
  exact Tree.keep (fun g hg => ⟨hg.1, by simp; omega, hg.2.2, by omega⟩) (fun g hg => hal.block g hg.2.1) (fun _ _ h => h) _ _ hT

/-- behind one more term, ahead of its being put to the others -/
theorem RLoop.step {P : Nat} {nb : Option Nat} {N : List NV} {w wr w' : World} {i k k' : Nat} {nb' nb'' : Option Nat} {N' N'' : List NV} {G cap : Nat} {ps : List Nat} {es : List Exp} {x : Exp} {top : Nat}
    (h : RLoop P nb N w wr i k nb' N' G cap ps es) (hg : NGrow P nb' (N ++ N') wr w' nb'' N'') (hn : k + 1 + N''.length ≤ k') (hT : Tree (fun g => wr.heap.size ≤ g ∧ g < w'.heap.size ∧ g ∉ P :: nb''.toList) w' (N ++ N' ++ N'') x top)
    {G' cap' : Nat} {w3 : World} (hown : w3.ownsRow w.heap.size 3 1 (.slice (some ⟨G', 0, none⟩) (ps.length + 1) cap') (ps.length + 1) (ps.map intV ++ [intV top])) (hb : ButM [G] w' w3) (hG' : G' = G ∨ w'.heap.size ≤ G') :
    RLoop P nb N w w3 i k' nb'' (N' ++ N'') G' cap' (ps ++ [top]) (es ++ [x]) := by
  have hGl := h.row.lt G rfl
  have hs := hg.but.size
  have hs3 := hb.size
  have hlt := hg.rep.lt
  have hgm2 : G ∉ P :: nb''.toList := fun hm => by
    rcases hg.sub G hm with e | e
    · exact h.gm e
    · omega
  have hgm3 : G' ∉ P :: nb''.toList := fun hm => by
    rcases hG' with e | e
    · rw [e] at hm; exact hgm2 hm
    · rcases List.mem_cons.1 hm with e2 | hm
      · omega
      · have := hlt.2 _ (by simpa using hm); omega
  have hlen := h.len
  refine ⟨(h.grow.trans hg).far hb hgm2 hGl.1, ?_, ?_, hgm3, by simp [hlen], fun j hj hj' => ?_⟩
  · have := h.cnt; simp; omega
  · have e : (ps ++ [top]).length = ps.length + 1 := by simp
    rw [e, List.map_append]
    exact hown
  · rw [← List.append_assoc]
    by_cases hlt2 : j < es.length
    · rw [List.getElem_append_left hlt2, List.getElem_append_left (by omega)]
      refine Tree.keep (fun g hg' => ⟨hg'.1, by omega, fun hm => ?_, ?_⟩) (fun g hg' => (hb.block g (by omega) (by simp; exact hg'.2.2.2)).trans (hg.but.block g hg'.2.1 hg'.2.2.1)) get_append _ _ (h.trees j hlt2 (by omega))
      · rcases hg.sub g hm with e | e
        · exact hg'.2.2.1 e
        · omega
      · rcases hG' with e | e
        · rw [e]; exact hg'.2.2.2
        · omega
    · have e : j = es.length := by simp at hj; omega
      subst e
      rw [List.getElem_append_right (Nat.le_refl _), List.getElem_append_right (by omega)]
      simp only [Nat.sub_self, hlen, List.getElem_singleton]
      refine Tree.keep (fun g hg' => ⟨by omega, by omega, hg'.2.2, ?_⟩) (fun g hg' => hb.block g hg'.2.1 (by simp; omega)) (fun _ _ h => h) _ _ hT
      rcases hG' with e | e
      · rw [e]; omega
      · omega

/-- the join's node -/
theorem RLoop.join {P : Nat} {nb : Option Nat} {N : List NV} {w wr w' : World} {i k : Nat} {nb' nb'' : Option Nat} {N' : List NV} {G cap kk : Nat} {ps : List Nat} {es : List Exp}
    (h : RLoop P nb N w wr i k nb' N' G cap ps es) (hk : kk = 3 ∨ kk = 4 ∨ (kk = 5 ∧ es.length = 2)) (hg : NGrow P nb' (N ++ N') wr w' nb'' [⟨sgn kk, [], [], some ⟨G, 0, none⟩, ps.length, cap⟩]) :
    NGrow P nb N w w' nb'' (N' ++ [⟨sgn kk, [], [], some ⟨G, 0, none⟩, ps.length, cap⟩]) ∧ Tree (fun g => w.heap.size ≤ g ∧ g < w'.heap.size ∧ g ∉ P :: nb''.toList) w' (N ++ (N' ++ [⟨sgn kk, [], [], some ⟨G, 0, none⟩, ps.length, cap⟩])) (.join kk es) (N ++ N').length := by
  have hGl := h.row.lt G rfl
  have hs := hg.but.size
  have hgm2 : G ∉ P :: nb''.toList := fun hm => by
    rcases hg.sub G hm with e | e
    · exact h.gm e
    · omega
  refine ⟨h.grow.trans hg, ?_⟩
  rw [← List.append_assoc]
  simp only [Tree]
  refine ⟨G, cap, ps, ?_, ⟨hGl.1, by omega, hgm2⟩, hk, h.len, fun j v hv => ?_, ?_⟩
  · rw [List.getElem?_append_right (Nat.le_refl _), Nat.sub_self]
    simp [h.len]
  · rw [World.cell?_of_block (w := wr) (a := ⟨G, 0 + j, none⟩) (hg.but.block G hGl.2 h.gm), Nat.zero_add]
    have hj := (List.getElem?_eq_some_iff.1 hv).1
    rw [h.row.cellAt j (by simpa using hj)]
    exact hv
  · rw [Tree.all_iff _ _ h.len]
    intro j hj hj'
    refine Tree.keep (fun g hg' => ⟨hg'.1, by omega, fun hm => ?_⟩) (fun g hg' => hg.but.block g hg'.2.1 hg'.2.2.1) get_append _ _ (h.trees j hj hj')
    rcases hg.sub g hm with e | e
    · exact hg'.2.2.1 e
    · omega
end Go.Proofs.YtlgodpadcilcaaaGreatDoor
namespace Go.Proofs.YtlgodpadcilcaaaGreatDoor
open Go.ChangeShapes Go.WideShapes Go.ChangeAt Go.RowKit


theorem exprL_or {l : List (List UInt8)} {x : Exp} {r : List (List UInt8)} (he : termL l = some (x, [124] :: r)) : exprL l = match manyL [124] ([124] :: r) with
    | none => none
    | some (es, r') => if 3 = 5 ∧ es.length ≠ 1 then none else some (.join 3 (x :: es), r') := by
  have h := exprL_eq l
  rw [he] at h
  exact h

set_option maxRecDepth 100000 in
set_option maxHeartbeats 8000000 in
theorem rexpr_or (f : Nat) (hT : RTermOK f) (P : Nat) (nb : Option Nat) (N : List NV) (v : Value) (xs : List (List UInt8)) (i : Nat) (w : World) (h : NRep w P nb N) (hW : WordsR w (P :: nb.toList) v xs) (hi : i ≤ xs.length) (hf : xs.length - i ≤ f) (hl : xs.length ≤ 1000000) (hN : N.length + xs.length - i ≤ 1000000) (hz : ∀ x ∈ xs, x.length ≤ 1000000)
    (x : Exp) (r : List (List UInt8)) (he : termL (xs.drop i) = some (x, [124] :: r)) :
    Calls Tryz.prog 52 #[.pointer (some ⟨P, 0, none⟩), v, .int .i64 (i : Int)] w (RAns P nb N w xs i (exprL (xs.drop i))) := by
  obtain ⟨i0, hi0, hz0, hz1, hz2⟩ := info_parts infoI
  have hX := hT P nb N v xs i w h hW hi hf hl hN hz
  rw [he] at hX
  have HTL : Hid (exprL (xs.drop i) = _) := exprL_or he
  have hW0 := hW
  obtain ⟨b, o, c, rfl, hc, hb, hbM, hcell⟩ := hW
  have hX2 : Calls Tryz.prog 79 #[.pointer (some ⟨P, 0, none⟩), .slice (some ⟨b, o, none⟩) xs.length c, .int .i64 (i : Int)] w fun e w' => ∃ top k nb' N', e = .returned (.tuple #[.int .i64 ((top : Nat) : Int), .int .i64 ((k : Nat) : Int)]) ∧ k ≤ xs.length ∧ i < k ∧ [124] :: r = xs.drop k ∧ NGrow P nb N w w' nb' N' ∧ i + N'.length ≤ k ∧ Tree (fun g => w.heap.size ≤ g ∧ g < w'.heap.size ∧ g ∉ P :: nb'.toList) w' (N ++ N') x top := hX
  have HNone : Hid (∀ e w', exprL (xs.drop i) = none → (∃ k : Int, e = .returned (.tuple #[.int .i64 (-1), .int .i64 k])) → ButM (P :: nb.toList) w w' → RAns P nb N w xs i (exprL (xs.drop i)) e w') := fun e w' h0 hk hbq => by rw [h0]; exact ⟨hk, hbq⟩
  have HSome : Hid (∀ w' y k nb' N' top, exprL (xs.drop i) = some (y, xs.drop k) → k ≤ xs.length → i < k → NGrow P nb N w w' nb' N' → i + N'.length ≤ k → Tree (fun g => w.heap.size ≤ g ∧ g < w'.heap.size ∧ g ∉ P :: nb'.toList) w' (N ++ N') y top → RAns P nb N w xs i (exprL (xs.drop i)) (.returned (.tuple #[.int .i64 ((top : Nat) : Int), .int .i64 ((k : Nat) : Int)])) w') := fun w' y k nb' N' top h0 h1 h2 h3 h4 h5 => by
    rw [h0]
    exact ⟨top, k, nb', N', rfl, h1, h2, rfl, h3, h4, h5⟩
  have HWd : Hid (∀ nb' N' wr, NGrow P nb N w wr nb' N' → WordsR wr (P :: nb'.toList) (.slice (some ⟨b, o, none⟩) xs.length c) xs) := fun nb' N' wr hg => hW0.grow hg
  have HCell : Hid (∀ nb' N' wr, NGrow P nb N w wr nb' N' → ∀ j (h : j < xs.length), wr.cell? ⟨b, o + j, none⟩ = some (.string ⟨xs[j].toArray⟩)) := fun nb' N' wr hg j hj => by
    rw [World.cell?_of_block (w := w) (a := ⟨b, o + j, none⟩) (hg.but.block b hb hbM)]; exact hcell j hj
  have HZ : Hid (∀ x ∈ xs, x.length ≤ 1000000) := hz
  clear hX he hW0 hbM hcell h hz
  generalize RAns P nb N w xs i (exprL (xs.drop i)) = R at *
  go_enter Tryz.func52, Tryz.ntmps52
  go_wp2_with fail
  refine hX2.mono ?_
  clear hX2
  rintro e w1 ⟨top, k0, nb1, N1, rfl, hk0, hik0, hrest, hg1, hn1, hT1⟩
  have hk1 : k0 < xs.length := by
    have := congrArg List.length hrest
    simp at this; omega
  have hxk : xs[k0] = [124] := by
    have e := List.drop_eq_getElem_cons hk1
    rw [e] at hrest
    exact (List.cons.inj hrest).1.symm
  have c1 : w1.cell? ⟨b, o + k0, none⟩ = some (.string ⟨#[124]⟩) := by rw [HCell.out _ _ _ hg1 k0 hk1, hxk]
  have HRL := RLoop.one hg1 hn1 hT1
  have HRL1 : Hid _ := HRL
  have HM0 : Hid (manyL [124] ([124] :: r) = match manyL [124] (xs.drop k0) with | none => none | some (es', r') => some ([] ++ es', r')) := by
    show _ = _
    rw [← hrest]
    cases manyL [124] ([124] :: r) with
    | none => rfl
    | some q => rfl
  have HXK : Hid (xs[k0] = [124]) := hxk
  clear HRL hg1 hT1 hrest hxk
  unfold intV at HRL1
  obtain ⟨n, hnx⟩ : ∃ n, xs.length = n := ⟨_, rfl⟩
  have HNX : Hid (xs.length = n) := hnx
  have hk1n : k0 < n := by omega
  rw [hnx] at hc hi hf hl hN hk0 ⊢
  clear hnx
  go_wp2
  have hq0 : decide ((top : Int) < 0) = false := decide_eq_false (by omega)
  have hq1 : decide (n ≤ k0) = false := decide_eq_false (by omega)
  simp only [hq0, hq1, Bool.or_self]
  go_loopw [9, 11] (fun s9 s11 wr => ∃ (k G cap pl : Nat) (ps : List Nat) (es : List Exp) (nb' : Option Nat) (N' : List NV), s9 = .int .i64 (k : Int) ∧ s11 = .slice (some ⟨G, 0, none⟩) pl cap ∧ k ≤ n ∧ k0 ≤ k ∧ pl ≤ k + 1 ∧ es.length < pl ∧ pl ≤ es.length + 1 ∧ Hid (pl = ps.length) ∧ i + N'.length + es.length ≤ k ∧ (1 ≤ es.length ∨ k = k0) ∧ Hid (RLoop P nb N w wr i k nb' N' G cap ps (x :: es)) ∧ Hid (manyL [124] ([124] :: r) = match manyL [124] (xs.drop k) with | none => none | some (es', r') => some (es ++ es', r'))) (fun s9 _ _ => n - (intOf s9).toNat)
  case atStart =>
    refine ⟨k0, w1.heap.size, 1, 1, [top], [], nb1, N1, rfl, rfl, hk0, Nat.le_refl _, by omega, by simp, by simp, rfl, by simpa using hn1, .inr rfl, ?_, HM0.out⟩
    exact HRL1.out
  case round =>
    obtain ⟨k, G, cap, pl, ps, es, nb', N', rfl, rfl, hkn, hkk, hpl, hple, hple2, HPL, hcnt, hone, HRL, HM⟩ := hrel
    have hnx := HNX.out
    have exitT : Hid (k = n ∨ (∃ h : k < xs.length, xs[k] ≠ [124])) → Hid (1 ≤ es.length ∧ exprL (xs.drop i) = if 3 = 5 ∧ es.length ≠ 1 then none else some (.join 3 (x :: es), xs.drop k)) := fun hx => by
      have hone' : 1 ≤ es.length := by
        rcases hone with h1 | h1
        · exact h1
        · rcases hx.out with h2 | ⟨h2, h3⟩
          · omega
          · subst h1; exact absurd HXK.out h3
      refine ⟨hone', ?_⟩
      have hm : manyL [124] (xs.drop k) = some ([], xs.drop k) := by
        rcases hx.out with h2 | ⟨h2, h3⟩
        · rw [h2, ← hnx, List.drop_length, manyL_nil]
        · rw [List.drop_eq_getElem_cons h2, manyL_other _ _ _ h3]
      rw [HTL.out, HM.out, hm]
      simp
    have HEx : Hid _ := exitT
    clear exitT
    have hNd : N.length + N'.length ≤ 1000000 := by omega
    obtain ⟨m, hm⟩ : ∃ m, (N ++ N').length = m := ⟨_, rfl⟩
    have HNode : Hid (∀ w2, w2 = wr → Calls Tryz.prog 80 #[.pointer (some ⟨P, 0, none⟩), .agg #[.int .u8 (((⟨#[124]⟩ : ByteArray)[0]'(by decide)).toNat : Int), .string ⟨#[]⟩, .string ⟨#[]⟩, .slice (some ⟨G, 0, none⟩) pl cap]] w2 fun e w' => e = .returned (.int .i64 (m : Nat)) ∧ ∃ nb'', NGrow P nb' (N ++ N') w2 w' nb'' [⟨sgn 3, [], [], some ⟨G, 0, none⟩, pl, cap⟩]) := fun w2 hw2 => by
      subst hw2
      have e : (((⟨#[124]⟩ : ByteArray)[0]'(by decide)).toNat : Int) = sgn 3 := by decide
      rw [e, ← hm]
      exact node_grow P nb' (N ++ N') ⟨sgn 3, [], [], some ⟨G, 0, none⟩, pl, cap⟩ _ HRL.out.grow.rep (by simp; omega)
    have HFin : Hid (∀ w' nb'', (3 = 3 ∨ 3 = 4 ∨ (3 = 5 ∧ es.length = 1)) → 1 ≤ es.length → exprL (xs.drop i) = some (.join 3 (x :: es), xs.drop k) → NGrow P nb' (N ++ N') wr w' nb'' [⟨sgn 3, [], [], some ⟨G, 0, none⟩, pl, cap⟩] → R (.returned (.tuple #[.int .i64 (m : Nat), .int .i64 ((k : Nat) : Int)])) w') := fun w' nb'' hkk3 h1 h2 hg => by
      rw [HPL.out] at hg
      rw [← hm]
      obtain ⟨a1, a2⟩ := HRL.out.join (kk := 3) (orTo hkk3 (fun h => orTo h (fun h => ⟨h.1, by simp; omega⟩))) hg
      exact HSome.out w' _ k nb'' _ _ h2 (by omega) (by omega) a1 (by simp; omega) a2
    clear hm
    by_cases hklt : k < n
    · have hkx : k < xs.length := by omega
      have c2 := HCell.out _ _ _ HRL.out.grow k hkx
      by_cases hq : xs[k] = [124]
      · rw [hq] at c2
        have hY := hT P nb' (N ++ N') (.slice (some ⟨b, o, none⟩) n c) xs (k + 1) wr HRL.out.grow.rep (by have := HWd.out _ _ _ HRL.out.grow; rw [hnx] at this; exact this) (by omega) (by omega) (by omega) (by simp; omega) HZ.out
        have e1 : (((k + 1 : Nat) : Int)) = (k : Int) + 1 := by omega
        rw [e1] at hY
        clear e1
        have hdk := List.drop_eq_getElem_cons hkx
        rw [hq] at hdk
        cases het : termL (xs.drop (k + 1)) with
        | none =>
          rw [het] at hY
          have hY2 : Calls Tryz.prog 79 #[.pointer (some ⟨P, 0, none⟩), .slice (some ⟨b, o, none⟩) n c, .int .i64 ((k : Int) + 1)] wr fun e w' => (∃ k : Int, e = .returned (.tuple #[.int .i64 (-1), .int .i64 k])) ∧ ButM (P :: nb'.toList) wr w' := hY
          have HNo : Hid (exprL (xs.drop i) = none) := by
            show _ = _
            rw [HTL.out, HM.out, hdk, manyL_none _ _ het]
          have HGr : Hid (NGrow P nb N w wr nb' N') := HRL.out.grow
          clear hY hq hdk het HM HTL HEx HNode HFin HRL
          go_wp2_with (go_at_call 79; refine hY2.mono ?_; rintro e w' ⟨⟨kz, rfl⟩, hbm⟩)
          try go_ret2
          exact HNone.out _ _ HNo.out ⟨_, rfl⟩ (HGr.out.thenBut ⟨hbm.os, hbm.tape, hbm.output, hbm.size, hbm.block⟩)
        | some q =>
          obtain ⟨y, r2⟩ := q
          rw [het] at hY
          have hY2 : Calls Tryz.prog 79 #[.pointer (some ⟨P, 0, none⟩), .slice (some ⟨b, o, none⟩) n c, .int .i64 ((k : Int) + 1)] wr fun e w' => ∃ top k2 nb'' N'', e = .returned (.tuple #[.int .i64 ((top : Nat) : Int), .int .i64 ((k2 : Nat) : Int)]) ∧ k2 ≤ xs.length ∧ k + 1 < k2 ∧ r2 = xs.drop k2 ∧ NGrow P nb' (N ++ N') wr w' nb'' N'' ∧ k + 1 + N''.length ≤ k2 ∧ Tree (fun g => wr.heap.size ≤ g ∧ g < w'.heap.size ∧ g ∉ P :: nb''.toList) w' (N ++ N' ++ N'') y top := hY
          have HM2 : Hid (manyL [124] ([124] :: r) = match manyL [124] r2 with | none => none | some (es', r') => some ((es ++ [y]) ++ es', r')) := by
            show _ = _
            rw [HM.out, hdk, manyL_some _ _ het]
            cases manyL [124] r2 with
            | none => rfl
            | some q => simp
          clear hY hq hdk het HM HTL HEx HNode HFin
          go_wp2_with fail
          refine hY2.mono ?_
          clear hY2
          rintro e w2 ⟨top2, k2, nb2, N2, rfl, hk2, hkk2, hr2, hg2, hn2, hT2⟩
          have hGl := HRL.out.row.lt G rfl
          have hs2 := hg2.but.size
          have hown2 : (w2.alloc (.cells #[.int .i64 (top2 : Int)] 3)).ownsRow w.heap.size 3 1 (.slice (some ⟨G, 0, none⟩) pl cap) pl (ps.map intV) := by
            have h0 := HRL.out.row
            rw [← HPL.out] at h0
            exact World.ownsRow.alloc (owns_same h0 (fun g hg => by cases hg; exact hg2.but.block G hGl.2 HRL.out.gm)) _
          have HG2 : Hid _ := hg2
          have HT2 : Hid _ := hT2
          have HR2 : Hid (r2 = xs.drop k2) := hr2
          clear hg2 hT2 hr2
          go_wp2_with (at_builtin; refine wpList_append_lies _ rfl _ _ 70 rfl w.heap.size 3 i0 _ 1 8 Tryz.underlying70 hi0 hz0 hz1 hz2 rfl (by decide) _ _ _ rfl hown2 ⟨w2.heap.size, 0, none⟩ 1 1 [.int .i64 (top2 : Int)] rfl rfl ?_ (fun x hx => by simp at hx; subst hx; rfl) (by decide) (by unfold maxLen; omega) (by omega) (by simp; omega) (w2.heap.size + 1) (by simp) ?_; (exact World.news_of_block (cs := #[.int .i64 (top2 : Int)]) (t := 3) (fr := (0, 0)) (heap_alloc_new w2 _)); intro g3 cap3 w3 hown3 hgrow3 hat3 hlt3)
          go_roundw
          case rel =>
            have hst := HRL.out.step HG2.out hn2 HT2.out (G' := g3) (cap' := cap3) (w3 := w3) (by rw [← HPL.out]; exact hown3) ((ButM.of_below ((Below.refl _ _).alloc (Nat.le_refl _) _)).trans (ButM.of_grown hgrow3)) (by
              rcases hat3 with e | e
              · left; cases e; rfl
              · right; omega)
            have hcn := hst.cnt
            simp only [List.length_cons, List.length_append, List.length_nil] at hcn
            refine ⟨k2, g3, cap3, pl + 1, ps ++ [top2], es ++ [y], nb2, N' ++ N2, rfl, rfl, by omega, by omega, by omega, by simp; omega, by simp; omega, by show _ = _; rw [HPL.out]; simp, by simp; omega, .inl (by simp), hst, ?_⟩
            rw [← HR2.out]
            exact HM2.out
          case measure => simp [intOf]; omega
      · have hqb : ((⟨xs[k].toArray⟩ : ByteArray).toList == [124]) = false := by rw [ByteArray.toList_eq, beq_eq_false_iff_ne]; exact hq
        obtain ⟨ho1, HEE⟩ := (HEx.out (.inr ⟨hkx, hq⟩)).out
        have HE2 : Hid _ := HEE
        clear HEE hq HM HTL HEx HRL
        generalize (⟨xs[k].toArray⟩ : ByteArray) = X at *
        have HE3 : Hid (exprL (xs.drop i) = some (.join 3 (x :: es), xs.drop k)) := by show _ = _; rw [HE2.out, if_neg (by simp)]
        have hNo := HNode.out _ rfl
        go_wp2_with (go_at_call 80; refine hNo.mono ?_; rintro e w' ⟨rfl, nb'', hg⟩)
        try go_ret2
        exact HFin.out _ _ (by simp) ho1 HE3.out hg
    · obtain rfl : k = n := by omega
      obtain ⟨ho1, HEE⟩ := (HEx.out (.inl rfl)).out
      have HE2 : Hid _ := HEE
      clear HEE HM HTL HEx HRL
      have HE3 : Hid (exprL (xs.drop i) = some (.join 3 (x :: es), xs.drop k)) := by show _ = _; rw [HE2.out, if_neg (by simp)]
      have hNo := HNode.out _ rfl
      go_wp2_with (go_at_call 80; refine hNo.mono ?_; rintro e w' ⟨rfl, nb'', hg⟩)
      try go_ret2
      exact HFin.out _ _ (by simp) ho1 HE3.out hg
end Go.Proofs.YtlgodpadcilcaaaGreatDoor
namespace Go.Proofs.YtlgodpadcilcaaaGreatDoor
open Go.ChangeShapes Go.WideShapes Go.ChangeAt Go.RowKit


theorem exprL_and {l : List (List UInt8)} {x : Exp} {r : List (List UInt8)} (he : termL l = some (x, [38] :: r)) : exprL l = match manyL [38] ([38] :: r) with
    | none => none
    | some (es, r') => if 4 = 5 ∧ es.length ≠ 1 then none else some (.join 4 (x :: es), r') := by
  have h := exprL_eq l
  rw [he] at h
  exact h

set_option maxRecDepth 100000 in
set_option maxHeartbeats 8000000 in
theorem rexpr_and (f : Nat) (hT : RTermOK f) (P : Nat) (nb : Option Nat) (N : List NV) (v : Value) (xs : List (List UInt8)) (i : Nat) (w : World) (h : NRep w P nb N) (hW : WordsR w (P :: nb.toList) v xs) (hi : i ≤ xs.length) (hf : xs.length - i ≤ f) (hl : xs.length ≤ 1000000) (hN : N.length + xs.length - i ≤ 1000000) (hz : ∀ x ∈ xs, x.length ≤ 1000000)
    (x : Exp) (r : List (List UInt8)) (he : termL (xs.drop i) = some (x, [38] :: r)) :
    Calls Tryz.prog 52 #[.pointer (some ⟨P, 0, none⟩), v, .int .i64 (i : Int)] w (RAns P nb N w xs i (exprL (xs.drop i))) := by
  obtain ⟨i0, hi0, hz0, hz1, hz2⟩ := info_parts infoI
  have hX := hT P nb N v xs i w h hW hi hf hl hN hz
  rw [he] at hX
  have HTL : Hid (exprL (xs.drop i) = _) := exprL_and he
  have hW0 := hW
  obtain ⟨b, o, c, rfl, hc, hb, hbM, hcell⟩ := hW
  have hX2 : Calls Tryz.prog 79 #[.pointer (some ⟨P, 0, none⟩), .slice (some ⟨b, o, none⟩) xs.length c, .int .i64 (i : Int)] w fun e w' => ∃ top k nb' N', e = .returned (.tuple #[.int .i64 ((top : Nat) : Int), .int .i64 ((k : Nat) : Int)]) ∧ k ≤ xs.length ∧ i < k ∧ [38] :: r = xs.drop k ∧ NGrow P nb N w w' nb' N' ∧ i + N'.length ≤ k ∧ Tree (fun g => w.heap.size ≤ g ∧ g < w'.heap.size ∧ g ∉ P :: nb'.toList) w' (N ++ N') x top := hX
  have HNone : Hid (∀ e w', exprL (xs.drop i) = none → (∃ k : Int, e = .returned (.tuple #[.int .i64 (-1), .int .i64 k])) → ButM (P :: nb.toList) w w' → RAns P nb N w xs i (exprL (xs.drop i)) e w') := fun e w' h0 hk hbq => by rw [h0]; exact ⟨hk, hbq⟩
  have HSome : Hid (∀ w' y k nb' N' top, exprL (xs.drop i) = some (y, xs.drop k) → k ≤ xs.length → i < k → NGrow P nb N w w' nb' N' → i + N'.length ≤ k → Tree (fun g => w.heap.size ≤ g ∧ g < w'.heap.size ∧ g ∉ P :: nb'.toList) w' (N ++ N') y top → RAns P nb N w xs i (exprL (xs.drop i)) (.returned (.tuple #[.int .i64 ((top : Nat) : Int), .int .i64 ((k : Nat) : Int)])) w') := fun w' y k nb' N' top h0 h1 h2 h3 h4 h5 => by
    rw [h0]
    exact ⟨top, k, nb', N', rfl, h1, h2, rfl, h3, h4, h5⟩
  have HWd : Hid (∀ nb' N' wr, NGrow P nb N w wr nb' N' → WordsR wr (P :: nb'.toList) (.slice (some ⟨b, o, none⟩) xs.length c) xs) := fun nb' N' wr hg => hW0.grow hg
  have HCell : Hid (∀ nb' N' wr, NGrow P nb N w wr nb' N' → ∀ j (h : j < xs.length), wr.cell? ⟨b, o + j, none⟩ = some (.string ⟨xs[j].toArray⟩)) := fun nb' N' wr hg j hj => by
    rw [World.cell?_of_block (w := w) (a := ⟨b, o + j, none⟩) (hg.but.block b hb hbM)]; exact hcell j hj
  have HZ : Hid (∀ x ∈ xs, x.length ≤ 1000000) := hz
  clear hX he hW0 hbM hcell h hz
  generalize RAns P nb N w xs i (exprL (xs.drop i)) = R at *
  go_enter Tryz.func52, Tryz.ntmps52
  go_wp2_with fail
  refine hX2.mono ?_
  clear hX2
  rintro e w1 ⟨top, k0, nb1, N1, rfl, hk0, hik0, hrest, hg1, hn1, hT1⟩
  have hk1 : k0 < xs.length := by
    have := congrArg List.length hrest
    simp at this; omega
  have hxk : xs[k0] = [38] := by
    have e := List.drop_eq_getElem_cons hk1
    rw [e] at hrest
    exact (List.cons.inj hrest).1.symm
  have c1 : w1.cell? ⟨b, o + k0, none⟩ = some (.string ⟨#[38]⟩) := by rw [HCell.out _ _ _ hg1 k0 hk1, hxk]
  have HRL := RLoop.one hg1 hn1 hT1
  have HRL1 : Hid _ := HRL
  have HM0 : Hid (manyL [38] ([38] :: r) = match manyL [38] (xs.drop k0) with | none => none | some (es', r') => some ([] ++ es', r')) := by
    show _ = _
    rw [← hrest]
    cases manyL [38] ([38] :: r) with
    | none => rfl
    | some q => rfl
  have HXK : Hid (xs[k0] = [38]) := hxk
  clear HRL hg1 hT1 hrest hxk
  unfold intV at HRL1
  obtain ⟨n, hnx⟩ : ∃ n, xs.length = n := ⟨_, rfl⟩
  have HNX : Hid (xs.length = n) := hnx
  have hk1n : k0 < n := by omega
  rw [hnx] at hc hi hf hl hN hk0 ⊢
  clear hnx
  go_wp2
  have hq0 : decide ((top : Int) < 0) = false := decide_eq_false (by omega)
  have hq1 : decide (n ≤ k0) = false := decide_eq_false (by omega)
  simp only [hq0, hq1, Bool.or_self]
  go_loopw [9, 11] (fun s9 s11 wr => ∃ (k G cap pl : Nat) (ps : List Nat) (es : List Exp) (nb' : Option Nat) (N' : List NV), s9 = .int .i64 (k : Int) ∧ s11 = .slice (some ⟨G, 0, none⟩) pl cap ∧ k ≤ n ∧ k0 ≤ k ∧ pl ≤ k + 1 ∧ es.length < pl ∧ pl ≤ es.length + 1 ∧ Hid (pl = ps.length) ∧ i + N'.length + es.length ≤ k ∧ (1 ≤ es.length ∨ k = k0) ∧ Hid (RLoop P nb N w wr i k nb' N' G cap ps (x :: es)) ∧ Hid (manyL [38] ([38] :: r) = match manyL [38] (xs.drop k) with | none => none | some (es', r') => some (es ++ es', r'))) (fun s9 _ _ => n - (intOf s9).toNat)
  case atStart =>
    refine ⟨k0, w1.heap.size, 1, 1, [top], [], nb1, N1, rfl, rfl, hk0, Nat.le_refl _, by omega, by simp, by simp, rfl, by simpa using hn1, .inr rfl, ?_, HM0.out⟩
    exact HRL1.out
  case round =>
    obtain ⟨k, G, cap, pl, ps, es, nb', N', rfl, rfl, hkn, hkk, hpl, hple, hple2, HPL, hcnt, hone, HRL, HM⟩ := hrel
    have hnx := HNX.out
    have exitT : Hid (k = n ∨ (∃ h : k < xs.length, xs[k] ≠ [38])) → Hid (1 ≤ es.length ∧ exprL (xs.drop i) = if 4 = 5 ∧ es.length ≠ 1 then none else some (.join 4 (x :: es), xs.drop k)) := fun hx => by
      have hone' : 1 ≤ es.length := by
        rcases hone with h1 | h1
        · exact h1
        · rcases hx.out with h2 | ⟨h2, h3⟩
          · omega
          · subst h1; exact absurd HXK.out h3
      refine ⟨hone', ?_⟩
      have hm : manyL [38] (xs.drop k) = some ([], xs.drop k) := by
        rcases hx.out with h2 | ⟨h2, h3⟩
        · rw [h2, ← hnx, List.drop_length, manyL_nil]
        · rw [List.drop_eq_getElem_cons h2, manyL_other _ _ _ h3]
      rw [HTL.out, HM.out, hm]
      simp
    have HEx : Hid _ := exitT
    clear exitT
    have hNd : N.length + N'.length ≤ 1000000 := by omega
    obtain ⟨m, hm⟩ : ∃ m, (N ++ N').length = m := ⟨_, rfl⟩
    have HNode : Hid (∀ w2, w2 = wr → Calls Tryz.prog 80 #[.pointer (some ⟨P, 0, none⟩), .agg #[.int .u8 (((⟨#[38]⟩ : ByteArray)[0]'(by decide)).toNat : Int), .string ⟨#[]⟩, .string ⟨#[]⟩, .slice (some ⟨G, 0, none⟩) pl cap]] w2 fun e w' => e = .returned (.int .i64 (m : Nat)) ∧ ∃ nb'', NGrow P nb' (N ++ N') w2 w' nb'' [⟨sgn 4, [], [], some ⟨G, 0, none⟩, pl, cap⟩]) := fun w2 hw2 => by
      subst hw2
      have e : (((⟨#[38]⟩ : ByteArray)[0]'(by decide)).toNat : Int) = sgn 4 := by decide
      rw [e, ← hm]
      exact node_grow P nb' (N ++ N') ⟨sgn 4, [], [], some ⟨G, 0, none⟩, pl, cap⟩ _ HRL.out.grow.rep (by simp; omega)
    have HFin : Hid (∀ w' nb'', (4 = 3 ∨ 4 = 4 ∨ (4 = 5 ∧ es.length = 1)) → 1 ≤ es.length → exprL (xs.drop i) = some (.join 4 (x :: es), xs.drop k) → NGrow P nb' (N ++ N') wr w' nb'' [⟨sgn 4, [], [], some ⟨G, 0, none⟩, pl, cap⟩] → R (.returned (.tuple #[.int .i64 (m : Nat), .int .i64 ((k : Nat) : Int)])) w') := fun w' nb'' hkk3 h1 h2 hg => by
      rw [HPL.out] at hg
      rw [← hm]
      obtain ⟨a1, a2⟩ := HRL.out.join (kk := 4) (orTo hkk3 (fun h => orTo h (fun h => ⟨h.1, by simp; omega⟩))) hg
      exact HSome.out w' _ k nb'' _ _ h2 (by omega) (by omega) a1 (by simp; omega) a2
    clear hm
    by_cases hklt : k < n
    · have hkx : k < xs.length := by omega
      have c2 := HCell.out _ _ _ HRL.out.grow k hkx
      by_cases hq : xs[k] = [38]
      · rw [hq] at c2
        have hY := hT P nb' (N ++ N') (.slice (some ⟨b, o, none⟩) n c) xs (k + 1) wr HRL.out.grow.rep (by have := HWd.out _ _ _ HRL.out.grow; rw [hnx] at this; exact this) (by omega) (by omega) (by omega) (by simp; omega) HZ.out
        have e1 : (((k + 1 : Nat) : Int)) = (k : Int) + 1 := by omega
        rw [e1] at hY
        clear e1
        have hdk := List.drop_eq_getElem_cons hkx
        rw [hq] at hdk
        cases het : termL (xs.drop (k + 1)) with
        | none =>
          rw [het] at hY
          have hY2 : Calls Tryz.prog 79 #[.pointer (some ⟨P, 0, none⟩), .slice (some ⟨b, o, none⟩) n c, .int .i64 ((k : Int) + 1)] wr fun e w' => (∃ k : Int, e = .returned (.tuple #[.int .i64 (-1), .int .i64 k])) ∧ ButM (P :: nb'.toList) wr w' := hY
          have HNo : Hid (exprL (xs.drop i) = none) := by
            show _ = _
            rw [HTL.out, HM.out, hdk, manyL_none _ _ het]
          have HGr : Hid (NGrow P nb N w wr nb' N') := HRL.out.grow
          clear hY hq hdk het HM HTL HEx HNode HFin HRL
          go_wp2_with (go_at_call 79; refine hY2.mono ?_; rintro e w' ⟨⟨kz, rfl⟩, hbm⟩)
          try go_ret2
          exact HNone.out _ _ HNo.out ⟨_, rfl⟩ (HGr.out.thenBut ⟨hbm.os, hbm.tape, hbm.output, hbm.size, hbm.block⟩)
        | some q =>
          obtain ⟨y, r2⟩ := q
          rw [het] at hY
          have hY2 : Calls Tryz.prog 79 #[.pointer (some ⟨P, 0, none⟩), .slice (some ⟨b, o, none⟩) n c, .int .i64 ((k : Int) + 1)] wr fun e w' => ∃ top k2 nb'' N'', e = .returned (.tuple #[.int .i64 ((top : Nat) : Int), .int .i64 ((k2 : Nat) : Int)]) ∧ k2 ≤ xs.length ∧ k + 1 < k2 ∧ r2 = xs.drop k2 ∧ NGrow P nb' (N ++ N') wr w' nb'' N'' ∧ k + 1 + N''.length ≤ k2 ∧ Tree (fun g => wr.heap.size ≤ g ∧ g < w'.heap.size ∧ g ∉ P :: nb''.toList) w' (N ++ N' ++ N'') y top := hY
          have HM2 : Hid (manyL [38] ([38] :: r) = match manyL [38] r2 with | none => none | some (es', r') => some ((es ++ [y]) ++ es', r')) := by
            show _ = _
            rw [HM.out, hdk, manyL_some _ _ het]
            cases manyL [38] r2 with
            | none => rfl
            | some q => simp
          clear hY hq hdk het HM HTL HEx HNode HFin
          go_wp2_with fail
          refine hY2.mono ?_
          clear hY2
          rintro e w2 ⟨top2, k2, nb2, N2, rfl, hk2, hkk2, hr2, hg2, hn2, hT2⟩
          have hGl := HRL.out.row.lt G rfl
          have hs2 := hg2.but.size
          have hown2 : (w2.alloc (.cells #[.int .i64 (top2 : Int)] 3)).ownsRow w.heap.size 3 1 (.slice (some ⟨G, 0, none⟩) pl cap) pl (ps.map intV) := by
            have h0 := HRL.out.row
            rw [← HPL.out] at h0
            exact World.ownsRow.alloc (owns_same h0 (fun g hg => by cases hg; exact hg2.but.block G hGl.2 HRL.out.gm)) _
          have HG2 : Hid _ := hg2
          have HT2 : Hid _ := hT2
          have HR2 : Hid (r2 = xs.drop k2) := hr2
          clear hg2 hT2 hr2
          go_wp2_with (at_builtin; refine wpList_append_lies _ rfl _ _ 70 rfl w.heap.size 3 i0 _ 1 8 Tryz.underlying70 hi0 hz0 hz1 hz2 rfl (by decide) _ _ _ rfl hown2 ⟨w2.heap.size, 0, none⟩ 1 1 [.int .i64 (top2 : Int)] rfl rfl ?_ (fun x hx => by simp at hx; subst hx; rfl) (by decide) (by unfold maxLen; omega) (by omega) (by simp; omega) (w2.heap.size + 1) (by simp) ?_; (exact World.news_of_block (cs := #[.int .i64 (top2 : Int)]) (t := 3) (fr := (0, 0)) (heap_alloc_new w2 _)); intro g3 cap3 w3 hown3 hgrow3 hat3 hlt3)
          go_roundw
          case rel =>
            have hst := HRL.out.step HG2.out hn2 HT2.out (G' := g3) (cap' := cap3) (w3 := w3) (by rw [← HPL.out]; exact hown3) ((ButM.of_below ((Below.refl _ _).alloc (Nat.le_refl _) _)).trans (ButM.of_grown hgrow3)) (by
              rcases hat3 with e | e
              · left; cases e; rfl
              · right; omega)
            have hcn := hst.cnt
            simp only [List.length_cons, List.length_append, List.length_nil] at hcn
            refine ⟨k2, g3, cap3, pl + 1, ps ++ [top2], es ++ [y], nb2, N' ++ N2, rfl, rfl, by omega, by omega, by omega, by simp; omega, by simp; omega, by show _ = _; rw [HPL.out]; simp, by simp; omega, .inl (by simp), hst, ?_⟩
            rw [← HR2.out]
            exact HM2.out
          case measure => simp [intOf]; omega
      · have hqb : ((⟨xs[k].toArray⟩ : ByteArray).toList == [38]) = false := by rw [ByteArray.toList_eq, beq_eq_false_iff_ne]; exact hq
        obtain ⟨ho1, HEE⟩ := (HEx.out (.inr ⟨hkx, hq⟩)).out
        have HE2 : Hid _ := HEE
        clear HEE hq HM HTL HEx HRL
        generalize (⟨xs[k].toArray⟩ : ByteArray) = X at *
        have HE3 : Hid (exprL (xs.drop i) = some (.join 4 (x :: es), xs.drop k)) := by show _ = _; rw [HE2.out, if_neg (by simp)]
        have hNo := HNode.out _ rfl
        go_wp2_with (go_at_call 80; refine hNo.mono ?_; rintro e w' ⟨rfl, nb'', hg⟩)
        try go_ret2
        exact HFin.out _ _ (by simp) ho1 HE3.out hg
    · obtain rfl : k = n := by omega
      obtain ⟨ho1, HEE⟩ := (HEx.out (.inl rfl)).out
      have HE2 : Hid _ := HEE
      clear HEE HM HTL HEx HRL
      have HE3 : Hid (exprL (xs.drop i) = some (.join 4 (x :: es), xs.drop k)) := by show _ = _; rw [HE2.out, if_neg (by simp)]
      have hNo := HNode.out _ rfl
      go_wp2_with (go_at_call 80; refine hNo.mono ?_; rintro e w' ⟨rfl, nb'', hg⟩)
      try go_ret2
      exact HFin.out _ _ (by simp) ho1 HE3.out hg
end Go.Proofs.YtlgodpadcilcaaaGreatDoor
namespace Go.Proofs.YtlgodpadcilcaaaGreatDoor
open Go.ChangeShapes Go.WideShapes Go.ChangeAt Go.RowKit


theorem exprL_less {l : List (List UInt8)} {x : Exp} {r : List (List UInt8)} (he : termL l = some (x, [45] :: r)) : exprL l = match manyL [45] ([45] :: r) with
    | none => none
    | some (es, r') => if 5 = 5 ∧ es.length ≠ 1 then none else some (.join 5 (x :: es), r') := by
  have h := exprL_eq l
  rw [he] at h
  exact h

set_option maxRecDepth 100000 in
set_option maxHeartbeats 8000000 in
theorem rexpr_less (f : Nat) (hT : RTermOK f) (P : Nat) (nb : Option Nat) (N : List NV) (v : Value) (xs : List (List UInt8)) (i : Nat) (w : World) (h : NRep w P nb N) (hW : WordsR w (P :: nb.toList) v xs) (hi : i ≤ xs.length) (hf : xs.length - i ≤ f) (hl : xs.length ≤ 1000000) (hN : N.length + xs.length - i ≤ 1000000) (hz : ∀ x ∈ xs, x.length ≤ 1000000)
    (x : Exp) (r : List (List UInt8)) (he : termL (xs.drop i) = some (x, [45] :: r)) :
    Calls Tryz.prog 52 #[.pointer (some ⟨P, 0, none⟩), v, .int .i64 (i : Int)] w (RAns P nb N w xs i (exprL (xs.drop i))) := by
  obtain ⟨i0, hi0, hz0, hz1, hz2⟩ := info_parts infoI
  have hX := hT P nb N v xs i w h hW hi hf hl hN hz
  rw [he] at hX
  have HTL : Hid (exprL (xs.drop i) = _) := exprL_less he
  have hW0 := hW
  obtain ⟨b, o, c, rfl, hc, hb, hbM, hcell⟩ := hW
  have hX2 : Calls Tryz.prog 79 #[.pointer (some ⟨P, 0, none⟩), .slice (some ⟨b, o, none⟩) xs.length c, .int .i64 (i : Int)] w fun e w' => ∃ top k nb' N', e = .returned (.tuple #[.int .i64 ((top : Nat) : Int), .int .i64 ((k : Nat) : Int)]) ∧ k ≤ xs.length ∧ i < k ∧ [45] :: r = xs.drop k ∧ NGrow P nb N w w' nb' N' ∧ i + N'.length ≤ k ∧ Tree (fun g => w.heap.size ≤ g ∧ g < w'.heap.size ∧ g ∉ P :: nb'.toList) w' (N ++ N') x top := hX
  have HNone : Hid (∀ e w', exprL (xs.drop i) = none → (∃ k : Int, e = .returned (.tuple #[.int .i64 (-1), .int .i64 k])) → ButM (P :: nb.toList) w w' → RAns P nb N w xs i (exprL (xs.drop i)) e w') := fun e w' h0 hk hbq => by rw [h0]; exact ⟨hk, hbq⟩
  have HSome : Hid (∀ w' y k nb' N' top, exprL (xs.drop i) = some (y, xs.drop k) → k ≤ xs.length → i < k → NGrow P nb N w w' nb' N' → i + N'.length ≤ k → Tree (fun g => w.heap.size ≤ g ∧ g < w'.heap.size ∧ g ∉ P :: nb'.toList) w' (N ++ N') y top → RAns P nb N w xs i (exprL (xs.drop i)) (.returned (.tuple #[.int .i64 ((top : Nat) : Int), .int .i64 ((k : Nat) : Int)])) w') := fun w' y k nb' N' top h0 h1 h2 h3 h4 h5 => by
    rw [h0]
    exact ⟨top, k, nb', N', rfl, h1, h2, rfl, h3, h4, h5⟩
  have HWd : Hid (∀ nb' N' wr, NGrow P nb N w wr nb' N' → WordsR wr (P :: nb'.toList) (.slice (some ⟨b, o, none⟩) xs.length c) xs) := fun nb' N' wr hg => hW0.grow hg
  have HCell : Hid (∀ nb' N' wr, NGrow P nb N w wr nb' N' → ∀ j (h : j < xs.length), wr.cell? ⟨b, o + j, none⟩ = some (.string ⟨xs[j].toArray⟩)) := fun nb' N' wr hg j hj => by
    rw [World.cell?_of_block (w := w) (a := ⟨b, o + j, none⟩) (hg.but.block b hb hbM)]; exact hcell j hj
  have HZ : Hid (∀ x ∈ xs, x.length ≤ 1000000) := hz
  clear hX he hW0 hbM hcell h hz
  generalize RAns P nb N w xs i (exprL (xs.drop i)) = R at *
  go_enter Tryz.func52, Tryz.ntmps52
  go_wp2_with fail
  refine hX2.mono ?_
  clear hX2
  rintro e w1 ⟨top, k0, nb1, N1, rfl, hk0, hik0, hrest, hg1, hn1, hT1⟩
  have hk1 : k0 < xs.length := by
    have := congrArg List.length hrest
    simp at this; omega
  have hxk : xs[k0] = [45] := by
    have e := List.drop_eq_getElem_cons hk1
    rw [e] at hrest
    exact (List.cons.inj hrest).1.symm
  have c1 : w1.cell? ⟨b, o + k0, none⟩ = some (.string ⟨#[45]⟩) := by rw [HCell.out _ _ _ hg1 k0 hk1, hxk]
  have HRL := RLoop.one hg1 hn1 hT1
  have HRL1 : Hid _ := HRL
  have HM0 : Hid (manyL [45] ([45] :: r) = match manyL [45] (xs.drop k0) with | none => none | some (es', r') => some ([] ++ es', r')) := by
    show _ = _
    rw [← hrest]
    cases manyL [45] ([45] :: r) with
    | none => rfl
    | some q => rfl
  have HXK : Hid (xs[k0] = [45]) := hxk
  clear HRL hg1 hT1 hrest hxk
  unfold intV at HRL1
  obtain ⟨n, hnx⟩ : ∃ n, xs.length = n := ⟨_, rfl⟩
  have HNX : Hid (xs.length = n) := hnx
  have hk1n : k0 < n := by omega
  rw [hnx] at hc hi hf hl hN hk0 ⊢
  clear hnx
  go_wp2
  have hq0 : decide ((top : Int) < 0) = false := decide_eq_false (by omega)
  have hq1 : decide (n ≤ k0) = false := decide_eq_false (by omega)
  simp only [hq0, hq1, Bool.or_self]
  go_loopw [9, 11] (fun s9 s11 wr => ∃ (k G cap pl : Nat) (ps : List Nat) (es : List Exp) (nb' : Option Nat) (N' : List NV), s9 = .int .i64 (k : Int) ∧ s11 = .slice (some ⟨G, 0, none⟩) pl cap ∧ k ≤ n ∧ k0 ≤ k ∧ pl ≤ k + 1 ∧ es.length < pl ∧ pl ≤ es.length + 1 ∧ Hid (pl = ps.length) ∧ i + N'.length + es.length ≤ k ∧ (1 ≤ es.length ∨ k = k0) ∧ Hid (RLoop P nb N w wr i k nb' N' G cap ps (x :: es)) ∧ Hid (manyL [45] ([45] :: r) = match manyL [45] (xs.drop k) with | none => none | some (es', r') => some (es ++ es', r'))) (fun s9 _ _ => n - (intOf s9).toNat)
  case atStart =>
    refine ⟨k0, w1.heap.size, 1, 1, [top], [], nb1, N1, rfl, rfl, hk0, Nat.le_refl _, by omega, by simp, by simp, rfl, by simpa using hn1, .inr rfl, ?_, HM0.out⟩
    exact HRL1.out
  case round =>
    obtain ⟨k, G, cap, pl, ps, es, nb', N', rfl, rfl, hkn, hkk, hpl, hple, hple2, HPL, hcnt, hone, HRL, HM⟩ := hrel
    have hnx := HNX.out
    have exitT : Hid (k = n ∨ (∃ h : k < xs.length, xs[k] ≠ [45])) → Hid (1 ≤ es.length ∧ exprL (xs.drop i) = if 5 = 5 ∧ es.length ≠ 1 then none else some (.join 5 (x :: es), xs.drop k)) := fun hx => by
      have hone' : 1 ≤ es.length := by
        rcases hone with h1 | h1
        · exact h1
        · rcases hx.out with h2 | ⟨h2, h3⟩
          · omega
          · subst h1; exact absurd HXK.out h3
      refine ⟨hone', ?_⟩
      have hm : manyL [45] (xs.drop k) = some ([], xs.drop k) := by
        rcases hx.out with h2 | ⟨h2, h3⟩
        · rw [h2, ← hnx, List.drop_length, manyL_nil]
        · rw [List.drop_eq_getElem_cons h2, manyL_other _ _ _ h3]
      rw [HTL.out, HM.out, hm]
      simp
    have HEx : Hid _ := exitT
    clear exitT
    have hNd : N.length + N'.length ≤ 1000000 := by omega
    obtain ⟨m, hm⟩ : ∃ m, (N ++ N').length = m := ⟨_, rfl⟩
    have HNode : Hid (∀ w2, w2 = wr → Calls Tryz.prog 80 #[.pointer (some ⟨P, 0, none⟩), .agg #[.int .u8 (((⟨#[45]⟩ : ByteArray)[0]'(by decide)).toNat : Int), .string ⟨#[]⟩, .string ⟨#[]⟩, .slice (some ⟨G, 0, none⟩) pl cap]] w2 fun e w' => e = .returned (.int .i64 (m : Nat)) ∧ ∃ nb'', NGrow P nb' (N ++ N') w2 w' nb'' [⟨sgn 5, [], [], some ⟨G, 0, none⟩, pl, cap⟩]) := fun w2 hw2 => by
      subst hw2
      have e : (((⟨#[45]⟩ : ByteArray)[0]'(by decide)).toNat : Int) = sgn 5 := by decide
      rw [e, ← hm]
      exact node_grow P nb' (N ++ N') ⟨sgn 5, [], [], some ⟨G, 0, none⟩, pl, cap⟩ _ HRL.out.grow.rep (by simp; omega)
    have HFin : Hid (∀ w' nb'', (5 = 3 ∨ 5 = 4 ∨ (5 = 5 ∧ es.length = 1)) → 1 ≤ es.length → exprL (xs.drop i) = some (.join 5 (x :: es), xs.drop k) → NGrow P nb' (N ++ N') wr w' nb'' [⟨sgn 5, [], [], some ⟨G, 0, none⟩, pl, cap⟩] → R (.returned (.tuple #[.int .i64 (m : Nat), .int .i64 ((k : Nat) : Int)])) w') := fun w' nb'' hkk3 h1 h2 hg => by
      rw [HPL.out] at hg
      rw [← hm]
      obtain ⟨a1, a2⟩ := HRL.out.join (kk := 5) (orTo hkk3 (fun h => orTo h (fun h => ⟨h.1, by simp; omega⟩))) hg
      exact HSome.out w' _ k nb'' _ _ h2 (by omega) (by omega) a1 (by simp; omega) a2
    clear hm
    by_cases hklt : k < n
    · have hkx : k < xs.length := by omega
      have c2 := HCell.out _ _ _ HRL.out.grow k hkx
      by_cases hq : xs[k] = [45]
      · rw [hq] at c2
        have hY := hT P nb' (N ++ N') (.slice (some ⟨b, o, none⟩) n c) xs (k + 1) wr HRL.out.grow.rep (by have := HWd.out _ _ _ HRL.out.grow; rw [hnx] at this; exact this) (by omega) (by omega) (by omega) (by simp; omega) HZ.out
        have e1 : (((k + 1 : Nat) : Int)) = (k : Int) + 1 := by omega
        rw [e1] at hY
        clear e1
        have hdk := List.drop_eq_getElem_cons hkx
        rw [hq] at hdk
        cases het : termL (xs.drop (k + 1)) with
        | none =>
          rw [het] at hY
          have hY2 : Calls Tryz.prog 79 #[.pointer (some ⟨P, 0, none⟩), .slice (some ⟨b, o, none⟩) n c, .int .i64 ((k : Int) + 1)] wr fun e w' => (∃ k : Int, e = .returned (.tuple #[.int .i64 (-1), .int .i64 k])) ∧ ButM (P :: nb'.toList) wr w' := hY
          have HNo : Hid (exprL (xs.drop i) = none) := by
            show _ = _
            rw [HTL.out, HM.out, hdk, manyL_none _ _ het]
          have HGr : Hid (NGrow P nb N w wr nb' N') := HRL.out.grow
          clear hY hq hdk het HM HTL HEx HNode HFin HRL
          go_wp2_with (go_at_call 79; refine hY2.mono ?_; rintro e w' ⟨⟨kz, rfl⟩, hbm⟩)
          try go_ret2
          exact HNone.out _ _ HNo.out ⟨_, rfl⟩ (HGr.out.thenBut ⟨hbm.os, hbm.tape, hbm.output, hbm.size, hbm.block⟩)
        | some q =>
          obtain ⟨y, r2⟩ := q
          rw [het] at hY
          have hY2 : Calls Tryz.prog 79 #[.pointer (some ⟨P, 0, none⟩), .slice (some ⟨b, o, none⟩) n c, .int .i64 ((k : Int) + 1)] wr fun e w' => ∃ top k2 nb'' N'', e = .returned (.tuple #[.int .i64 ((top : Nat) : Int), .int .i64 ((k2 : Nat) : Int)]) ∧ k2 ≤ xs.length ∧ k + 1 < k2 ∧ r2 = xs.drop k2 ∧ NGrow P nb' (N ++ N') wr w' nb'' N'' ∧ k + 1 + N''.length ≤ k2 ∧ Tree (fun g => wr.heap.size ≤ g ∧ g < w'.heap.size ∧ g ∉ P :: nb''.toList) w' (N ++ N' ++ N'') y top := hY
          have HM2 : Hid (manyL [45] ([45] :: r) = match manyL [45] r2 with | none => none | some (es', r') => some ((es ++ [y]) ++ es', r')) := by
            show _ = _
            rw [HM.out, hdk, manyL_some _ _ het]
            cases manyL [45] r2 with
            | none => rfl
            | some q => simp
          clear hY hq hdk het HM HTL HEx HNode HFin
          go_wp2_with fail
          refine hY2.mono ?_
          clear hY2
          rintro e w2 ⟨top2, k2, nb2, N2, rfl, hk2, hkk2, hr2, hg2, hn2, hT2⟩
          have hGl := HRL.out.row.lt G rfl
          have hs2 := hg2.but.size
          have hown2 : (w2.alloc (.cells #[.int .i64 (top2 : Int)] 3)).ownsRow w.heap.size 3 1 (.slice (some ⟨G, 0, none⟩) pl cap) pl (ps.map intV) := by
            have h0 := HRL.out.row
            rw [← HPL.out] at h0
            exact World.ownsRow.alloc (owns_same h0 (fun g hg => by cases hg; exact hg2.but.block G hGl.2 HRL.out.gm)) _
          have HG2 : Hid _ := hg2
          have HT2 : Hid _ := hT2
          have HR2 : Hid (r2 = xs.drop k2) := hr2
          clear hg2 hT2 hr2
          go_wp2_with (at_builtin; refine wpList_append_lies _ rfl _ _ 70 rfl w.heap.size 3 i0 _ 1 8 Tryz.underlying70 hi0 hz0 hz1 hz2 rfl (by decide) _ _ _ rfl hown2 ⟨w2.heap.size, 0, none⟩ 1 1 [.int .i64 (top2 : Int)] rfl rfl ?_ (fun x hx => by simp at hx; subst hx; rfl) (by decide) (by unfold maxLen; omega) (by omega) (by simp; omega) (w2.heap.size + 1) (by simp) ?_; (exact World.news_of_block (cs := #[.int .i64 (top2 : Int)]) (t := 3) (fr := (0, 0)) (heap_alloc_new w2 _)); intro g3 cap3 w3 hown3 hgrow3 hat3 hlt3)
          go_roundw
          case rel =>
            have hst := HRL.out.step HG2.out hn2 HT2.out (G' := g3) (cap' := cap3) (w3 := w3) (by rw [← HPL.out]; exact hown3) ((ButM.of_below ((Below.refl _ _).alloc (Nat.le_refl _) _)).trans (ButM.of_grown hgrow3)) (by
              rcases hat3 with e | e
              · left; cases e; rfl
              · right; omega)
            have hcn := hst.cnt
            simp only [List.length_cons, List.length_append, List.length_nil] at hcn
            refine ⟨k2, g3, cap3, pl + 1, ps ++ [top2], es ++ [y], nb2, N' ++ N2, rfl, rfl, by omega, by omega, by omega, by simp; omega, by simp; omega, by show _ = _; rw [HPL.out]; simp, by simp; omega, .inl (by simp), hst, ?_⟩
            rw [← HR2.out]
            exact HM2.out
          case measure => simp [intOf]; omega
      · have hqb : ((⟨xs[k].toArray⟩ : ByteArray).toList == [45]) = false := by rw [ByteArray.toList_eq, beq_eq_false_iff_ne]; exact hq
        obtain ⟨ho1, HEE⟩ := (HEx.out (.inr ⟨hkx, hq⟩)).out
        have HE2 : Hid _ := HEE
        have HGr : Hid (ButM (P :: nb.toList) w wr) := HRL.out.grow.but
        clear HEE hq HM HTL HEx HRL
        generalize (⟨xs[k].toArray⟩ : ByteArray) = X at *
        by_cases hp2 : 2 < pl
        · have HE3 : Hid (exprL (xs.drop i) = none) := by show _ = _; rw [HE2.out, if_pos ⟨rfl, by omega⟩]
          go_wp2
          try go_ret2
          exact HNone.out _ _ HE3.out ⟨_, rfl⟩ ⟨HGr.out.os, HGr.out.tape, HGr.out.output, HGr.out.size, HGr.out.block⟩
        · have HL1 : Hid (es.length = 1) := by show _ = _; omega
          have HE3 : Hid (exprL (xs.drop i) = some (.join 5 (x :: es), xs.drop k)) := by show _ = _; rw [HE2.out, if_neg (by omega)]
          have hNo := HNode.out _ rfl
          go_wp2_with (go_at_call 80; refine hNo.mono ?_; rintro e w' ⟨rfl, nb'', hg⟩)
          try go_ret2
          exact HFin.out _ _ (.inr (.inr ⟨by simp, HL1.out⟩)) ho1 HE3.out hg
    · obtain rfl : k = n := by omega
      obtain ⟨ho1, HEE⟩ := (HEx.out (.inl rfl)).out
      have HE2 : Hid _ := HEE
      have HGr : Hid (ButM (P :: nb.toList) w wr) := HRL.out.grow.but
      clear HEE HM HTL HEx HRL
      by_cases hp2 : 2 < pl
      · have HE3 : Hid (exprL (xs.drop i) = none) := by show _ = _; rw [HE2.out, if_pos ⟨rfl, by omega⟩]
        go_wp2
        try go_ret2
        exact HNone.out _ _ HE3.out ⟨_, rfl⟩ ⟨HGr.out.os, HGr.out.tape, HGr.out.output, HGr.out.size, HGr.out.block⟩
      · have HL1 : Hid (es.length = 1) := by show _ = _; omega
        have HE3 : Hid (exprL (xs.drop i) = some (.join 5 (x :: es), xs.drop k)) := by show _ = _; rw [HE2.out, if_neg (by omega)]
        have hNo := HNode.out _ rfl
        go_wp2_with (go_at_call 80; refine hNo.mono ?_; rintro e w' ⟨rfl, nb'', hg⟩)
        try go_ret2
        exact HFin.out _ _ (.inr (.inr ⟨by simp, HL1.out⟩)) ho1 HE3.out hg
end Go.Proofs.YtlgodpadcilcaaaGreatDoor
namespace Go.Proofs.YtlgodpadcilcaaaGreatDoor
open Go.ChangeShapes Go.WideShapes Go.ChangeAt Go.RowKit

set_option maxRecDepth 100000 in
set_option maxHeartbeats 8000000 in
theorem rexpr_none (f : Nat) (hT : RTermOK f) (P : Nat) (nb : Option Nat) (N : List NV) (v : Value) (xs : List (List UInt8)) (i : Nat) (w : World) (h : NRep w P nb N) (hW : WordsR w (P :: nb.toList) v xs) (hi : i ≤ xs.length) (hf : xs.length - i ≤ f) (hl : xs.length ≤ 1000000) (hN : N.length + xs.length - i ≤ 1000000) (hz : ∀ x ∈ xs, x.length ≤ 1000000)
    (he : termL (xs.drop i) = none) :
    Calls Tryz.prog 52 #[.pointer (some ⟨P, 0, none⟩), v, .int .i64 (i : Int)] w (RAns P nb N w xs i (exprL (xs.drop i))) := by
  have hX := hT P nb N v xs i w h hW hi hf hl hN hz
  have hTL := exprL_eq (xs.drop i)
  rw [he] at hX hTL
  rw [hTL]
  obtain ⟨b, o, c, rfl, hc, hb, hbM, hcell⟩ := hW
  have hX2 : Calls Tryz.prog 79 #[.pointer (some ⟨P, 0, none⟩), .slice (some ⟨b, o, none⟩) xs.length c, .int .i64 (i : Int)] w fun e w' => (∃ k : Int, e = .returned (.tuple #[.int .i64 (-1), .int .i64 k])) ∧ ButM (P :: nb.toList) w w' := hX
  show Calls Tryz.prog 52 _ w fun e w' => (∃ k : Int, e = .returned (.tuple #[.int .i64 (-1), .int .i64 k])) ∧ ButM (P :: nb.toList) w w'
  clear hX hcell hTL he hbM h hz
  generalize xs.length = n at *
  go_enter Tryz.func52, Tryz.ntmps52
  go_wp2_with (go_at_call 79; refine hX2.mono ?_; rintro e w' ⟨⟨k, rfl⟩, hbm⟩)
  try go_ret2
  exact ⟨⟨_, rfl⟩, ⟨hbm.os, hbm.tape, hbm.output, hbm.size, hbm.block⟩⟩

set_option maxRecDepth 100000 in
set_option maxHeartbeats 8000000 in
theorem rexpr_one (f : Nat) (hT : RTermOK f) (P : Nat) (nb : Option Nat) (N : List NV) (v : Value) (xs : List (List UInt8)) (i : Nat) (w : World) (h : NRep w P nb N) (hW : WordsR w (P :: nb.toList) v xs) (hi : i ≤ xs.length) (hf : xs.length - i ≤ f) (hl : xs.length ≤ 1000000) (hN : N.length + xs.length - i ≤ 1000000) (hz : ∀ x ∈ xs, x.length ≤ 1000000)
    (x : Exp) (r : List (List UInt8)) (he : termL (xs.drop i) = some (x, r)) (hr : ∀ m r', r = m :: r' → m ≠ [124] ∧ m ≠ [38] ∧ m ≠ [45]) :
    Calls Tryz.prog 52 #[.pointer (some ⟨P, 0, none⟩), v, .int .i64 (i : Int)] w (RAns P nb N w xs i (exprL (xs.drop i))) := by
  have hX := hT P nb N v xs i w h hW hi hf hl hN hz
  have hTL : exprL (xs.drop i) = some (x, r) := by
    rw [exprL_eq, he]
    cases r with
    | nil => rfl
    | cons m r' =>
      obtain ⟨h1, h2, h3⟩ := hr m r' rfl
      have hm : markL m = none := by unfold markL; rw [if_neg h1, if_neg h2, if_neg h3]
      simp only [hm]
  rw [he] at hX
  rw [hTL]
  obtain ⟨b, o, c, rfl, hc, hb, hbM, hcell⟩ := hW
  have hX2 : Calls Tryz.prog 79 #[.pointer (some ⟨P, 0, none⟩), .slice (some ⟨b, o, none⟩) xs.length c, .int .i64 (i : Int)] w fun e w' => ∃ top k nb' N', e = .returned (.tuple #[.int .i64 ((top : Nat) : Int), .int .i64 ((k : Nat) : Int)]) ∧ k ≤ xs.length ∧ i < k ∧ r = xs.drop k ∧ NGrow P nb N w w' nb' N' ∧ i + N'.length ≤ k ∧ Tree (fun g => w.heap.size ≤ g ∧ g < w'.heap.size ∧ g ∉ P :: nb'.toList) w' (N ++ N') x top := hX
  have HCell : Hid (∀ nb' N' wr, NGrow P nb N w wr nb' N' → ∀ j (h : j < xs.length), wr.cell? ⟨b, o + j, none⟩ = some (.string ⟨xs[j].toArray⟩)) := fun nb' N' wr hg j hj => by
    rw [World.cell?_of_block (w := w) (a := ⟨b, o + j, none⟩) (hg.but.block b hb hbM)]; exact hcell j hj
  have HR : Hid _ := hr
  have HA : Hid (∀ e w', (∃ top k nb' N', e = .returned (.tuple #[.int .i64 ((top : Nat) : Int), .int .i64 ((k : Nat) : Int)]) ∧ k ≤ xs.length ∧ i < k ∧ r = xs.drop k ∧ NGrow P nb N w w' nb' N' ∧ i + N'.length ≤ k ∧ Tree (fun g => w.heap.size ≤ g ∧ g < w'.heap.size ∧ g ∉ P :: nb'.toList) w' (N ++ N') x top) → RAns P nb N w xs i (some (x, r)) e w') := fun e w' hh => hh
  generalize RAns P nb N w xs i (some (x, r)) = R at *
  clear hX hcell hTL he hbM h hz hr
  go_enter Tryz.func52, Tryz.ntmps52
  go_wp2_with fail
  refine hX2.mono ?_
  clear hX2
  rintro e w' ⟨top, k, nb', N', rfl, hk, hik, hrest, hg, hn, hTr⟩
  have hFin := HA.out _ w' ⟨top, k, nb', N', rfl, hk, hik, hrest, hg, hn, hTr⟩
  have HFin : Hid _ := hFin
  clear hFin
  by_cases hkl : k < xs.length
  · have c1 := HCell.out _ _ _ hg k hkl
    obtain ⟨h1, h2, h3⟩ := HR.out xs[k] (xs.drop (k + 1)) (by rw [hrest]; exact List.drop_eq_getElem_cons hkl)
    have q1 : ((⟨xs[k].toArray⟩ : ByteArray).toList == [124]) = false := by rw [ByteArray.toList_eq, beq_eq_false_iff_ne]; exact h1
    have q2 : ((⟨xs[k].toArray⟩ : ByteArray).toList == [38]) = false := by rw [ByteArray.toList_eq, beq_eq_false_iff_ne]; exact h2
    have q3 : ((⟨xs[k].toArray⟩ : ByteArray).toList == [45]) = false := by rw [ByteArray.toList_eq, beq_eq_false_iff_ne]; exact h3
    clear h1 h2 h3 HCell HR HA hrest hg hn hTr
    generalize (⟨xs[k].toArray⟩ : ByteArray) = X at *
    generalize xs.length = n at *
    go_wp2
    try go_ret2
    exact HFin.out
  · clear HCell HR HA hrest hg hn hTr
    generalize xs.length = n at *
    go_wp2
    try go_ret2
    exact HFin.out

theorem rexpr_any (f : Nat) (hT : RTermOK f) : RExprOK f := by
  intro P nb N v xs i w h hW hi hf hl hN hz
  cases he : termL (xs.drop i) with
  | none => exact rexpr_none f hT P nb N v xs i w h hW hi hf hl hN hz he
  | some q =>
    obtain ⟨x, r⟩ := q
    by_cases h1 : ∃ r', r = [124] :: r'
    · obtain ⟨r', rfl⟩ := h1
      exact rexpr_or f hT P nb N v xs i w h hW hi hf hl hN hz x r' he
    · by_cases h2 : ∃ r', r = [38] :: r'
      · obtain ⟨r', rfl⟩ := h2
        exact rexpr_and f hT P nb N v xs i w h hW hi hf hl hN hz x r' he
      · by_cases h3 : ∃ r', r = [45] :: r'
        · obtain ⟨r', rfl⟩ := h3
          exact rexpr_less f hT P nb N v xs i w h hW hi hf hl hN hz x r' he
        · exact rexpr_one f hT P nb N v xs i w h hW hi hf hl hN hz x r he (fun m r' e => ⟨fun e2 => h1 ⟨r', by rw [e, e2]⟩, fun e2 => h2 ⟨r', by rw [e, e2]⟩, fun e2 => h3 ⟨r', by rw [e, e2]⟩⟩)
theorem rterm_all : ∀ f, RTermOK f
  | 0 => rterm_zero
  | f + 1 => rterm_any f (rexpr_any f (rterm_all f))
theorem rexpr_all (f : Nat) : RExprOK f := rexpr_any f (rterm_all f)
end Go.Proofs.YtlgodpadcilcaaaGreatDoor
