import Derived.Test.YtlgodpadcilcaaaGreatDoorP01
import Derived.Deep.LoopGhost
import Derived.Deep.Cut
import Derived.Laws.Cover1
import Derived.Lib.AppendZerosOnto
import Derived.Lib.Overlaps
namespace Go.Proofs.YtlgodpadcilcaaaGreatDoor
open Go.ChangeShapes Go.WideShapes Go.ChangeAt Go.RowKit

theorem But.drew {P : Nat} {a w : World} (h : But P a w) : But P a w.drew := ⟨h.os, h.tape, h.output, h.size, h.block⟩
theorem Rest.drew {n P : Nat} {w : World} {xs : List (List UInt8)} (h : Rest n P w xs) : Rest n P w.drew xs := h.below1 ((Below.refl _ _).drew)
theorem grown_cell {w w' : World} {P b o : Nat} {v : Value} (h : w.grownBy w' (some P)) (hb : b ≠ P) (hc : w.cell? ⟨b, o, none⟩ = some v) : w'.cell? ⟨b, o, none⟩ = some v := by
  have hlt := World.block_lt_of_cell? w ⟨b, o, none⟩ hc
  rw [World.cell?_of_block (w := w) (a := ⟨b, o, none⟩) (h.block b hlt (by intro e; exact hb (by cases e; rfl)))]; exact hc
theorem grown_frozen {w w' : World} {P b o : Nat} (h : w.grownBy w' (some P)) (hb : b ≠ P) (hlt : b < w.heap.size) (hc : w.frozen? ⟨b, o, none⟩ = false) : w'.frozen? ⟨b, o, none⟩ = false := by
  rw [World.frozen?_of_block (w := w) (a := ⟨b, o, none⟩) (h.block b hlt (by intro e; exact hb (by cases e; rfl)))]; exact hc
theorem heap_put4 {W : World} {B : Nat} {x0 x1 x2 x3 : Value} {k : Nat} (h : k ≠ B) :
    ((((W.setCell ⟨B, 0, none⟩ x0).setCell ⟨B, 1, none⟩ x1).setCell ⟨B, 2, none⟩ x2).setCell ⟨B, 3, none⟩ x3).heap[k]? = W.heap[k]? := by
  rw [Below.heap_setCell _ _ _ _ h, Below.heap_setCell _ _ _ _ h, Below.heap_setCell _ _ _ _ h, Below.heap_setCell _ _ _ _ h]
theorem set_drewN (w : World) (a : Addr) (v : Value) (n : Nat) : (w.drewN n).setCell a v = (w.setCell a v).drewN n := rfl

set_option maxHeartbeats 2000000 in
theorem pterm_open (f : Nat) (hE : ExprOK f) (n P : Nat) (r : List (List UInt8)) (w : World) (hl : r.length ≤ f) (hz : ∀ x ∈ r, x.length ≤ 1000000) (h : Rest n P w ([40] :: r)) :
    Calls Tryz.prog 102 #[.pointer (some ⟨P, 0, none⟩)] w fun e w' => PAns n P w w' (termL ([40] :: r)) e := by
  have hPw := h.1
  have h2 : Rest n P (w.alloc (.cells zero4 88)) ([40] :: r) := h.but ((Below.refl _ _).alloc (Nat.le_refl _) _)
  have hbut : But P w (w.alloc (.cells zero4 88)) := (But.refl _ _).alloc _
  have hsz : (w.alloc (.cells zero4 88)).heap.size = w.heap.size + 1 := by simp
  have hrg : (w.alloc (.cells zero4 88)).rangeAt w.heap.size 0 zero4.toList := range_new _ _ _
  have hfr : ∀ j, (w.alloc (.cells zero4 88)).frozen? ⟨w.heap.size, j, none⟩ = false := fun j => World.frozen?_alloc_new _ _ _ _
  have hT := take_same n P ⟨#[40]⟩ r _ h2
  go_enter Tryz.func102, Tryz.ntmps102
  go_wp2_with fail
  generalize hW : w.alloc (.cells zero4 88) = W at *
  unfold zero4 at hW
  rw [hW]
  refine hT.mono ?_
  rintro e W2 ⟨rfl, hr2, hg2, hs2⟩
  clear hT h hW h2
  have hb2 : But P w W2 := hbut.trans (But.of_grown hg2)
  have hPB : w.heap.size ≠ P := by omega
  have hrg2 : W2.rangeAt w.heap.size 0 zero4.toList := fun j v hv => by
    rw [World.cell?_of_block (w := W) (a := ⟨w.heap.size, 0 + j, none⟩) (hg2.block _ (by simp [hsz]) (by intro e; exact hPB (by cases e; rfl)))]; exact hrg j v hv
  have hfr2 : ∀ j, W2.frozen? ⟨w.heap.size, j, none⟩ = false := fun j => by
    rw [World.frozen?_of_block (w := W) (a := ⟨w.heap.size, j, none⟩) (hg2.block _ (by simp [hsz]) (by intro e; exact hPB (by cases e; rfl)))]; exact hfr j
  have hs2' : W2.heap.size = w.heap.size + 1 := by rw [hs2, hsz]
  clear hbut hrg hfr hg2 hs2 hsz
  have hX := hE n P r W2 hl hz hr2
  go_wp2_with fail
  refine hX.mono ?_
  clear hX
  rintro e w3 ⟨hb3, k, b3, c3, p3, l3, cap3, rfl, hE3⟩
  have hrg3 : w3.rangeAt w.heap.size 0 zero4.toList := fun j v hv => by
    rw [World.cell?_of_block (w := W2) (a := ⟨w.heap.size, 0 + j, none⟩) (hb3.block _ (by simp; omega) hPB)]; exact hrg2 j v hv
  have hfr3 : ∀ j, w3.frozen? ⟨w.heap.size, j, none⟩ = false := fun j => by
    rw [World.frozen?_of_block (w := W2) (a := ⟨w.heap.size, j, none⟩) (hb3.block _ (by simp; omega) hPB)]; exact hfr2 j
  clear hrg2 hfr2 hr2
  have hs3 := hb3.size
  have hTL := termL_cons [40] r
  rw [if_pos rfl] at hTL
  obtain ⟨C4, hC4⟩ : ∃ C4 : Array Value, C4 = #[.int .i64 k, .string b3, .string c3, .slice p3 l3 cap3] := ⟨_, rfl⟩
  have hb4 : But P w (w3.alloc (.cells C4 88)) := (hb2.trans hb3).alloc _
  have hrg4 : (w3.alloc (.cells C4 88)).rangeAt w.heap.size 0 zero4.toList := fun j v hv => by
    rw [World.cell?_alloc_lt _ _ _ (by show w.heap.size < _; omega)]; exact hrg3 j v hv
  have hfr4 : ∀ j, (w3.alloc (.cells C4 88)).frozen? ⟨w.heap.size, j, none⟩ = false := fun j => by
    rw [frozen?_alloc_cells]; exact hfr3 j
  have hc4 : (w3.alloc (.cells C4 88)).rangeAt w3.heap.size 0 C4.toList := range_new _ _ _
  have hE4 : ∀ x ys, exprL r = some (x, ys) → ERep (fun g => w.heap.size < g ∧ g < (w3.alloc (.cells C4 88)).heap.size) (w3.alloc (.cells C4 88)) x (ExpV k b3 c3 p3 l3 cap3) ∧ Rest n P (w3.alloc (.cells C4 88)) ys := fun x ys hx => by
    obtain ⟨h1, h2⟩ := hE3 x ys hx
    refine ⟨h1.mono (fun g hg => ⟨by have := hg.1; omega, by have := hg.2; simp; omega⟩) (fun g hg => Below.heap_alloc _ _ _ hg.2), h2.but ((Below.refl _ _).alloc (Nat.le_refl _) _)⟩
  have hs4 : w.heap.size < w3.heap.size ∧ w3.heap.size < (w3.alloc (.cells C4 88)).heap.size := ⟨by omega, by simp⟩
  clear hE3 hrg3 hfr3 hb3
  have eV : (ExpV k b3 c3 p3 l3 cap3).toArray = #[.int .i64 k, .string b3, .string c3, .slice p3 l3 cap3] := rfl
  rw [eV]
  clear eV
  generalize hq : (exprL r).isSome = q at *
  have HQ : Hid ((exprL r).isSome = q) := hq
  clear hq
  go_wp2_with fail
  rw [← hC4]
  generalize w3.alloc (.cells C4 88) = W4 at *
  generalize w3.heap.size = C at *
  subst hC4
  have f0 : W4.cell? ⟨w.heap.size, 0, none⟩ = some (.int .i64 0) := hrg4 0 _ rfl
  have f1 : W4.cell? ⟨w.heap.size, 1, none⟩ = some (.string ⟨#[]⟩) := hrg4 1 _ rfl
  have f2 : W4.cell? ⟨w.heap.size, 2, none⟩ = some (.string ⟨#[]⟩) := hrg4 2 _ rfl
  have f3 : W4.cell? ⟨w.heap.size, 3, none⟩ = some (.slice none 0 0) := hrg4 3 _ rfl
  have g0 : W4.cell? ⟨C, 0, none⟩ = some (.int .i64 k) := hc4 0 _ rfl
  have g1 : W4.cell? ⟨C, 1, none⟩ = some (.string b3) := hc4 1 _ rfl
  have g2 : W4.cell? ⟨C, 2, none⟩ = some (.string c3) := hc4 2 _ rfl
  have g3 : W4.cell? ⟨C, 3, none⟩ = some (.slice p3 l3 cap3) := hc4 3 _ rfl
  have HR : Hid _ := hrg4
  have HC : Hid _ := hc4
  have HE : Hid _ := hE4
  clear hrg4 hc4 hE4
  cases hx : exprL r with
  | none =>
    have hq2 : q = false := by rw [← HQ.out, hx]; rfl
    subst hq2
    rw [hx] at hTL
    have HTL : Hid (termL ([40] :: r) = none) := hTL
    clear hTL hx HQ
    go_region
    go_wp2
    refine post_exp rfl w.heap.size (ExpV k b3 c3 p3 l3 cap3) (.bool false) rfl rfl rfl rfl ((World.rangeAt_drew _ _ _ _).2 (range_put4 _ _ _ _ rfl HR.out)) ?_
    rw [HTL.out]
    exact ⟨(hb4.put4 (Nat.le_refl _) _ _ _ _).drew, k, b3, c3, p3, l3, cap3, rfl, fun x ys hx => by cases hx⟩
  | some qq =>
    obtain ⟨x, ys⟩ := qq
    have hq2 : q = true := by rw [← HQ.out, hx]; rfl
    subst hq2
    obtain ⟨hEx, hRy⟩ := HE.out x ys hx
    have HEx : Hid _ := hEx
    rw [hx] at hTL
    clear HE HQ hx hEx
    cases ys with
    | nil =>
      have HTL : Hid (termL ([40] :: r) = none) := hTL
      clear hTL
      have hT := take_nil n P ⟨#[41]⟩ _ hRy.drew
      go_region_with (go_at_call 104; refine hT.mono ?_; rintro e w5 ⟨rfl, rfl⟩)
      all_goals go_wp2
      all_goals refine post_exp rfl w.heap.size (ExpV k b3 c3 p3 l3 cap3) (.bool false) rfl rfl rfl rfl ((World.rangeAt_drew _ _ _ _).2 (range_put4 _ _ _ _ rfl HR.out)) ?_
      all_goals rw [HTL.out]
      all_goals exact ⟨(hb4.put4 (Nat.le_refl _) _ _ _ _).drew, k, b3, c3, p3, l3, cap3, rfl, fun x ys hx => by cases hx⟩
    | cons y ys =>
      by_cases hy : y = [41]
      · subst hy
        have HTL : Hid (termL ([40] :: r) = some (x, ys)) := by show _ = _; rw [hTL]; simp
        clear hTL
        have hCP : C ≠ P := by omega
        have hT := take_same n P ⟨#[41]⟩ ys _ hRy.drew
        go_region_with (go_at_call 104; refine hT.mono ?_; rintro e w5 ⟨rfl, hr5, hg5, hs5⟩; have e0 := grown_cell hg5 hPB f0; have e1 := grown_cell hg5 hPB f1; have e2 := grown_cell hg5 hPB f2; have e3 := grown_cell hg5 hPB f3; have d0 := grown_cell hg5 hCP g0; have d1 := grown_cell hg5 hCP g1; have d2 := grown_cell hg5 hCP g2; have d3 := grown_cell hg5 hCP g3; have z5 : ∀ j, w5.frozen? ⟨w.heap.size, j, none⟩ = false := fun j => grown_frozen hg5 hPB (World.block_lt_of_cell? W4 ⟨w.heap.size, 0, none⟩ f0) (hfr4 j))
        all_goals go_wp2
        all_goals refine post_exp rfl w.heap.size (ExpV k b3 c3 p3 l3 cap3) (.bool true) rfl rfl rfl rfl (range_put4 _ _ _ _ rfl (fun j v hv => grown_cell hg5 hPB (HR.out j v hv))) ?_
        all_goals rw [HTL.out]
        all_goals refine ⟨(hb4.drew.trans (But.of_grown hg5)).put4 (Nat.le_refl _) _ _ _ _, k, b3, c3, p3, l3, cap3, rfl, fun x ys hx => ?_⟩
        all_goals cases hx
        all_goals refine ⟨HEx.out.mono (fun g hg => ⟨by omega, by simp [hs5]; exact hg.2⟩) (fun g hg => ?_), hr5.below1 (below_put4 (by omega) _ _ _ _ (Below.refl _ _))⟩
        all_goals exact (heap_put4 (by omega)).trans (hg5.block g hg.2 (by intro e; cases e; omega))
      · have HTL : Hid (termL ([40] :: r) = none) := by show _ = _; rw [hTL]; simp [hy]
        clear hTL
        have hT := take_other n P ⟨#[41]⟩ y ys _ hRy.drew hy
        go_region_with (go_at_call 104; refine hT.mono ?_; rintro e w5 ⟨rfl, rfl⟩)
        all_goals go_wp2
        all_goals refine post_exp rfl w.heap.size (ExpV k b3 c3 p3 l3 cap3) (.bool false) rfl rfl rfl rfl ((World.rangeAt_drew _ _ _ _).2 (range_put4 _ _ _ _ rfl HR.out)) ?_
        all_goals rw [HTL.out]
        all_goals exact ⟨(hb4.put4 (Nat.le_refl _) _ _ _ _).drew, k, b3, c3, p3, l3, cap3, rfl, fun x ys hx => by cases hx⟩
end Go.Proofs.YtlgodpadcilcaaaGreatDoor
namespace Go.Proofs.YtlgodpadcilcaaaGreatDoor
open Go.ChangeShapes Go.WideShapes Go.ChangeAt Go.RowKit

theorem But.grown {P : Nat} {w w' : World} (h : But P w w') : w.grownBy w' (some P) := ⟨h.os, h.tape, h.output, h.size, fun k hk hn => h.block k hk (fun e => hn (by rw [e]))⟩

theorem flatten4 : ∀ (css : List (List Value)), (∀ cs ∈ css, cs.length = 4) → ∀ (j : Nat) (hj : j < css.length) (i : Nat), i < 4 → css.flatten[4 * j + i]? = css[j][i]?
  | [], _, j, hj, _, _ => by simp at hj
  | c :: r, h, 0, hj, i, hi => by
    rw [List.flatten_cons, List.getElem?_append_left (by rw [h c (by simp)]; omega)]
    simp
  | c :: r, h, j + 1, hj, i, hi => by
    have hc := h c (by simp)
    rw [List.flatten_cons, List.getElem?_append_right (by rw [hc]; omega), hc, show 4 * (j + 1) + i - 4 = 4 * j + i by omega]
    rw [flatten4 r (fun cs hcs => h cs (by simp [hcs])) j (by simpa using hj) i hi]
    simp

/-- the terms read so far: row G -/
def Terms (B : Nat) (wr : World) (G cap : Nat) (es : List Exp) : Prop :=
  ∃ css : List (List Value), css.length = es.length ∧ wr.ownsRow (B + 1) 88 4 (.slice (some ⟨G, 0, none⟩) es.length cap) es.length css.flatten ∧
    (∀ cs ∈ css, cs.length = 4) ∧ ∀ j (h : j < es.length) (h' : j < css.length), ERep (fun g => B < g ∧ g < wr.heap.size ∧ g ≠ G) wr es[j] css[j]
theorem Terms.lt {B : Nat} {wr : World} {G cap : Nat} {es : List Exp} (h : Terms B wr G cap es) : B < G ∧ G < wr.heap.size := by
  obtain ⟨css, _, h2, _⟩ := h
  have := h2.lt G rfl
  omega
/-- .. in a world in which only a block that is none of theirs has changed -/
theorem Terms.keep {B : Nat} {wr w' : World} {G cap : Nat} {es : List Exp} {P : Nat} (h : Terms B wr G cap es) (hP : P ≤ B) (hb : wr.grownBy w' (some P)) : Terms B w' G cap es := by
  have hlt := h.lt
  obtain ⟨css, h1, h2, h3, h4⟩ := h
  refine ⟨css, h1, h2.kept hb (.inr (by simp [Value.ownBlock]; omega)), h3, fun j hj hj' => (h4 j hj hj').mono (fun g hg => ⟨hg.1, by have := hb.size; omega, hg.2.2⟩) (fun g hg => hb.block g hg.2.1 (by intro e; cases e; omega))⟩
theorem Terms.same {B : Nat} {wr w' : World} {G cap : Nat} {es : List Exp} (h : Terms B wr G cap es) (hb : Below wr.heap.size wr w') : Terms B w' G cap es := by
  obtain ⟨css, h1, h2, h3, h4⟩ := h
  refine ⟨css, h1, h2.kept (row := none) ⟨hb.os, hb.tape, hb.output, hb.size, fun k hk _ => hb.block k hk⟩ (by right; simp [Value.ownBlock]), h3, fun j hj hj' => (h4 j hj hj').mono (fun g hg => ⟨hg.1, by have := hb.size; omega, hg.2.2⟩) (fun g hg => hb.block g hg.2.1)⟩
/-- one more -/
theorem Terms.snoc {B : Nat} {wr w' : World} {G G' cap' : Nat} {es : List Exp} {x : Exp} {cs : List Value} {css : List (List Value)} (h1 : css.length = es.length) (h3 : ∀ cs ∈ css, cs.length = 4)
    (h4 : ∀ j (h : j < es.length) (h' : j < css.length), ERep (fun g => B < g ∧ g < wr.heap.size ∧ g ≠ G) wr es[j] css[j]) (hx : ERep (fun g => B < g ∧ g < wr.heap.size ∧ g ≠ G) wr x cs)
    (hown : w'.ownsRow (B + 1) 88 4 (.slice (some ⟨G', 0, none⟩) (es.length + 1) cap') (es.length + 1) (css.flatten ++ cs)) (hb : wr.grownBy w' (some G)) (hg : some G = some G' ∨ G' = wr.heap.size) : Terms B w' G' cap' (es ++ [x]) := by
  have key : ∀ y c, ERep (fun g => B < g ∧ g < wr.heap.size ∧ g ≠ G) wr y c → ERep (fun g => B < g ∧ g < w'.heap.size ∧ g ≠ G') w' y c := fun y c h => by
    refine h.mono (fun g hg' => ⟨hg'.1, by have := hb.size; omega, ?_⟩) (fun g hg' => hb.block g hg'.2.1 (by intro e; cases e; exact hg'.2.2 rfl))
    rcases hg with e | e
    · cases e; exact hg'.2.2
    · omega
  refine ⟨css ++ [cs], by simp [h1], by simpa using hown, fun c hc => ?_, fun j hj hj' => ?_⟩
  · rcases List.mem_append.1 hc with hc | hc
    · exact h3 c hc
    · simp at hc; rw [hc]; exact hx.len
  · by_cases hlt : j < es.length
    · rw [List.getElem_append_left hlt, List.getElem_append_left (by omega)]
      exact key _ _ (h4 j hlt (by omega))
    · have e : j = es.length := by simp at hj; omega
      subst e
      rw [List.getElem_append_right (Nat.le_refl _), List.getElem_append_right (by omega)]
      simp [h1]
      exact key _ _ hx
/-- a joined expression out of them -/
theorem Terms.join {B : Nat} {wr w' : World} {G cap : Nat} {es : List Exp} (h : Terms B wr G cap es) (hne : es ≠ []) (k : Nat) {S : Nat → Prop} (hS : ∀ g, B < g → g < wr.heap.size → S g)
    (hb : ∀ g, B < g → g < wr.heap.size → w'.heap[g]? = wr.heap[g]?) : ERep S w' (.join k es) (ExpV (k : Int) ⟨#[]⟩ ⟨#[]⟩ (some ⟨G, 0, none⟩) es.length cap) := by
  have hlt := h.lt
  obtain ⟨css, h1, h2, h3, h4⟩ := h
  simp only [ERep]
  refine ⟨G, cap, rfl, hS G hlt.1 hlt.2, hne, ?_⟩
  rw [ERep.all_iff]
  intro j hj
  refine ⟨css[j]'(by omega), fun i v hv => ?_, (h4 j hj (by omega)).mono (fun g hg => hS g hg.1 hg.2.1) (fun g hg => hb g hg.1 hg.2.1)⟩
  have hi : i < 4 := by
    have := (List.getElem?_eq_some_iff.1 hv).1
    rw [h3 _ (List.getElem_mem _)] at this
    exact this
  rw [World.cell?_of_block (w := wr) (a := ⟨G, 4 * (0 + j) + i, none⟩) (hb G hlt.1 hlt.2), Nat.zero_add, h2.cellAt _ (by omega), flatten4 css h3 j (by omega) i hi]
  exact hv
end Go.Proofs.YtlgodpadcilcaaaGreatDoor
namespace Go.Proofs.YtlgodpadcilcaaaGreatDoor
open Go.ChangeShapes Go.WideShapes Go.ChangeAt Go.RowKit

theorem infoE : (Tryz.prog.info? 88).map (fun i => (i.zero, i.size, i.bytes)) = some (some (.agg #[.int .i64 0, .string ⟨#[]⟩, .string ⟨#[]⟩, .slice none 0 0]), 4, 64) := by kernel_rfl

set_option maxHeartbeats 4000000 in
theorem pexpr_any (f : Nat) (hf : f ≤ 1000000) (hT : TermOK f) : ExprOK f := by
  intro n P xs w hl hz h
  have hPw := h.1
  have h2 : Rest n P (w.alloc (.cells zero4 88)) xs := h.but ((Below.refl _ _).alloc (Nat.le_refl _) _)
  have hbut : But P w (w.alloc (.cells zero4 88)) := (But.refl _ _).alloc _
  have hsz : (w.alloc (.cells zero4 88)).heap.size = w.heap.size + 1 := by simp
  have hrg : (w.alloc (.cells zero4 88)).rangeAt w.heap.size 0 zero4.toList := range_new _ _ _
  have hfr : ∀ j, (w.alloc (.cells zero4 88)).frozen? ⟨w.heap.size, j, none⟩ = false := fun j => World.frozen?_alloc_new _ _ _ _
  have hX := hT n P xs _ hl hz h2
  have hPB : w.heap.size ≠ P := by omega
  go_enter Tryz.func86, Tryz.ntmps86
  go_wp2_with fail
  generalize hW : w.alloc (.cells zero4 88) = W at *
  unfold zero4 at hW
  rw [hW]
  refine hX.mono ?_
  clear hX h hW h2
  rintro e w3 ⟨hb3, k, b3, c3, p3, l3, cap3, rfl, hE3⟩
  have hrg3 : w3.rangeAt w.heap.size 0 zero4.toList := fun j v hv => by
    rw [World.cell?_of_block (w := W) (a := ⟨w.heap.size, 0 + j, none⟩) (hb3.block _ (by simp; omega) hPB)]; exact hrg j v hv
  have hfr3 : ∀ j, w3.frozen? ⟨w.heap.size, j, none⟩ = false := fun j => by
    rw [World.frozen?_of_block (w := W) (a := ⟨w.heap.size, j, none⟩) (hb3.block _ (by simp; omega) hPB)]; exact hfr j
  clear hrg hfr
  have hs3 := hb3.size
  have hTL := exprL_eq xs
  obtain ⟨C4, hC4⟩ : ∃ C4 : Array Value, C4 = #[.int .i64 k, .string b3, .string c3, .slice p3 l3 cap3] := ⟨_, rfl⟩
  have hb4 : But P w (w3.alloc (.cells C4 88)) := (hbut.trans hb3).alloc _
  have hrg4 : (w3.alloc (.cells C4 88)).rangeAt w.heap.size 0 zero4.toList := fun j v hv => by
    rw [World.cell?_alloc_lt _ _ _ (by show w.heap.size < _; omega)]; exact hrg3 j v hv
  have hfr4 : ∀ j, (w3.alloc (.cells C4 88)).frozen? ⟨w.heap.size, j, none⟩ = false := fun j => by
    rw [frozen?_alloc_cells]; exact hfr3 j
  have hc4 : (w3.alloc (.cells C4 88)).rangeAt w3.heap.size 0 C4.toList := range_new _ _ _
  have hE4 : ∀ x ys, termL xs = some (x, ys) → ERep (fun g => w.heap.size < g ∧ g < w3.heap.size) (w3.alloc (.cells C4 88)) x (ExpV k b3 c3 p3 l3 cap3) ∧ Rest n P (w3.alloc (.cells C4 88)) ys := fun x ys hx => by
    obtain ⟨h1, h2⟩ := hE3 x ys hx
    refine ⟨h1.mono (fun g hg => ⟨by have := hg.1; omega, hg.2⟩) (fun g hg => Below.heap_alloc _ _ _ hg.2), h2.but ((Below.refl _ _).alloc (Nat.le_refl _) _)⟩
  have hs4 : w.heap.size < w3.heap.size ∧ (w3.alloc (.cells C4 88)).heap.size = w3.heap.size + 1 := ⟨by omega, by simp⟩
  clear hE3 hrg3 hfr3 hb3 hbut
  have eV : (ExpV k b3 c3 p3 l3 cap3).toArray = #[.int .i64 k, .string b3, .string c3, .slice p3 l3 cap3] := rfl
  rw [eV]
  clear eV
  generalize hq : (termL xs).isSome = q at *
  have HQ : Hid ((termL xs).isSome = q) := hq
  clear hq
  go_upto_region 2 with fail
  rw [← hC4]
  generalize w3.alloc (.cells C4 88) = W4 at *
  generalize w3.heap.size = C at *
  subst hC4
  have f0 : W4.cell? ⟨w.heap.size, 0, none⟩ = some (.int .i64 0) := hrg4 0 _ rfl
  have f1 : W4.cell? ⟨w.heap.size, 1, none⟩ = some (.string ⟨#[]⟩) := hrg4 1 _ rfl
  have f2 : W4.cell? ⟨w.heap.size, 2, none⟩ = some (.string ⟨#[]⟩) := hrg4 2 _ rfl
  have f3 : W4.cell? ⟨w.heap.size, 3, none⟩ = some (.slice none 0 0) := hrg4 3 _ rfl
  have g0 : W4.cell? ⟨C, 0, none⟩ = some (.int .i64 k) := hc4 0 _ rfl
  have g1 : W4.cell? ⟨C, 1, none⟩ = some (.string b3) := hc4 1 _ rfl
  have g2 : W4.cell? ⟨C, 2, none⟩ = some (.string c3) := hc4 2 _ rfl
  have g3 : W4.cell? ⟨C, 3, none⟩ = some (.slice p3 l3 cap3) := hc4 3 _ rfl
  have HR : Hid _ := hrg4
  have HC : Hid _ := hc4
  have HE : Hid _ := hE4
  clear hrg4 hc4 hE4
  cases hx : termL xs with
  | none =>
    have hq2 : q = false := by rw [← HQ.out, hx]; rfl
    subst hq2
    rw [hx] at hTL
    have HTL : Hid (exprL xs = none) := hTL
    clear hTL hx HQ HE
    go_wp2
    refine post_exp rfl w.heap.size (ExpV k b3 c3 p3 l3 cap3) (.bool false) rfl rfl rfl rfl (range_put4 _ _ _ _ rfl HR.out) ?_
    rw [HTL.out]
    exact ⟨hb4.put4 (Nat.le_refl _) _ _ _ _, k, b3, c3, p3, l3, cap3, rfl, fun x ys hx => by cases hx⟩
  | some qq =>
    obtain ⟨x, ys⟩ := qq
    have hq2 : q = true := by rw [← HQ.out, hx]; rfl
    subst hq2
    obtain ⟨hEx, hRy⟩ := HE.out x ys hx
    rw [hx] at hTL
    have hyl := termL_short _ _ _ hx
    have HSub : Hid (∀ z ∈ ys, z ∈ xs) := termL_sub _ _ _ hx
    clear HE HQ hx
    have HEx : Hid _ := hEx
    have HEfin : Hid (∀ y0 y1 y2 y3, ERep (New w (((((W4.setCell ⟨w.heap.size, 0, none⟩ y0).setCell ⟨w.heap.size, 1, none⟩ y1).setCell ⟨w.heap.size, 2, none⟩ y2).setCell ⟨w.heap.size, 3, none⟩ y3))) ((((W4.setCell ⟨w.heap.size, 0, none⟩ y0).setCell ⟨w.heap.size, 1, none⟩ y1).setCell ⟨w.heap.size, 2, none⟩ y2).setCell ⟨w.heap.size, 3, none⟩ y3) x (ExpV k b3 c3 p3 l3 cap3)) := fun y0 y1 y2 y3 =>
      hEx.mono (fun g hg => ⟨by omega, by simp; omega⟩) (fun g hg => heap_put4 (by omega))
    clear hEx
    cases ys with
    | nil =>
      have HTL : Hid (exprL xs = some (x, [])) := hTL
      clear hTL
      have hRest := hRy
      obtain ⟨_, _, ⟨v, hv, b, o, c, rfl, _⟩, _⟩ := hRy
      simp only [List.length_nil] at hv
      go_wp2
      refine post_exp rfl w.heap.size (ExpV k b3 c3 p3 l3 cap3) (.bool true) rfl rfl rfl rfl (range_put4 _ _ _ _ rfl HR.out) ?_
      rw [HTL.out]
      refine ⟨hb4.put4 (Nat.le_refl _) _ _ _ _, k, b3, c3, p3, l3, cap3, rfl, fun x ys hx => ?_⟩
      cases hx
      exact ⟨HEfin.out _ _ _ _, hRest.below1 (below_put4 (by omega) _ _ _ _ (Below.refl _ _))⟩
    | cons m ys =>
      have hRest := hRy
      obtain ⟨hP4, hn4, ⟨v, hv, b, o, c, rfl, hc, hbn, hcell⟩, hfP⟩ := hRy
      have h0 : W4.cell? ⟨b, o, none⟩ = some (.string ⟨m.toArray⟩) := hcell 0 (by simp)
      clear hcell
      simp only [List.length_cons] at hv hc
      have hJ := fun u => joining_any ⟨m.toArray⟩ u
      have em : (⟨m.toArray⟩ : ByteArray).data.toList = m := rfl
      rw [em] at hJ
      generalize hM : (⟨m.toArray⟩ : ByteArray) = M at *
      have HM : Hid (M.data.toList = m) := by rw [← hM]; rfl
      clear hM em
      simp only [] at hTL
      cases hk : markL m with
      | none =>
        rw [hk] at hTL hJ
        have HTL : Hid (exprL xs = some (x, m :: ys)) := hTL
        clear hTL
        simp only [Option.getD_none, Option.isSome_none] at hJ
        go_wp2_with (go_at_call 103; refine (hJ _).mono ?_; rintro e w' ⟨rfl, rfl⟩)
        refine post_exp rfl w.heap.size (ExpV k b3 c3 p3 l3 cap3) (.bool true) rfl rfl rfl rfl (range_put4 _ _ _ _ rfl HR.out) ?_
        rw [HTL.out]
        refine ⟨hb4.put4 (Nat.le_refl _) _ _ _ _, k, b3, c3, p3, l3, cap3, rfl, fun x ys hx => ?_⟩
        cases hx
        exact ⟨HEfin.out _ _ _ _, hRest.below1 (below_put4 (by omega) _ _ _ _ (Below.refl _ _))⟩
      | some kk =>
        rw [hk] at hTL hJ
        simp only [Option.getD_some, Option.isSome_some] at hJ
        go_wp2_with (go_at_call 103; refine (hJ _).mono ?_; rintro e w' ⟨rfl, rfl⟩)
        go_loopg [9] (ys.length + 1) (fun kx s9 wr => ∃ (G cap : Nat) (es dt : List Exp) (rest : List (List UInt8)), s9 = .slice (some ⟨G, 0, none⟩) es.length cap ∧ rest.length ≤ kx ∧ es = x :: dt ∧ es.length + rest.length ≤ xs.length ∧ Hid (Terms w.heap.size wr G cap es) ∧ Hid (Rest n P wr rest) ∧ Hid (But P w wr) ∧ Hid (wr.rangeAt w.heap.size 0 zero4.toList ∧ ∀ j, wr.frozen? ⟨w.heap.size, j, none⟩ = false) ∧ Hid (∀ z ∈ rest, z.length ≤ 1000000) ∧ Hid (manyL m (m :: ys) = match manyL m rest with | none => none | some (es', r') => some (dt ++ es', r')))
        case atStart =>
          have hE1 := HEx.out
          have hnew := range_new w' #[.int .i64 k, .string b3, .string c3, .slice p3 l3 cap3] 88
          have hal : Below w'.heap.size w' (w'.alloc (.cells #[.int .i64 k, .string b3, .string c3, .slice p3 l3 cap3] 88)) := (Below.refl _ _).alloc (Nat.le_refl _) _
          refine ⟨C + 1, 1, [x], [], m :: ys, rfl, by simp, rfl, by simp at hyl ⊢; omega, ?_, hRest.but hal, hb4.alloc _, ⟨fun j v hv => ?_, fun j => ?_⟩, fun z hz' => hz z ?_, ?_⟩
          · refine ⟨[ExpV k b3 c3 p3 l3 cap3], rfl, ⟨rfl, .inr ⟨C + 1, 1, #[.int .i64 k, .string b3, .string c3, .slice p3 l3 cap3], rfl, by omega, ?_, Nat.le_refl _, by unfold maxLen; omega, rfl, rfl⟩⟩, fun cs hcs => ?_, fun j h h' => ?_⟩
            · rw [← hs4.2]; exact heap_alloc_new _ _
            · simp at hcs; rw [hcs]; rfl
            · have ej : j = 0 := by simp at h; omega
              subst ej
              exact hE1.mono (fun g hg => ⟨hg.1, by simp; omega, by omega⟩) (fun g hg => hal.block g (by omega))
          · rw [hal.cell (p := ⟨w.heap.size, 0 + j, none⟩) (by show w.heap.size < _; omega)]; exact HR.out j v hv
          · rw [frozen?_alloc_cells]; exact hfr4 j
          · exact HSub.out z hz'
          · show _ = _
            cases manyL m (m :: ys) with
            | none => rfl
            | some q => obtain ⟨a, b⟩ := q; rfl
        case round =>
          obtain ⟨G, cap, es, dt, rest, rfl, hrk, hes, hlen, hTm0, hRs0, hBt0, hRg0, hZ0, hSp0⟩ := hrel
          have hTm := hTm0.out
          have hRs := hRs0.out
          have hBt := hBt0.out
          have HRg : Hid _ := hRg0.out.1
          have hfz := hRg0.out.2
          clear hTm0 hRs0 hBt0 hRg0
          have e0 : wr.cell? ⟨w.heap.size, 0, none⟩ = some (.int .i64 0) := HRg.out 0 _ rfl
          have e1 : wr.cell? ⟨w.heap.size, 1, none⟩ = some (.string ⟨#[]⟩) := HRg.out 1 _ rfl
          have e2 : wr.cell? ⟨w.heap.size, 2, none⟩ = some (.string ⟨#[]⟩) := HRg.out 2 _ rfl
          have e3 : wr.cell? ⟨w.heap.size, 3, none⟩ = some (.slice none 0 0) := HRg.out 3 _ rfl
          cases rest with
          | nil =>
            have hTk := take_nil n P M wr hRs
            have hTX : Hid (exprL xs = if kk = 5 ∧ dt.length ≠ 1 then none else some (.join kk es, [])) := by
              show _ = _
              rw [hTL, hSp0.out, manyL_nil, hes]; simp
            clear hTL hSp0 hZ0
            have hne : es ≠ [] := by rw [hes]; simp
            have hdl : dt.length + 1 = es.length := by rw [hes]; simp
            have HJ : Hid (∀ y0 y1 y2 y3, ERep (New w (((((wr.setCell ⟨w.heap.size, 0, none⟩ y0).setCell ⟨w.heap.size, 1, none⟩ y1).setCell ⟨w.heap.size, 2, none⟩ y2).setCell ⟨w.heap.size, 3, none⟩ y3))) ((((wr.setCell ⟨w.heap.size, 0, none⟩ y0).setCell ⟨w.heap.size, 1, none⟩ y1).setCell ⟨w.heap.size, 2, none⟩ y2).setCell ⟨w.heap.size, 3, none⟩ y3) (.join kk es) (ExpV (kk : Int) ⟨#[]⟩ ⟨#[]⟩ (some ⟨G, 0, none⟩) es.length cap)) := fun y0 y1 y2 y3 =>
              hTm.join hne kk (fun g h1 h2 => ⟨by omega, by simp; omega⟩) (fun g h1 h2 => heap_put4 (by omega))
            have HRf : Hid (∀ y0 y1 y2 y3, Rest n P ((((wr.setCell ⟨w.heap.size, 0, none⟩ y0).setCell ⟨w.heap.size, 1, none⟩ y1).setCell ⟨w.heap.size, 2, none⟩ y2).setCell ⟨w.heap.size, 3, none⟩ y3) []) := fun y0 y1 y2 y3 => hRs.below1 (below_put4 (by omega) _ _ _ _ (Below.refl _ _))
            clear hTm hRs
            have HDL : Hid (dt.length + 1 = es.length) := hdl
            clear hes hne hlen hdl
            go_wp2_with fail
            refine hTk.mono ?_
            rintro e w' ⟨rfl, rfl⟩
            clear hTk
            go_wp2
            · have h5 : kk = 5 := by omega
              subst h5
              by_cases hl2 : es.length = 2
              · have HTL : Hid (exprL xs = some (.join 5 es, [])) := by show _ = _; rw [hTX.out, if_neg (by have := HDL.out; omega)]
                have hq1 : (((es.length : Nat) : Int) == 2) = true := by rw [beq_iff_eq]; omega
                rw [hq1]
                refine post_exp rfl w.heap.size (ExpV 5 ⟨#[]⟩ ⟨#[]⟩ (some ⟨G, 0, none⟩) es.length cap) (.bool true) rfl rfl rfl rfl (range_put4 _ _ _ _ rfl HRg.out) ?_
                rw [HTL.out]
                refine ⟨hBt.put4 (Nat.le_refl _) _ _ _ _, 5, ⟨#[]⟩, ⟨#[]⟩, some ⟨G, 0, none⟩, es.length, cap, rfl, fun x ys hx => ?_⟩
                cases hx
                exact ⟨HJ.out _ _ _ _, HRf.out _ _ _ _⟩
              · have HTL : Hid (exprL xs = none) := by show _ = _; rw [hTX.out, if_pos ⟨rfl, by have := HDL.out; omega⟩]
                have hq1 : (((es.length : Nat) : Int) == 2) = false := by rw [beq_eq_false_iff_ne]; omega
                rw [hq1]
                refine post_exp rfl w.heap.size (ExpV 5 ⟨#[]⟩ ⟨#[]⟩ (some ⟨G, 0, none⟩) es.length cap) (.bool false) rfl rfl rfl rfl (range_put4 _ _ _ _ rfl HRg.out) ?_
                rw [HTL.out]
                exact ⟨hBt.put4 (Nat.le_refl _) _ _ _ _, 5, ⟨#[]⟩, ⟨#[]⟩, some ⟨G, 0, none⟩, es.length, cap, rfl, fun x ys hx => by cases hx⟩
            · have h5 : kk ≠ 5 := by omega
              have HTL : Hid (exprL xs = some (.join kk es, [])) := by show _ = _; rw [hTX.out, if_neg (by omega)]
              refine post_exp rfl w.heap.size (ExpV (kk : Int) ⟨#[]⟩ ⟨#[]⟩ (some ⟨G, 0, none⟩) es.length cap) (.bool true) rfl rfl rfl rfl (range_put4 _ _ _ _ rfl HRg.out) ?_
              rw [HTL.out]
              refine ⟨hBt.put4 (Nat.le_refl _) _ _ _ _, kk, ⟨#[]⟩, ⟨#[]⟩, some ⟨G, 0, none⟩, es.length, cap, rfl, fun x ys hx => ?_⟩
              cases hx
              exact ⟨HJ.out _ _ _ _, HRf.out _ _ _ _⟩
          | cons z r1 =>
            by_cases hzm : z = m
            · subst hzm
              have hRs' : Rest n P wr (M.data.toList :: r1) := by rw [HM.out]; exact hRs
              have hTk := take_same n P M r1 wr hRs'
              have hZ1 : ∀ q ∈ r1, q.length ≤ 1000000 := fun q hq => hZ0.out q (List.mem_cons_of_mem _ hq)
              have hGlt := hTm.lt
              clear hRs hRs' hZ0
              simp only [List.length_cons] at hlen hrk
              have HES : Hid (es = x :: dt) := hes
              clear hes
              go_wp2_with fail
              refine hTk.mono ?_
              rintro e w1 ⟨rfl, hRs1, hg1, hsz1⟩
              clear hTk
              have hTm1 := hTm.keep (by omega) hg1
              have hBt1 := hBt.trans (But.of_grown hg1)
              have hRg1 : w1.rangeAt w.heap.size 0 zero4.toList := fun j v hv => grown_cell hg1 hPB (HRg.out j v hv)
              have hfz1 : ∀ j, w1.frozen? ⟨w.heap.size, j, none⟩ = false := fun j => grown_frozen hg1 hPB (World.block_lt_of_cell? wr ⟨w.heap.size, 0, none⟩ e0) (hfz j)
              have hwl : w.heap.size < w1.heap.size := by have := World.block_lt_of_cell? wr ⟨w.heap.size, 0, none⟩ e0; simp at this; omega
              clear hTm hBt HRg hfz e0 e1 e2 e3 hg1
              have hX := hT n P r1 w1 (by omega) hZ1 hRs1
              go_wp2_with fail
              refine hX.mono ?_
              rintro e w2 ⟨hb2, k5, b5, c5, p5, l5, cap5, rfl, hE5⟩
              clear hX
              have hs2 := hb2.size
              have hTm2 := hTm1.keep (by omega) hb2.grown
              have hBt2 := hBt1.trans hb2
              obtain ⟨C5, hC5⟩ : ∃ C5 : Array Value, C5 = #[.int .i64 k5, .string b5, .string c5, .slice p5 l5 cap5] := ⟨_, rfl⟩
              have hal : Below w2.heap.size w2 (w2.alloc (.cells C5 88)) := (Below.refl _ _).alloc (Nat.le_refl _) _
              have hTm5 := hTm2.same hal
              have hBt5 : But P w (w2.alloc (.cells C5 88)) := hBt2.alloc _
              have hRg5 : (w2.alloc (.cells C5 88)).rangeAt w.heap.size 0 zero4.toList := fun j v hv => by
                rw [hal.cell (p := ⟨w.heap.size, 0 + j, none⟩) (by show w.heap.size < _; omega)]; exact grown_cell hb2.grown hPB (hRg1 j v hv)
              have hfz5 : ∀ j, (w2.alloc (.cells C5 88)).frozen? ⟨w.heap.size, j, none⟩ = false := fun j => by
                rw [frozen?_alloc_cells]; exact grown_frozen hb2.grown hPB hwl (hfz1 j)
              have hc5 : (w2.alloc (.cells C5 88)).rangeAt w2.heap.size 0 C5.toList := range_new _ _ _
              have hE6 : ∀ y r2, termL r1 = some (y, r2) → ERep (fun g => w.heap.size < g ∧ g < w2.heap.size ∧ g ≠ G) (w2.alloc (.cells C5 88)) y (ExpV k5 b5 c5 p5 l5 cap5) ∧ Rest n P (w2.alloc (.cells C5 88)) r2 := fun y r2 hy => by
                obtain ⟨h1, h2⟩ := hE5 y r2 hy
                refine ⟨h1.mono (fun g hg => ⟨by have := hg.1; omega, hg.2, by have := hg.1; have := hTm1.lt; omega⟩) (fun g hg => hal.block g hg.2), h2.but hal⟩
              have hs5 : (w2.alloc (.cells C5 88)).heap.size = w2.heap.size + 1 := by simp
              clear hE5 hTm1 hTm2 hBt1 hBt2 hRg1 hfz1 hal hb2 hRs1
              have eV : (ExpV k5 b5 c5 p5 l5 cap5).toArray = #[.int .i64 k5, .string b5, .string c5, .slice p5 l5 cap5] := rfl
              rw [eV]
              clear eV
              generalize hq5 : (termL r1).isSome = q5 at *
              have HQ5 : Hid ((termL r1).isSome = q5) := hq5
              clear hq5
              go_upto_region 11 with fail
              rw [← hC5]
              generalize w2.alloc (.cells C5 88) = W5 at *
              generalize w2.heap.size = C2 at *
              subst hC5
              have f0 : W5.cell? ⟨w.heap.size, 0, none⟩ = some (.int .i64 0) := hRg5 0 _ rfl
              have f1 : W5.cell? ⟨w.heap.size, 1, none⟩ = some (.string ⟨#[]⟩) := hRg5 1 _ rfl
              have f2 : W5.cell? ⟨w.heap.size, 2, none⟩ = some (.string ⟨#[]⟩) := hRg5 2 _ rfl
              have f3 : W5.cell? ⟨w.heap.size, 3, none⟩ = some (.slice none 0 0) := hRg5 3 _ rfl
              have g0' : W5.cell? ⟨C2, 0, none⟩ = some (.int .i64 k5) := hc5 0 _ rfl
              have g1' : W5.cell? ⟨C2, 1, none⟩ = some (.string b5) := hc5 1 _ rfl
              have g2' : W5.cell? ⟨C2, 2, none⟩ = some (.string c5) := hc5 2 _ rfl
              have g3' : W5.cell? ⟨C2, 3, none⟩ = some (.slice p5 l5 cap5) := hc5 3 _ rfl
              have HRg5 : Hid _ := hRg5
              have HE6 : Hid _ := hE6
              clear hRg5 hc5 hE6
              cases hy : termL r1 with
              | none =>
                have hq2 : q5 = false := by rw [← HQ5.out, hy]; rfl
                subst hq2
                have HTL : Hid (exprL xs = none) := by show _ = _; rw [hTL, hSp0.out, manyL_none z r1 hy]
                clear hTL hSp0 hy HQ5 HE6
                go_wp2
                refine post_exp rfl w.heap.size (ExpV 0 ⟨#[]⟩ ⟨#[]⟩ none 0 0) (.bool false) rfl rfl rfl rfl (range_put4 _ _ _ _ rfl HRg5.out) ?_
                rw [HTL.out]
                exact ⟨hBt5.put4 (Nat.le_refl _) _ _ _ _, 0, ⟨#[]⟩, ⟨#[]⟩, none, 0, 0, rfl, fun x ys hx => by cases hx⟩
              | some qq5 =>
                obtain ⟨y, r2⟩ := qq5
                have hq2 : q5 = true := by rw [← HQ5.out, hy]; rfl
                subst hq2
                obtain ⟨hEy, hR2⟩ := HE6.out y r2 hy
                have hr2l := termL_short _ _ _ hy
                have HSub2 : Hid (∀ q ∈ r2, q ∈ r1) := termL_sub _ _ _ hy
                have HSp : Hid (manyL z (z :: ys) = match manyL z r2 with | none => none | some (es', r') => some ((dt ++ [y]) ++ es', r')) := by
                  show _ = _
                  rw [hSp0.out, manyL_some z r1 hy]
                  cases manyL z r2 with
                  | none => rfl
                  | some q => obtain ⟨a, b⟩ := q; simp
                clear HE6 HQ5 hSp0
                obtain ⟨css, hcl, hown, hc4s, hEs⟩ := hTm5
                have HEs : Hid _ := hEs
                have HEy : Hid _ := hEy
                have HTL : Hid _ := hTL
                clear hEs hEy hTL
                obtain ⟨i0, hi, hz0, hz1, hz2⟩ := info_parts infoE
                have HS5 : Hid (W5.heap.size = C2 + 1) := hs5
                have hWB : w.heap.size + 1 ≤ W5.heap.size := by omega
                clear hs5
                go_wp2_with (at_builtin; refine wpList_append_lies _ rfl _ _ 86 rfl (w.heap.size + 1) 88 i0 _ 4 64 Tryz.underlying86 hi hz0 hz1 hz2 rfl (by decide) _ _ _ rfl (hown.alloc _) ⟨W5.heap.size, 0, none⟩ 1 1 (ExpV k5 b5 c5 p5 l5 cap5) rfl rfl (World.news_of_block (cs := #[.int .i64 k5, .string b5, .string c5, .slice p5 l5 cap5]) (t := 88) (fr := (0, 0)) (heap_alloc_new W5 _)) (fun u hu => by simp [ExpV] at hu; rcases hu with rfl | rfl | rfl | rfl <;> rfl) (by decide) (by unfold maxLen; omega) (by omega) (by simp; omega) _ rfl ?_; intro g cap' w7 hown7 hgrow7 hat7 hlt7)
                have hal6 : Below W5.heap.size W5 (W5.alloc (.cells #[.int .i64 k5, .string b5, .string c5, .slice p5 l5 cap5] 88)) := (Below.refl _ _).alloc (Nat.le_refl _) _
                have hG5 : G < W5.heap.size := (hown.lt G rfl).2
                go_roundg r2.length
                case measure => omega
                case rel =>
                  have hgP : ∀ q, q < W5.heap.size → q ≠ G → w7.heap[q]? = W5.heap[q]? := fun q hq hqG => (hgrow7.block q (by simp; omega) (by intro e; cases e; exact hqG rfl)).trans (hal6.block q hq)
                  have hsz7 : W5.heap.size + 1 ≤ w7.heap.size := by have := hgrow7.size; simpa using this
                  have hwr : w.heap.size ≠ G := by have := (hown.lt G rfl).1; omega
                  refine ⟨g, cap', es ++ [y], dt ++ [y], r2, by simp, Nat.le_refl _, by rw [HES.out]; simp, by simp; omega, ?_, ?_, ?_, ⟨fun j v hv => ?_, fun j => ?_⟩, fun q hq => hZ1 q (HSub2.out q hq), HSp.out⟩
                  · refine Terms.snoc (wr := W5.alloc (.cells #[.int .i64 k5, .string b5, .string c5, .slice p5 l5 cap5] 88)) (G := G) hcl hc4s (fun j h h' => ?_) ?_ hown7 hgrow7 hat7
                    · exact (HEs.out j h h').mono (fun q hq => ⟨hq.1, by simp; omega, hq.2.2⟩) (fun q hq => hal6.block q hq.2.1)
                    · exact HEy.out.mono (fun q hq => ⟨hq.1, by have := HS5.out; simp; omega, hq.2.2⟩) (fun q hq => hal6.block q (by have := HS5.out; omega))
                  · obtain ⟨a1, a2, ⟨v, a3, a4⟩, a5⟩ := hR2
                    have hPG : P ≠ G := by have := (hown.lt G rfl).1; omega
                    refine ⟨by omega, a2, ⟨v, ?_, ?_⟩, ?_⟩
                    · rw [World.cell?_of_block (w := W5) (a := ⟨P, 0, none⟩) (hgP P a1 hPG)]; exact a3
                    · obtain ⟨b', o', c', q1, q2, q3, q4⟩ := a4
                      exact ⟨b', o', c', q1, q2, q3, fun i hi => by rw [World.cell?_of_block (w := W5) (a := ⟨b', o' + i, none⟩) (hgP b' (by omega) (by have := (hown.lt G rfl).1; omega))]; exact q4 i hi⟩
                    · rw [World.frozen?_of_block (w := W5) (a := ⟨P, 0, none⟩) (hgP P a1 hPG)]; exact a5
                  · refine ⟨by rw [hgrow7.os]; exact hBt5.os, by rw [hgrow7.tape]; exact hBt5.tape, by rw [hgrow7.output]; exact hBt5.output, by have := hBt5.size; omega, fun q hq hqP => ?_⟩
                    rw [hgP q (by have := hBt5.size; omega) (by have := (hown.lt G rfl).1; omega)]
                    exact hBt5.block q hq hqP
                  · rw [World.cell?_of_block (w := W5) (a := ⟨w.heap.size, 0 + j, none⟩) (hgP w.heap.size (by omega) hwr)]; exact HRg5.out j v hv
                  · rw [World.frozen?_of_block (w := W5) (a := ⟨w.heap.size, j, none⟩) (hgP w.heap.size (by omega) hwr)]; exact hfz5 j
            · have hTk := take_other n P M z r1 wr hRs (by rw [HM.out]; exact hzm)
              have hTX : Hid (exprL xs = if kk = 5 ∧ dt.length ≠ 1 then none else some (.join kk es, z :: r1)) := by
                show _ = _
                rw [hTL, hSp0.out, manyL_other m z r1 hzm, hes]; simp
              clear hTL hSp0 hZ0
              have hne : es ≠ [] := by rw [hes]; simp
              have hdl : dt.length + 1 = es.length := by rw [hes]; simp
              have HJ : Hid (∀ y0 y1 y2 y3, ERep (New w (((((wr.setCell ⟨w.heap.size, 0, none⟩ y0).setCell ⟨w.heap.size, 1, none⟩ y1).setCell ⟨w.heap.size, 2, none⟩ y2).setCell ⟨w.heap.size, 3, none⟩ y3))) ((((wr.setCell ⟨w.heap.size, 0, none⟩ y0).setCell ⟨w.heap.size, 1, none⟩ y1).setCell ⟨w.heap.size, 2, none⟩ y2).setCell ⟨w.heap.size, 3, none⟩ y3) (.join kk es) (ExpV (kk : Int) ⟨#[]⟩ ⟨#[]⟩ (some ⟨G, 0, none⟩) es.length cap)) := fun y0 y1 y2 y3 =>
                hTm.join hne kk (fun g h1 h2 => ⟨by omega, by simp; omega⟩) (fun g h1 h2 => heap_put4 (by omega))
              have HRf : Hid (∀ y0 y1 y2 y3, Rest n P ((((wr.setCell ⟨w.heap.size, 0, none⟩ y0).setCell ⟨w.heap.size, 1, none⟩ y1).setCell ⟨w.heap.size, 2, none⟩ y2).setCell ⟨w.heap.size, 3, none⟩ y3) (z :: r1)) := fun y0 y1 y2 y3 => hRs.below1 (below_put4 (by omega) _ _ _ _ (Below.refl _ _))
              clear hTm hRs
              have HDL : Hid (dt.length + 1 = es.length) := hdl
              clear hes hne hlen hdl
              go_wp2_with fail
              refine hTk.mono ?_
              rintro e w' ⟨rfl, rfl⟩
              clear hTk
              go_wp2
              · have h5 : kk = 5 := by omega
                subst h5
                by_cases hl2 : es.length = 2
                · have HTL : Hid (exprL xs = some (.join 5 es, (z :: r1))) := by show _ = _; rw [hTX.out, if_neg (by have := HDL.out; omega)]
                  have hq1 : (((es.length : Nat) : Int) == 2) = true := by rw [beq_iff_eq]; omega
                  rw [hq1]
                  refine post_exp rfl w.heap.size (ExpV 5 ⟨#[]⟩ ⟨#[]⟩ (some ⟨G, 0, none⟩) es.length cap) (.bool true) rfl rfl rfl rfl (range_put4 _ _ _ _ rfl HRg.out) ?_
                  rw [HTL.out]
                  refine ⟨hBt.put4 (Nat.le_refl _) _ _ _ _, 5, ⟨#[]⟩, ⟨#[]⟩, some ⟨G, 0, none⟩, es.length, cap, rfl, fun x ys hx => ?_⟩
                  cases hx
                  exact ⟨HJ.out _ _ _ _, HRf.out _ _ _ _⟩
                · have HTL : Hid (exprL xs = none) := by show _ = _; rw [hTX.out, if_pos ⟨rfl, by have := HDL.out; omega⟩]
                  have hq1 : (((es.length : Nat) : Int) == 2) = false := by rw [beq_eq_false_iff_ne]; omega
                  rw [hq1]
                  refine post_exp rfl w.heap.size (ExpV 5 ⟨#[]⟩ ⟨#[]⟩ (some ⟨G, 0, none⟩) es.length cap) (.bool false) rfl rfl rfl rfl (range_put4 _ _ _ _ rfl HRg.out) ?_
                  rw [HTL.out]
                  exact ⟨hBt.put4 (Nat.le_refl _) _ _ _ _, 5, ⟨#[]⟩, ⟨#[]⟩, some ⟨G, 0, none⟩, es.length, cap, rfl, fun x ys hx => by cases hx⟩
              · have h5 : kk ≠ 5 := by omega
                have HTL : Hid (exprL xs = some (.join kk es, (z :: r1))) := by show _ = _; rw [hTX.out, if_neg (by omega)]
                refine post_exp rfl w.heap.size (ExpV (kk : Int) ⟨#[]⟩ ⟨#[]⟩ (some ⟨G, 0, none⟩) es.length cap) (.bool true) rfl rfl rfl rfl (range_put4 _ _ _ _ rfl HRg.out) ?_
                rw [HTL.out]
                refine ⟨hBt.put4 (Nat.le_refl _) _ _ _ _, kk, ⟨#[]⟩, ⟨#[]⟩, some ⟨G, 0, none⟩, es.length, cap, rfl, fun x ys hx => ?_⟩
                cases hx
                exact ⟨HJ.out _ _ _ _, HRf.out _ _ _ _⟩
end Go.Proofs.YtlgodpadcilcaaaGreatDoor
namespace Go.Proofs.YtlgodpadcilcaaaGreatDoor
open Go.ChangeShapes Go.WideShapes Go.ChangeAt Go.RowKit

theorem term_ok : ∀ f, f ≤ 1000000 → TermOK f
  | 0, _ => by
    intro n P xs w hl _ h
    obtain rfl : xs = [] := List.eq_nil_of_length_eq_zero (by omega)
    exact pterm_nil n P w h
  | f + 1, hf => by
    intro n P xs w hl hz h
    cases xs with
    | nil => exact pterm_nil n P w h
    | cons x r =>
      by_cases hx : x = [40]
      · subst hx
        exact pterm_open f (pexpr_any f (by omega) (term_ok f (by omega))) n P r w (by simp at hl; omega) (fun z hz' => hz z (List.mem_cons_of_mem _ hz')) h
      · exact pterm_other n P x r w hx (hz x (List.mem_cons_self ..)) h

/-- what parseExpression answers -/
def EAns (w w' : World) (r : Option Exp) (e : Ending) : Prop :=
  ∃ k b c p l cap, e = .returned (.tuple #[.agg (ExpV k b c p l cap).toArray, .bool r.isSome]) ∧ ∀ x, r = some x → ERep (New w w') w' x (ExpV k b c p l cap)
/-- words that are one whole expression -/
def wholeL (xs : List (List UInt8)) : Option Exp :=
  match exprL xs with
  | some (x, []) => some x
  | _ => none

set_option maxHeartbeats 4000000 in
theorem parseExpr_any (n : Nat) (v : Value) (xs : List (List UInt8)) (w : World) (hn : n ≤ w.heap.size) (hl : xs.length ≤ 1000000) (hz : ∀ x ∈ xs, x.length ≤ 1000000) (h : Strs n w v xs) :
    Calls Tryz.prog 59 #[v] w fun e w' => EAns w w' (wholeL xs) e ∧ Below w.heap.size w w' := by
  obtain ⟨b, o, c, rfl, hc, hb, hcell⟩ := h
  have hal1 : Below w.heap.size w (w.alloc (.cells zero4 88)) := (Below.refl _ _).alloc (Nat.le_refl _) _
  have hal2 : Below w.heap.size w ((w.alloc (.cells zero4 88)).alloc (.cells #[.slice (some ⟨b, o, none⟩) xs.length c] 161)) := hal1.alloc hal1.size _
  have hR : Rest n (w.heap.size + 1) ((w.alloc (.cells zero4 88)).alloc (.cells #[.slice (some ⟨b, o, none⟩) xs.length c] 161)) xs := by
    refine ⟨by simp, by omega, ⟨_, ?_, b, o, c, rfl, hc, hb, fun i hi => ?_⟩, ?_⟩
    · have := World.cell?_alloc_new (w.alloc (.cells zero4 88)) #[.slice (some ⟨b, o, none⟩) xs.length c] 161 0
      rw [World.size_alloc] at this
      exact this
    · rw [hal2.cell (p := ⟨b, o + i, none⟩) (by show b < _; omega)]; exact hcell i hi
    · have := World.frozen?_alloc_new (w.alloc (.cells zero4 88)) #[.slice (some ⟨b, o, none⟩) xs.length c] 161 0
      rw [World.size_alloc] at this
      exact this
  have hsz : ((w.alloc (.cells zero4 88)).alloc (.cells #[.slice (some ⟨b, o, none⟩) xs.length c] 161)).heap.size = w.heap.size + 2 := by simp
  have hrg : ((w.alloc (.cells zero4 88)).alloc (.cells #[.slice (some ⟨b, o, none⟩) xs.length c] 161)).rangeAt w.heap.size 0 zero4.toList := World.rangeAt_alloc (range_new _ _ _) _
  have hfr : ∀ j, ((w.alloc (.cells zero4 88)).alloc (.cells #[.slice (some ⟨b, o, none⟩) xs.length c] 161)).frozen? ⟨w.heap.size, j, none⟩ = false := fun j => by
    rw [frozen?_alloc_cells]; exact World.frozen?_alloc_new _ _ _ _
  have hX := pexpr_any xs.length hl (term_ok xs.length hl) n (w.heap.size + 1) xs _ (Nat.le_refl _) hz hR
  go_enter Tryz.func59, Tryz.ntmps59
  go_wp2_with fail
  generalize hW : (w.alloc (.cells zero4 88)).alloc (.cells #[.slice (some ⟨b, o, none⟩) xs.length c] 161) = W at *
  unfold zero4 at hW
  rw [hW]
  refine hX.mono ?_
  rintro e w3 ⟨hb3, k, b3, c3, p3, l3, cap3, rfl, hE3⟩
  clear hX hW hR
  have hPB : w.heap.size ≠ w.heap.size + 1 := by omega
  have hs3 := hb3.size
  have hrg3 : w3.rangeAt w.heap.size 0 zero4.toList := fun j v hv => grown_cell hb3.grown hPB (hrg j v hv)
  have hfr3 : ∀ j, w3.frozen? ⟨w.heap.size, j, none⟩ = false := fun j => grown_frozen hb3.grown hPB (by omega) (hfr j)
  have hbl3 : Below w.heap.size w w3 := hal2.trans ((hb3.belowP (by omega)).mono (by omega))
  obtain ⟨C4, hC4⟩ : ∃ C4 : Array Value, C4 = #[.int .i64 k, .string b3, .string c3, .slice p3 l3 cap3] := ⟨_, rfl⟩
  have hal : Below w3.heap.size w3 (w3.alloc (.cells C4 88)) := (Below.refl _ _).alloc (Nat.le_refl _) _
  have hb4 : Below w.heap.size w (w3.alloc (.cells C4 88)) := hbl3.alloc hbl3.size _
  have hrg4 : (w3.alloc (.cells C4 88)).rangeAt w.heap.size 0 zero4.toList := World.rangeAt_alloc hrg3 _
  have hfr4 : ∀ j, (w3.alloc (.cells C4 88)).frozen? ⟨w.heap.size, j, none⟩ = false := fun j => by
    rw [frozen?_alloc_cells]; exact hfr3 j
  have hc4 : (w3.alloc (.cells C4 88)).rangeAt w3.heap.size 0 C4.toList := range_new _ _ _
  have hE4 : ∀ x ys, exprL xs = some (x, ys) → ERep (fun g => w.heap.size < g ∧ g < w3.heap.size) (w3.alloc (.cells C4 88)) x (ExpV k b3 c3 p3 l3 cap3) ∧ Rest n (w.heap.size + 1) (w3.alloc (.cells C4 88)) ys := fun x ys hx => by
    obtain ⟨h1, h2⟩ := hE3 x ys hx
    refine ⟨h1.mono (fun g hg => ⟨by have := hg.1; omega, hg.2⟩) (fun g hg => Below.heap_alloc _ _ _ hg.2), h2.but hal⟩
  have hs4 : (w3.alloc (.cells C4 88)).heap.size = w3.heap.size + 1 := by simp
  clear hE3 hrg3 hfr3 hb3 hal1 hal2 hrg hfr hbl3 hal
  have eV : (ExpV k b3 c3 p3 l3 cap3).toArray = #[.int .i64 k, .string b3, .string c3, .slice p3 l3 cap3] := rfl
  rw [eV]
  clear eV
  generalize hq : (exprL xs).isSome = q at *
  have HQ : Hid ((exprL xs).isSome = q) := hq
  clear hq
  go_upto_region 3 with fail
  rw [← hC4]
  generalize w3.alloc (.cells C4 88) = W4 at *
  generalize w3.heap.size = C at *
  subst hC4
  have f0 : W4.cell? ⟨w.heap.size, 0, none⟩ = some (.int .i64 0) := hrg4 0 _ rfl
  have f1 : W4.cell? ⟨w.heap.size, 1, none⟩ = some (.string ⟨#[]⟩) := hrg4 1 _ rfl
  have f2 : W4.cell? ⟨w.heap.size, 2, none⟩ = some (.string ⟨#[]⟩) := hrg4 2 _ rfl
  have f3 : W4.cell? ⟨w.heap.size, 3, none⟩ = some (.slice none 0 0) := hrg4 3 _ rfl
  have g0 : W4.cell? ⟨C, 0, none⟩ = some (.int .i64 k) := hc4 0 _ rfl
  have g1 : W4.cell? ⟨C, 1, none⟩ = some (.string b3) := hc4 1 _ rfl
  have g2 : W4.cell? ⟨C, 2, none⟩ = some (.string c3) := hc4 2 _ rfl
  have g3 : W4.cell? ⟨C, 3, none⟩ = some (.slice p3 l3 cap3) := hc4 3 _ rfl
  have HR : Hid _ := hrg4
  have HE : Hid _ := hE4
  clear hrg4 hc4 hE4
  cases hx : exprL xs with
  | none =>
    have hq2 : q = false := by rw [← HQ.out, hx]; rfl
    subst hq2
    have HTL : Hid (wholeL xs = none) := by show _ = _; unfold wholeL; rw [hx]
    clear hx HQ HE
    go_region
    go_wp2
    refine post_exp rfl w.heap.size (ExpV k b3 c3 p3 l3 cap3) (.bool false) rfl rfl rfl rfl ((World.rangeAt_drew _ _ _ _).2 (range_put4 _ _ _ _ rfl HR.out)) ?_
    rw [HTL.out]
    exact ⟨⟨k, b3, c3, p3, l3, cap3, rfl, fun x hx => by cases hx⟩, (below_put4 (Nat.le_refl _) _ _ _ _ hb4).drew⟩
  | some qq =>
    obtain ⟨x, ys⟩ := qq
    have hq2 : q = true := by rw [← HQ.out, hx]; rfl
    subst hq2
    obtain ⟨hEx, hRy⟩ := HE.out x ys hx
    have HEx : Hid _ := hEx
    obtain ⟨_, _, ⟨v, hv, b', o', c', rfl, hc', hb', hcell'⟩, _⟩ := hRy
    clear HE HQ hEx hcell' hcell
    cases ys with
    | nil =>
      have HTL : Hid (wholeL xs = some x) := by show _ = _; unfold wholeL; rw [hx]
      clear hx
      simp only [List.length_nil] at hv
      go_region
      go_wp2
      refine post_exp rfl w.heap.size (ExpV k b3 c3 p3 l3 cap3) (.bool true) rfl rfl rfl rfl ((World.rangeAt_drew _ _ _ _).2 (range_put4 _ _ _ _ rfl HR.out)) ?_
      rw [HTL.out]
      refine ⟨⟨k, b3, c3, p3, l3, cap3, rfl, fun x hx => ?_⟩, (below_put4 (Nat.le_refl _) _ _ _ _ hb4).drew⟩
      cases hx
      exact HEx.out.mono (fun g hg => ⟨by omega, by simp; omega⟩) (fun g hg => heap_put4 (by omega))
    | cons y ys =>
      have HTL : Hid (wholeL xs = none) := by show _ = _; unfold wholeL; rw [hx]
      clear hx
      simp only [List.length_cons] at hv
      have hbq : (((ys.length : Nat) : Int) + 1 == 0) = false := by rw [beq_eq_false_iff_ne]; omega
      go_region
      go_wp2
      refine post_exp rfl w.heap.size (ExpV k b3 c3 p3 l3 cap3) (.bool false) rfl rfl rfl rfl ((World.rangeAt_drew _ _ _ _).2 (range_put4 _ _ _ _ rfl HR.out)) ?_
      rw [HTL.out]
      exact ⟨⟨k, b3, c3, p3, l3, cap3, rfl, fun x hx => by cases hx⟩, (below_put4 (Nat.le_refl _) _ _ _ _ hb4).drew⟩
end Go.Proofs.YtlgodpadcilcaaaGreatDoor
namespace Go.Proofs.YtlgodpadcilcaaaGreatDoor
open Go.ChangeShapes Go.WideShapes Go.ChangeAt Go.RowKit

theorem less_irrefl : ∀ l : List UInt8, Op.bytesLess l l = false
  | [] => rfl
  | a :: l => by simp [Op.bytesLess, less_irrefl l]
theorem less_trans : ∀ a b c : List UInt8, Op.bytesLess a b = true → Op.bytesLess b c = true → Op.bytesLess a c = true
  | [], [], _, h, _ => by simp [Op.bytesLess] at h
  | [], _ :: _, [], _, h => by simp [Op.bytesLess] at h
  | [], _ :: _, _ :: _, _, _ => by simp [Op.bytesLess]
  | _ :: _, [], _, h, _ => by simp [Op.bytesLess] at h
  | _ :: _, _ :: _, [], _, h => by simp [Op.bytesLess] at h
  | x :: a, y :: b, z :: c, h1, h2 => by
    simp only [Op.bytesLess, Bool.or_eq_true, Bool.and_eq_true, decide_eq_true_eq, beq_iff_eq] at h1 h2 ⊢
    rcases h1 with h1 | ⟨rfl, h1⟩
    · rcases h2 with h2 | ⟨rfl, h2⟩
      · exact .inl (UInt8.lt_trans h1 h2)
      · exact .inl h1
    · rcases h2 with h2 | ⟨rfl, h2⟩
      · exact .inl h2
      · exact .inr ⟨rfl, less_trans a b c h1 h2⟩
theorem less_total : ∀ a b : List UInt8, Op.bytesLess a b = false → a ≠ b → Op.bytesLess b a = true
  | [], [], _, h => absurd rfl h
  | [], _ :: _, h, _ => by simp [Op.bytesLess] at h
  | _ :: _, [], _, _ => by simp [Op.bytesLess]
  | x :: a, y :: b, h1, h2 => by
    simp only [Op.bytesLess, Bool.or_eq_false_iff, Bool.and_eq_false_iff, decide_eq_false_iff_not] at h1
    simp only [Op.bytesLess, Bool.or_eq_true, Bool.and_eq_true, decide_eq_true_eq, beq_iff_eq]
    by_cases e : y = x
    · subst e
      right
      refine ⟨rfl, less_total a b ?_ (fun e => h2 (by rw [e]))⟩
      rcases h1.2 with h | h
      · simp at h
      · exact h
    · left
      have h3 := UInt8.not_lt.1 h1.1
      exact UInt8.lt_of_le_of_ne h3 e

def cmpK (a b : List UInt8) : Int := if Op.bytesLess a b then -1 else if a = b then 0 else 1

set_option maxHeartbeats 400000 in
theorem isNaN_any (s : ByteArray) (w : World) : Calls Tryz.prog 105 #[.string s] w fun e w' => e = .returned (.bool false) ∧ w' = w := by
  have q : (s.toList == s.toList) = true := beq_self_eq_true _
  go_enter Tryz.func105, Tryz.ntmps105
  go_wp2
  go_ret
  exact ⟨by simp, rfl⟩

set_option maxHeartbeats 400000 in
theorem compare_any (s t : ByteArray) (w : World) : Calls Tryz.prog 89 #[.string s, .string t] w fun e w' => e = .returned (.int .i64 (cmpK s.data.toList t.data.toList)) ∧ w' = w := by
  have h1 := isNaN_any s w
  have h2 := isNaN_any t w
  have HC : Hid (cmpK s.data.toList t.data.toList = if Op.bytesLess s.toList t.toList then -1 else if s.toList = t.toList then 0 else 1) := by show _ = _; unfold cmpK; rw [ByteArray.toList_eq, ByteArray.toList_eq]
  generalize cmpK s.data.toList t.data.toList = r at *
  cases hl : Op.bytesLess s.toList t.toList with
  | true =>
    have e : r = -1 := by rw [HC.out, hl]; rfl
    subst e
    go_enter Tryz.func89, Tryz.ntmps89
    go_wp2_with first | (go_at_call 105; refine h1.mono ?_; clear h1; rintro e w' ⟨rfl, rfl⟩) | (go_at_call 105; refine h2.mono ?_; rintro e w' ⟨rfl, rfl⟩)
    go_ret
    exact ⟨rfl, rfl⟩
  | false =>
    by_cases hq : s.toList = t.toList
    · have e : r = 0 := by rw [HC.out, hl, if_pos hq]; rfl
      subst e
      have hqb : (s.toList == t.toList) = true := by rw [beq_iff_eq]; exact hq
      clear hq HC
      go_enter Tryz.func89, Tryz.ntmps89
      go_wp2_with first | (go_at_call 105; refine h1.mono ?_; clear h1; rintro e w' ⟨rfl, rfl⟩) | (go_at_call 105; refine h2.mono ?_; rintro e w' ⟨rfl, rfl⟩)
      go_ret
      exact ⟨rfl, rfl⟩
    · have e : r = 1 := by rw [HC.out, hl, if_neg hq]; rfl
      subst e
      have hqb : (s.toList == t.toList) = false := by rw [beq_eq_false_iff_ne]; exact hq
      clear hq HC
      go_enter Tryz.func89, Tryz.ntmps89
      go_wp2_with first | (go_at_call 105; refine h1.mono ?_; clear h1; rintro e w' ⟨rfl, rfl⟩) | (go_at_call 105; refine h2.mono ?_; rintro e w' ⟨rfl, rfl⟩)
      go_ret
      exact ⟨rfl, rfl⟩

theorem flattenK (K : Nat) : ∀ (css : List (List Value)), (∀ cs ∈ css, cs.length = K) → ∀ (j : Nat) (hj : j < css.length) (i : Nat), i < K → css.flatten[K * j + i]? = css[j][i]?
  | [], _, j, hj, _, _ => by simp at hj
  | c :: r, h, 0, hj, i, hi => by
    rw [List.flatten_cons, List.getElem?_append_left (by rw [h c (by simp)]; omega)]
    simp
  | c :: r, h, j + 1, hj, i, hi => by
    have hc := h c (by simp)
    rw [List.flatten_cons, List.getElem?_append_right (by rw [hc, Nat.mul_succ]; omega), hc, show K * (j + 1) + i - K = K * j + i by rw [Nat.mul_succ]; omega]
    rw [flattenK K r (fun cs hcs => h cs (by simp [hcs])) j (by simpa using hj) i hi]
    simp

/-- the place of a key among rising ones -/
structure Place (ks : List (List UInt8)) (s : List UInt8) (p : Nat) : Prop where
  le : p ≤ ks.length
  lo : ∀ t (h : t < ks.length), t < p → Op.bytesLess ks[t] s = true
  hi : ∀ t (h : t < ks.length), p ≤ t → Op.bytesLess ks[t] s = false
def Rising (ks : List (List UInt8)) : Prop := ks.Pairwise fun a b => Op.bytesLess a b = true
theorem Rising.lt {ks : List (List UInt8)} (h : Rising ks) {i j : Nat} (hij : i < j) (hj : j < ks.length) : Op.bytesLess (ks[i]'(by omega)) ks[j] = true :=
  List.pairwise_iff_getElem.1 h i j (by omega) hj hij
theorem Place.found {ks : List (List UInt8)} {s : List UInt8} {p : Nat} (hr : Rising ks) (h : Place ks s p) : s ∈ ks ↔ ∃ hp : p < ks.length, ks[p] = s := by
  constructor
  · intro hm
    obtain ⟨t, ht, he⟩ := List.getElem_of_mem hm
    by_cases h1 : t < p
    · have := h.lo t ht h1
      rw [he, less_irrefl] at this
      cases this
    · by_cases h2 : t = p
      · subst h2; exact ⟨ht, he⟩
      · have h3 := h.hi p (by omega) (Nat.le_refl _)
        have h4 := hr.lt (i := p) (j := t) (by omega) ht
        rw [he, h3] at h4
        cases h4
  · rintro ⟨hp, he⟩
    rw [← he]
    exact List.getElem_mem _
theorem cmpK_neg {a b : List UInt8} : cmpK a b < 0 ↔ Op.bytesLess a b = true := by
  unfold cmpK
  split
  · simp [*]
  · split <;> simp [*, less_irrefl]
theorem cmpK_zero {a b : List UInt8} : cmpK a b = 0 ↔ a = b := by
  unfold cmpK
  split
  · rename_i h
    constructor
    · intro h2; cases h2
    · intro e; subst e; rw [less_irrefl] at h; cases h
  · split <;> simp [*]
end Go.Proofs.YtlgodpadcilcaaaGreatDoor
