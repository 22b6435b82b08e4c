import Derived.Test.YtlgodpadcilcaaaDoorP01
import Derived.Deep.RegionWith
import Derived.Deep.LoopGhost
namespace Go.Proofs.YtlgodpadcilcaaaDoor
open Go.ChangeShapes Go.WideShapes Go.ChangeAt Go.RowKit

/-- four cells of an expression's make -/
def ExpV (k : Int) (b c : ByteArray) (p : Option Addr) (l cap : Nat) : List Value := [.int .i64 k, .string b, .string c, .slice p l cap]
theorem ERep.form {S : Nat → Prop} {w : World} {e : Exp} {cs : List Value} (h : ERep S w e cs) : ∃ k b c p l cap, cs = ExpV k b c p l cap := by
  cases e using Exp.kind with
  | leaf s => cases s using Sing.kind <;> (simp only [ERep] at h; exact ⟨_, _, _, _, _, _, h⟩)
  | join k es => simp only [ERep] at h; obtain ⟨g, cap, rfl, _⟩ := h; exact ⟨_, _, _, _, _, _, rfl⟩

theorem range_newD (w : World) (cs : Array Value) (t : TypeId) (n : Nat) : ((w.alloc (.cells cs t)).drewN n).rangeAt w.heap.size 0 cs.toList := fun j v hv => range_new w cs t j v hv
theorem below_newD (w : World) (o : Obj) (n : Nat) : Below w.heap.size w ((w.alloc o).drewN n) := ((Below.refl _ _).alloc (Nat.le_refl _) _).trans (below_drewN _ _ _)
theorem range_put4 {W : World} {B : Nat} (x0 x1 x2 x3 : Value) {cs : List Value} (hl : cs.length = 4) (h : W.rangeAt B 0 cs) :
    ((((W.setCell ⟨B, 0, none⟩ x0).setCell ⟨B, 1, none⟩ x1).setCell ⟨B, 2, none⟩ x2).setCell ⟨B, 3, none⟩ x3).rangeAt B 0 [x0, x1, x2, x3] := by
  have hs : ∀ j, j < 4 → (W.cell? ⟨B, j, none⟩).isSome = true := fun j hj => by
    have := h j (cs[j]'(by omega)) (List.getElem?_eq_getElem _)
    rw [Nat.zero_add] at this
    rw [this]; rfl
  have ss : ∀ (V : World) (i j : Nat) (x : Value), (V.cell? ⟨B, j, none⟩).isSome = true → ((V.setCell ⟨B, i, none⟩ x).cell? ⟨B, j, none⟩).isSome = true := fun V i j x hV => by
    by_cases e : j = i
    · subst e; rw [World.cell?_setCell_same' _ _ _ hV]; rfl
    · rw [cell_set_ne e]; exact hV
  intro j v hv
  rw [Nat.zero_add]
  match j, hv with
  | 0, hv =>
    simp at hv; subst hv
    rw [cell_set_ne (by decide), cell_set_ne (by decide), cell_set_ne (by decide), World.cell?_setCell_same' _ _ _ (hs 0 (by decide))]
  | 1, hv =>
    simp at hv; subst hv
    rw [cell_set_ne (by decide), cell_set_ne (by decide), World.cell?_setCell_same' _ _ _ (ss _ _ _ _ (hs 1 (by decide)))]
  | 2, hv =>
    simp at hv; subst hv
    rw [cell_set_ne (by decide), World.cell?_setCell_same' _ _ _ (ss _ _ _ _ (ss _ _ _ _ (hs 2 (by decide))))]
  | 3, hv =>
    simp at hv; subst hv
    rw [World.cell?_setCell_same' _ _ _ (ss _ _ _ _ (ss _ _ _ _ (ss _ _ _ _ (hs 3 (by decide)))))]
  | j + 4, hv => simp at hv
theorem below_put4 {n : Nat} {V W : World} {B : Nat} (hB : n ≤ B) (x0 x1 x2 x3 : Value) (h : Below n V W) :
    Below n V ((((W.setCell ⟨B, 0, none⟩ x0).setCell ⟨B, 1, none⟩ x1).setCell ⟨B, 2, none⟩ x2).setCell ⟨B, 3, none⟩ x3) :=
  (((h.setCell (p := ⟨B, 0, none⟩) hB _).setCell (p := ⟨B, 1, none⟩) hB _).setCell (p := ⟨B, 2, none⟩) hB _).setCell (p := ⟨B, 3, none⟩) hB _
theorem dot_not_name {r : List UInt8} (h : (46 : UInt8) ∈ r) : nameL r = false := by
  unfold nameL
  have : r.all isLow = false := by
    rw [List.all_eq_false]
    exact ⟨46, h, by decide⟩
  rw [this]; simp

def SingAns (w' : World) (r : Option Sing) (e : Ending) : Prop :=
  ∃ k b c p l cap, e = .returned (.tuple #[.agg (ExpV k b c p l cap).toArray, .bool r.isSome]) ∧ ∀ t, r = some t → ERep (fun _ => False) w' (.leaf t) (ExpV k b c p l cap)

theorem dotL_cut {p r : List UInt8} (hp : ∀ x ∈ p, x ≠ 46) : dotL (splitL 46 (p ++ 46 :: r)) = if nameL p && nameL r then some (.via p r) else none := by
  rw [splitL_pre 46 p r hp]
  by_cases h : (46 : UInt8) ∈ r
  · obtain ⟨a, b, rfl, ha⟩ : ∃ a b, r = a ++ 46 :: b ∧ ∀ x ∈ a, x ≠ 46 := by
      rcases idx_cases r 46 with ⟨_, h2⟩ | ⟨a, b, h1, h2, _⟩
      · exact absurd rfl (h2 46 h)
      · exact ⟨a, b, h1, h2⟩
    rw [splitL_pre 46 a b ha]
    cases hb : splitL 46 b with
    | nil => exact absurd hb (splitL_ne _ _)
    | cons x y => rw [dotL_more, dot_not_name h]; simp
  · rw [splitL_all 46 r (fun x hx e => h (e ▸ hx)), dotL_two]

set_option maxHeartbeats 1000000 in
theorem singleTerm_any (s : ByteArray) (w : World) (hs : s.size ≤ 1000000) :
    Calls Tryd.prog 95 #[.string s] w fun e w' => SingAns w' (singL s.data.toList) e ∧ Below w.heap.size w w' := by
  by_cases h0 : s.data.toList = selfL
  · obtain rfl : s = ⟨#[115, 101, 108, 102]⟩ := by
      apply ByteArray.ext
      apply Array.toList_inj.1
      exact h0
    have hq : singL [115, 101, 108, 102] = some .self := by unfold singL; simp [selfL]
    refine (singleTerm_self w).mono ?_
    rintro e w' ⟨rfl, hb⟩
    refine ⟨?_, hb⟩
    show SingAns w' (singL [115, 101, 108, 102]) _
    rw [hq]
    exact ⟨0, ⟨#[]⟩, ⟨#[]⟩, none, 0, 0, rfl, fun t ht => by cases ht; simp only [ERep]; rfl⟩
  have q : (s.toList == [115, 101, 108, 102]) = false := by rw [beq_eq_false_iff_ne, ByteArray.toList_eq]; exact h0
  have HQ : Hid (singL s.data.toList = dotL (splitL 46 s.data.toList)) := by show _ = _; unfold singL; rw [if_neg h0]
  clear h0
  generalize singL s.data.toList = res at *
  go_enter Tryd.func95, Tryd.ntmps95
  go_wp2_with fail
  refine (cut_one s 46 _ hs).mono ?_
  rintro e w' ⟨n, rfl, hh⟩
  rcases hh with ⟨h1, rfl⟩ | ⟨p, r, h1, h2, rfl⟩
  · have hr : res = if nameL s.data.toList then some (.name s.data.toList) else none := by
      rw [HQ.out, splitL_all 46 _ h1, dotL_one]
    clear HQ h1
    have hN := fun w => isName_any s w
    generalize hv : nameL s.data.toList = c at *
    cases c with
    | true =>
      have hr2 : res = some (.name s.data.toList) := by rw [hr]; rfl
      subst hr2
      clear hr hv
      go_wp2_with (go_at_call 45; refine (hN _).mono ?_; rintro e w' ⟨rfl, rfl⟩)
      refine post_exp rfl w.heap.size (ExpV 1 s ⟨#[]⟩ none 0 0) (.bool true) rfl rfl rfl rfl (range_put4 _ _ _ _ rfl (range_newD w #[.int .i64 0, .string ⟨#[]⟩, .string ⟨#[]⟩, .slice none 0 0] 74 n)) ?_
      exact ⟨⟨1, s, ⟨#[]⟩, none, 0, 0, rfl, fun t ht => by cases ht; simp only [ERep]; rfl⟩, below_put4 (Nat.le_refl _) _ _ _ _ (below_newD _ _ _)⟩
    | false =>
      have hr2 : res = none := by rw [hr]; rfl
      subst hr2
      clear hr hv
      go_wp2_with (go_at_call 45; refine (hN _).mono ?_; rintro e w' ⟨rfl, rfl⟩)
      refine post_exp rfl w.heap.size (ExpV 0 ⟨#[]⟩ ⟨#[]⟩ none 0 0) (.bool false) rfl rfl rfl rfl (range_put4 _ _ _ _ rfl (range_newD w #[.int .i64 0, .string ⟨#[]⟩, .string ⟨#[]⟩, .slice none 0 0] 74 n)) ?_
      exact ⟨⟨0, ⟨#[]⟩, ⟨#[]⟩, none, 0, 0, rfl, fun t ht => by cases ht⟩, below_put4 (Nat.le_refl _) _ _ _ _ (below_newD _ _ _)⟩
  · have hr : res = if nameL p && nameL r then some (.via p r) else none := by
      rw [HQ.out, h1, dotL_cut h2]
    clear HQ h1 h2
    have hN := fun w => isName_any ⟨p.toArray⟩ w
    have hM := fun w => isName_any ⟨r.toArray⟩ w
    have e1 : (⟨p.toArray⟩ : ByteArray).data.toList = p := rfl
    have e2 : (⟨r.toArray⟩ : ByteArray).data.toList = r := rfl
    rw [e1] at hN
    rw [e2] at hM
    clear e1 e2
    have HE : Hid (∀ c d, nameL p = c → nameL r = d → res = if c && d then some (.via p r) else none) := fun c d hc hd => by rw [hr, hc, hd]
    clear hr
    generalize hv : nameL p = c at *
    generalize hu : nameL r = d at *
    have hr := HE.out c d rfl rfl
    clear HE hv hu
    unfold strV
    cases c with
    | true =>
      cases d with
      | true =>
        have hr2 : res = some (.via p r) := by rw [hr]; rfl
        subst hr2
        clear hr
        have HP : Hid (strV p = .string ⟨p.toArray⟩ ∧ strV r = .string ⟨r.toArray⟩) := ⟨rfl, rfl⟩
        generalize (⟨p.toArray⟩ : ByteArray) = P at *
        generalize (⟨r.toArray⟩ : ByteArray) = R at *
        go_wp2_with first | (go_at_call 45; refine (hN _).mono ?_; clear hN; rintro e w' ⟨rfl, rfl⟩) | (go_at_call 45; refine (hM _).mono ?_; rintro e w' ⟨rfl, rfl⟩)
        refine post_exp rfl w.heap.size (ExpV 2 P R none 0 0) (.bool true) rfl rfl rfl rfl (range_put4 _ _ _ _ rfl (range_newD w #[.int .i64 0, .string ⟨#[]⟩, .string ⟨#[]⟩, .slice none 0 0] 74 n)) ?_
        exact ⟨⟨2, P, R, none, 0, 0, rfl, fun t ht => by cases ht; simp only [ERep]; rw [HP.out.1, HP.out.2]; rfl⟩, below_put4 (Nat.le_refl _) _ _ _ _ (below_newD _ _ _)⟩
      | false =>
        have hr2 : res = none := by rw [hr]; rfl
        subst hr2
        clear hr
        generalize (⟨p.toArray⟩ : ByteArray) = P at *
        generalize (⟨r.toArray⟩ : ByteArray) = R at *
        go_wp2_with first | (go_at_call 45; refine (hN _).mono ?_; clear hN; rintro e w' ⟨rfl, rfl⟩) | (go_at_call 45; refine (hM _).mono ?_; rintro e w' ⟨rfl, rfl⟩)
        refine post_exp rfl w.heap.size (ExpV 0 ⟨#[]⟩ ⟨#[]⟩ none 0 0) (.bool false) rfl rfl rfl rfl (range_put4 _ _ _ _ rfl (range_newD w #[.int .i64 0, .string ⟨#[]⟩, .string ⟨#[]⟩, .slice none 0 0] 74 n)) ?_
        exact ⟨⟨0, ⟨#[]⟩, ⟨#[]⟩, none, 0, 0, rfl, fun t ht => by cases ht⟩, below_put4 (Nat.le_refl _) _ _ _ _ (below_newD _ _ _)⟩
    | false =>
      have hr2 : res = none := by rw [hr]; rfl
      subst hr2
      clear hr
      generalize (⟨p.toArray⟩ : ByteArray) = P at *
      generalize (⟨r.toArray⟩ : ByteArray) = R at *
      go_wp2_with first | (go_at_call 45; refine (hN _).mono ?_; clear hN; rintro e w' ⟨rfl, rfl⟩) | (go_at_call 45; refine (hM _).mono ?_; rintro e w' ⟨rfl, rfl⟩)
      refine post_exp rfl w.heap.size (ExpV 0 ⟨#[]⟩ ⟨#[]⟩ none 0 0) (.bool false) rfl rfl rfl rfl (range_put4 _ _ _ _ rfl (range_newD w #[.int .i64 0, .string ⟨#[]⟩, .string ⟨#[]⟩, .slice none 0 0] 74 n)) ?_
      exact ⟨⟨0, ⟨#[]⟩, ⟨#[]⟩, none, 0, 0, rfl, fun t ht => by cases ht⟩, below_put4 (Nat.le_refl _) _ _ _ _ (below_newD _ _ _)⟩
end Go.Proofs.YtlgodpadcilcaaaDoor
namespace Go.Proofs.YtlgodpadcilcaaaDoor
open Go.ChangeShapes Go.WideShapes Go.ChangeAt Go.RowKit

/-- all blocks that were there, but P, are as they were -/
structure But (P : Nat) (w w' : World) : Prop where
  os : w'.os = w.os
  tape : w'.tape = w.tape
  output : w'.output = w.output
  size : w.heap.size ≤ w'.heap.size
  block : ∀ k, k < w.heap.size → k ≠ P → w'.heap[k]? = w.heap[k]?
theorem But.refl (P : Nat) (w : World) : But P w w := ⟨rfl, rfl, rfl, Nat.le_refl _, fun _ _ _ => rfl⟩
theorem But.trans {P : Nat} {a b c : World} (h : But P a b) (k : But P b c) : But P a c :=
  ⟨k.os.trans h.os, k.tape.trans h.tape, k.output.trans h.output, Nat.le_trans h.size k.size, fun i hi hp => (k.block i (by have := h.size; omega) hp).trans (h.block i hi hp)⟩
theorem But.of_below {P : Nat} {w w' : World} (h : Below w.heap.size w w') : But P w w' := ⟨h.os, h.tape, h.output, h.size, fun k hk _ => h.block k hk⟩
theorem But.of_grown {P : Nat} {w w' : World} (h : w.grownBy w' (some P)) : But P w w' := ⟨h.os, h.tape, h.output, h.size, fun k hk hp => h.block k hk (by intro e; exact hp (by cases e; rfl))⟩
theorem But.belowP {P : Nat} {w w' : World} (h : But P w w') (hP : P ≤ w.heap.size) : Below P w w' := ⟨h.os, h.tape, h.output, h.size, fun k hk => h.block k (by omega) (by omega)⟩
theorem But.alloc {P : Nat} {a w : World} (h : But P a w) (o : Obj) : But P a (w.alloc o) := h.trans (But.of_below ((Below.refl _ _).alloc (Nat.le_refl _) _))
theorem But.drewN {P : Nat} {a w : World} (h : But P a w) (n : Nat) : But P a (w.drewN n) := h.trans (But.of_below (below_drewN _ _ _))
theorem But.setCell {P : Nat} {a w : World} (h : But P a w) {B : Nat} (hB : a.heap.size ≤ B) (i : Nat) (v : Value) : But P a (w.setCell ⟨B, i, none⟩ v) :=
  ⟨h.os, h.tape, h.output, by simpa using h.size, fun k hk hp => (Below.heap_setCell _ _ _ _ (by show k ≠ B; omega)).trans (h.block k hk hp)⟩
theorem But.put4 {P : Nat} {a w : World} (h : But P a w) {B : Nat} (hB : a.heap.size ≤ B) (x0 x1 x2 x3 : Value) :
    But P a ((((w.setCell ⟨B, 0, none⟩ x0).setCell ⟨B, 1, none⟩ x1).setCell ⟨B, 2, none⟩ x2).setCell ⟨B, 3, none⟩ x3) := (((h.setCell hB _ _).setCell hB _ _).setCell hB _ _).setCell hB _ _

theorem Rest.but {n P : Nat} {w w' : World} {xs : List (List UInt8)} (h : Rest n P w xs) (hb : Below w.heap.size w w') : Rest n P w' xs := by
  obtain ⟨hP, hn, ⟨v, hv, hs⟩, hf⟩ := h
  refine ⟨by have := hb.size; omega, hn, ⟨v, ?_, hs.below (hb.mono (by omega))⟩, ?_⟩
  · rw [hb.cell (p := ⟨P, 0, none⟩) hP]; exact hv
  · rw [hb.frozen (p := ⟨P, 0, none⟩) hP]; exact hf

/-- new blocks -/
def New (w w' : World) (g : Nat) : Prop := w.heap.size ≤ g ∧ g < w'.heap.size

def PAns (n P : Nat) (w w' : World) (r : Option (Exp × List (List UInt8))) (e : Ending) : Prop :=
  But P w w' ∧ ∃ k b c p l cap, e = .returned (.tuple #[.agg (ExpV k b c p l cap).toArray, .bool r.isSome]) ∧ ∀ x ys, r = some (x, ys) → ERep (New w w') w' x (ExpV k b c p l cap) ∧ Rest n P w' ys

def TermOK (f : Nat) : Prop := ∀ (n P : Nat) (xs : List (List UInt8)) (w : World), xs.length ≤ f → (∀ x ∈ xs, x.length ≤ 1000000) → Rest n P w xs →
  Calls Tryd.prog 87 #[.pointer (some ⟨P, 0, none⟩)] w fun e w' => PAns n P w w' (termL xs) e
def ExprOK (f : Nat) : Prop := ∀ (n P : Nat) (xs : List (List UInt8)) (w : World), xs.length ≤ f → (∀ x ∈ xs, x.length ≤ 1000000) → Rest n P w xs →
  Calls Tryd.prog 72 #[.pointer (some ⟨P, 0, none⟩)] w fun e w' => PAns n P w w' (exprL xs) e

def zero4 : Array Value := #[.int .i64 0, .string ⟨#[]⟩, .string ⟨#[]⟩, .slice none 0 0]

set_option maxHeartbeats 2000000 in
theorem pterm_nil (n P : Nat) (w : World) (h : Rest n P w []) :
    Calls Tryd.prog 87 #[.pointer (some ⟨P, 0, none⟩)] w fun e w' => PAns n P w w' (termL []) e := by
  rw [termL_nil]
  have h2 : Rest n P (w.alloc (.cells zero4 74)) [] := h.but ((Below.refl _ _).alloc (Nat.le_refl _) _)
  have hT := take_nil n P ⟨#[40]⟩ _ h2
  obtain ⟨hP, _, ⟨v, hv, b, o, c, rfl, _⟩, _⟩ := h2
  simp only [List.length_nil] at hv
  unfold zero4 at hv hT
  clear h
  go_enter Tryd.func87, Tryd.ntmps87
  go_wp2_with (go_at_call 89; refine hT.mono ?_; rintro e w' ⟨rfl, rfl⟩)
  refine post_exp rfl w.heap.size (ExpV 0 ⟨#[]⟩ ⟨#[]⟩ none 0 0) (.bool false) rfl rfl rfl rfl (range_new _ _ _) ?_
  exact ⟨But.of_below ((Below.refl _ _).alloc (Nat.le_refl _) _), 0, ⟨#[]⟩, ⟨#[]⟩, none, 0, 0, rfl, fun x ys hx => by cases hx⟩
end Go.Proofs.YtlgodpadcilcaaaDoor
namespace Go.Proofs.YtlgodpadcilcaaaDoor
open Go.ChangeShapes Go.WideShapes Go.ChangeAt Go.RowKit

theorem Rest.below1 {n P : Nat} {w w' : World} {xs : List (List UInt8)} (h : Rest n P w xs) (hb : Below (P + 1) w w') : Rest n P w' xs := by
  obtain ⟨hP, hn, ⟨v, hv, hs⟩, hf⟩ := h
  refine ⟨by have := hb.size; omega, hn, ⟨v, ?_, hs.below (hb.mono (by omega))⟩, ?_⟩
  · rw [hb.cell (p := ⟨P, 0, none⟩) (by show P < P + 1; omega)]; exact hv
  · rw [hb.frozen (p := ⟨P, 0, none⟩) (by show P < P + 1; omega)]; exact hf
theorem But.setP {P : Nat} {a w : World} (h : But P a w) (i : Nat) (v : Value) : But P a (w.setCell ⟨P, i, none⟩ v) :=
  ⟨h.os, h.tape, h.output, by simpa using h.size, fun k hk hp => (Below.heap_setCell _ _ _ _ hp).trans (h.block k hk hp)⟩
theorem range_below {n B : Nat} {w w' : World} {o : Nat} {cs : List Value} (h : w.rangeAt B o cs) (hb : Below n w w') (hB : B < n) : w'.rangeAt B o cs := fun j v hv => by
  rw [hb.cell (p := ⟨B, o + j, none⟩) hB]; exact h j v hv

/-- the end of pterm behind singleTerm -/
theorem pterm_fin {n P : Nat} {w W2 w3 : World} {x : List UInt8} {r : List (List UInt8)} {e : Ending} {k : Int} {b c : ByteArray} {p : Option Addr} {l cap : Nat}
    (hx : x ≠ [40]) (hP : P < w.heap.size) (hbut : But P w W2) (hsz : W2.heap.size = w.heap.size + 1) (hrest : Rest n P W2 r) (hb3 : Below W2.heap.size W2 w3)
    (he : e = .returned (.tuple #[.agg (ExpV k b c p l cap).toArray, .bool (singL x).isSome])) (hE : ∀ t, singL x = some t → ERep (fun _ => False) w3 (.leaf t) (ExpV k b c p l cap)) :
    PAns n P w ((((w3.setCell ⟨w.heap.size, 0, none⟩ (.int .i64 k)).setCell ⟨w.heap.size, 1, none⟩ (.string b)).setCell ⟨w.heap.size, 2, none⟩ (.string c)).setCell ⟨w.heap.size, 3, none⟩ (.slice p l cap)) (termL (x :: r)) e := by
  rw [termL_cons, if_neg hx]
  refine ⟨(hbut.trans (But.of_below hb3)).put4 (Nat.le_refl _) _ _ _ _, k, b, c, p, l, cap, ?_, ?_⟩
  · rw [he]
    cases singL x <;> rfl
  · intro y ys hy
    cases hs : singL x with
    | none => rw [hs] at hy; cases hy
    | some t =>
      rw [hs] at hy
      cases hy
      refine ⟨(hE t hs).mono (fun _ h => h.elim) (fun _ h => h.elim), ?_⟩
      exact (hrest.but hb3).below1 (below_put4 (by omega) _ _ _ _ (Below.refl _ _))

set_option maxHeartbeats 2000000 in
theorem pterm_other (n P : Nat) (x : List UInt8) (r : List (List UInt8)) (w : World) (hx : x ≠ [40]) (hz : x.length ≤ 1000000) (h : Rest n P w (x :: r)) :
    Calls Tryd.prog 87 #[.pointer (some ⟨P, 0, none⟩)] w fun e w' => PAns n P w w' (termL (x :: r)) e := by
  have hPw := h.1
  have h2 : Rest n P (w.alloc (.cells zero4 74)) (x :: r) := h.but ((Below.refl _ _).alloc (Nat.le_refl _) _)
  have hbut : But P w (w.alloc (.cells zero4 74)) := (But.refl _ _).alloc _
  have hsz : (w.alloc (.cells zero4 74)).heap.size = w.heap.size + 1 := by simp
  have hrg : (w.alloc (.cells zero4 74)).rangeAt w.heap.size 0 zero4.toList := range_new _ _ _
  have hfr : ∀ j, (w.alloc (.cells zero4 74)).frozen? ⟨w.heap.size, j, none⟩ = false := fun j => World.frozen?_alloc_new _ _ _ _
  have hT := take_other n P ⟨#[40]⟩ x r _ h2 hx
  go_enter Tryd.func87, Tryd.ntmps87
  go_wp2_with fail
  generalize hW : w.alloc (.cells zero4 74) = W at *
  unfold zero4 at hW
  rw [hW]
  refine hT.mono ?_
  rintro e W' ⟨rfl, rfl⟩
  clear hT h hW
  obtain ⟨hP, hn, ⟨v, hv, b, o, c, rfl, hc, hb, hcell⟩, hf⟩ := h2
  have h0 : W'.cell? ⟨b, o, none⟩ = some (.string ⟨x.toArray⟩) := hcell 0 (by simp)
  have HC : Hid (∀ i (h : i < r.length), W'.cell? ⟨b, o + 1 + i, none⟩ = some (strV r[i])) := fun i hi => by
    have := hcell (i + 1) (by simp; omega)
    rw [show o + 1 + i = o + (i + 1) by omega]
    simpa using this
  clear hcell
  simp only [List.length_cons] at hv hc
  have HS : Hid (∀ u, (W'.setCell ⟨P, 0, none⟩ u).cell? ⟨P, 0, none⟩ = some u) := fun u => World.cell?_setCell_same' _ _ _ (by rw [hv]; rfl)
  have HX : Hid ((⟨x.toArray⟩ : ByteArray).data.toList = x) := rfl
  have hXs : (⟨x.toArray⟩ : ByteArray).size ≤ 1000000 := by show x.toArray.size ≤ _; simpa using hz
  generalize (⟨x.toArray⟩ : ByteArray) = X at *
  by_cases hc1 : c = 1
  · subst hc1
    have hr0 : r = [] := List.eq_nil_of_length_eq_zero (by omega)
    subst hr0
    have hrest : Rest n P (W'.setCell ⟨P, 0, none⟩ (.slice (some ⟨b, o, none⟩) 0 0)) [] :=
      ⟨by simpa using hP, hn, ⟨_, HS.out _, b, o, 0, rfl, Nat.zero_le _, hb, fun i hi => by simp at hi⟩, by rw [World.frozen?_setCell]; exact hf⟩
    go_wp2_with fail
    refine (singleTerm_any X _ hXs).mono ?_
    rintro e w3 ⟨⟨k, b3, c3, p3, l3, cap3, rfl, hE⟩, hb3⟩
    rw [HX.out] at hE ⊢
    have hc0 : w3.rangeAt w.heap.size 0 zero4.toList := range_below (n := (W'.setCell ⟨P, 0, none⟩ (.slice (some ⟨b, o, none⟩) 0 0)).heap.size) (fun j v hv => by rw [cell_set_far (by omega)]; exact hrg j v hv) hb3 (by simp; omega)
    have hfz : ∀ j, w3.frozen? ⟨w.heap.size, j, none⟩ = false := fun j => by
      rw [hb3.frozen (p := ⟨w.heap.size, j, none⟩) (by simp; omega), World.frozen?_setCell]; exact hfr j
    have f0 : w3.cell? ⟨w.heap.size, 0, none⟩ = some (.int .i64 0) := hc0 0 _ rfl
    have f1 : w3.cell? ⟨w.heap.size, 1, none⟩ = some (.string ⟨#[]⟩) := hc0 1 _ rfl
    have f2 : w3.cell? ⟨w.heap.size, 2, none⟩ = some (.string ⟨#[]⟩) := hc0 2 _ rfl
    have f3 : w3.cell? ⟨w.heap.size, 3, none⟩ = some (.slice none 0 0) := hc0 3 _ rfl
    have HR : Hid _ := hc0
    have HE : Hid _ := hE
    have HT : Hid (.returned (.tuple #[.agg (ExpV k b3 c3 p3 l3 cap3).toArray, .bool (singL x).isSome]) = Ending.returned (.tuple #[.agg (ExpV k b3 c3 p3 l3 cap3).toArray, .bool (singL x).isSome])) := rfl
    clear hc0 hE
    have eV : (ExpV k b3 c3 p3 l3 cap3).toArray = #[.int .i64 k, .string b3, .string c3, .slice p3 l3 cap3] := rfl
    rw [eV]
    clear eV
    generalize hq : (singL x).isSome = q at HT ⊢
    have HQ : Hid ((singL x).isSome = q) := hq
    clear hq
    go_wp2
    refine post_exp rfl w.heap.size (ExpV k b3 c3 p3 l3 cap3) (.bool q) rfl rfl rfl rfl (range_put4 _ _ _ _ rfl HR.out) ?_
    exact pterm_fin hx hPw (hbut.setP _ _) (by simp [hsz]) hrest hb3 (by rw [HQ.out]) HE.out
  · have hrest : Rest n P (W'.setCell ⟨P, 0, none⟩ (.slice (some ⟨b, o + 1, none⟩) r.length (c - 1))) r :=
      ⟨by simpa using hP, hn, ⟨_, HS.out _, b, o + 1, c - 1, rfl, by omega, hb, fun i hi => by rw [cell_set_far (by omega)]; exact HC.out i hi⟩, by rw [World.frozen?_setCell]; exact hf⟩
    go_wp2_with fail
    refine (singleTerm_any X _ hXs).mono ?_
    rintro e w3 ⟨⟨k, b3, c3, p3, l3, cap3, rfl, hE⟩, hb3⟩
    rw [HX.out] at hE ⊢
    have hc0 : w3.rangeAt w.heap.size 0 zero4.toList := range_below (n := (W'.setCell ⟨P, 0, none⟩ (.slice (some ⟨b, o + 1, none⟩) r.length (c - 1))).heap.size) (fun j v hv => by rw [cell_set_far (by omega)]; exact hrg j v hv) hb3 (by simp; omega)
    have hfz : ∀ j, w3.frozen? ⟨w.heap.size, j, none⟩ = false := fun j => by
      rw [hb3.frozen (p := ⟨w.heap.size, j, none⟩) (by simp; omega), World.frozen?_setCell]; exact hfr j
    have f0 : w3.cell? ⟨w.heap.size, 0, none⟩ = some (.int .i64 0) := hc0 0 _ rfl
    have f1 : w3.cell? ⟨w.heap.size, 1, none⟩ = some (.string ⟨#[]⟩) := hc0 1 _ rfl
    have f2 : w3.cell? ⟨w.heap.size, 2, none⟩ = some (.string ⟨#[]⟩) := hc0 2 _ rfl
    have f3 : w3.cell? ⟨w.heap.size, 3, none⟩ = some (.slice none 0 0) := hc0 3 _ rfl
    have HR : Hid _ := hc0
    have HE : Hid _ := hE
    have HT : Hid (.returned (.tuple #[.agg (ExpV k b3 c3 p3 l3 cap3).toArray, .bool (singL x).isSome]) = Ending.returned (.tuple #[.agg (ExpV k b3 c3 p3 l3 cap3).toArray, .bool (singL x).isSome])) := rfl
    clear hc0 hE
    have eV : (ExpV k b3 c3 p3 l3 cap3).toArray = #[.int .i64 k, .string b3, .string c3, .slice p3 l3 cap3] := rfl
    rw [eV]
    clear eV
    generalize hq : (singL x).isSome = q at HT ⊢
    have HQ : Hid ((singL x).isSome = q) := hq
    clear hq
    go_wp2
    refine post_exp rfl w.heap.size (ExpV k b3 c3 p3 l3 cap3) (.bool q) rfl rfl rfl rfl (range_put4 _ _ _ _ rfl HR.out) ?_
    exact pterm_fin hx hPw (hbut.setP _ _) (by simp [hsz]) hrest hb3 (by rw [HQ.out]) HE.out
end Go.Proofs.YtlgodpadcilcaaaDoor
namespace Go.Proofs.YtlgodpadcilcaaaDoor
open Go.ChangeShapes Go.WideShapes Go.ChangeAt Go.RowKit

theorem But.drew {P : Nat} {a w : World} (h : But P a w) : But P a w.drew := ⟨h.os, h.tape, h.output, h.size, h.block⟩
theorem Rest.drew {n P : Nat} {w : World} {xs : List (List UInt8)} (h : Rest n P w xs) : Rest n P w.drew xs := h.below1 ((Below.refl _ _).drew)
theorem grown_cell {w w' : World} {P b o : Nat} {v : Value} (h : w.grownBy w' (some P)) (hb : b ≠ P) (hc : w.cell? ⟨b, o, none⟩ = some v) : w'.cell? ⟨b, o, none⟩ = some v := by
  have hlt := World.block_lt_of_cell? w ⟨b, o, none⟩ hc
  rw [World.cell?_of_block (w := w) (a := ⟨b, o, none⟩) (h.block b hlt (by intro e; exact hb (by cases e; rfl)))]; exact hc
theorem grown_frozen {w w' : World} {P b o : Nat} (h : w.grownBy w' (some P)) (hb : b ≠ P) (hlt : b < w.heap.size) (hc : w.frozen? ⟨b, o, none⟩ = false) : w'.frozen? ⟨b, o, none⟩ = false := by
  rw [World.frozen?_of_block (w := w) (a := ⟨b, o, none⟩) (h.block b hlt (by intro e; exact hb (by cases e; rfl)))]; exact hc
theorem heap_put4 {W : World} {B : Nat} {x0 x1 x2 x3 : Value} {k : Nat} (h : k ≠ B) :
    ((((W.setCell ⟨B, 0, none⟩ x0).setCell ⟨B, 1, none⟩ x1).setCell ⟨B, 2, none⟩ x2).setCell ⟨B, 3, none⟩ x3).heap[k]? = W.heap[k]? := by
  rw [Below.heap_setCell _ _ _ _ h, Below.heap_setCell _ _ _ _ h, Below.heap_setCell _ _ _ _ h, Below.heap_setCell _ _ _ _ h]
theorem set_drewN (w : World) (a : Addr) (v : Value) (n : Nat) : (w.drewN n).setCell a v = (w.setCell a v).drewN n := rfl

set_option maxHeartbeats 2000000 in
theorem pterm_open (f : Nat) (hE : ExprOK f) (n P : Nat) (r : List (List UInt8)) (w : World) (hl : r.length ≤ f) (hz : ∀ x ∈ r, x.length ≤ 1000000) (h : Rest n P w ([40] :: r)) :
    Calls Tryd.prog 87 #[.pointer (some ⟨P, 0, none⟩)] w fun e w' => PAns n P w w' (termL ([40] :: r)) e := by
  have hPw := h.1
  have h2 : Rest n P (w.alloc (.cells zero4 74)) ([40] :: r) := h.but ((Below.refl _ _).alloc (Nat.le_refl _) _)
  have hbut : But P w (w.alloc (.cells zero4 74)) := (But.refl _ _).alloc _
  have hsz : (w.alloc (.cells zero4 74)).heap.size = w.heap.size + 1 := by simp
  have hrg : (w.alloc (.cells zero4 74)).rangeAt w.heap.size 0 zero4.toList := range_new _ _ _
  have hfr : ∀ j, (w.alloc (.cells zero4 74)).frozen? ⟨w.heap.size, j, none⟩ = false := fun j => World.frozen?_alloc_new _ _ _ _
  have hT := take_same n P ⟨#[40]⟩ r _ h2
  go_enter Tryd.func87, Tryd.ntmps87
  go_wp2_with fail
  generalize hW : w.alloc (.cells zero4 74) = W at *
  unfold zero4 at hW
  rw [hW]
  refine hT.mono ?_
  rintro e W2 ⟨rfl, hr2, hg2, hs2⟩
  clear hT h hW h2
  have hb2 : But P w W2 := hbut.trans (But.of_grown hg2)
  have hPB : w.heap.size ≠ P := by omega
  have hrg2 : W2.rangeAt w.heap.size 0 zero4.toList := fun j v hv => by
    rw [World.cell?_of_block (w := W) (a := ⟨w.heap.size, 0 + j, none⟩) (hg2.block _ (by simp [hsz]) (by intro e; exact hPB (by cases e; rfl)))]; exact hrg j v hv
  have hfr2 : ∀ j, W2.frozen? ⟨w.heap.size, j, none⟩ = false := fun j => by
    rw [World.frozen?_of_block (w := W) (a := ⟨w.heap.size, j, none⟩) (hg2.block _ (by simp [hsz]) (by intro e; exact hPB (by cases e; rfl)))]; exact hfr j
  have hs2' : W2.heap.size = w.heap.size + 1 := by rw [hs2, hsz]
  clear hbut hrg hfr hg2 hs2 hsz
  have hX := hE n P r W2 hl hz hr2
  go_wp2_with fail
  refine hX.mono ?_
  clear hX
  rintro e w3 ⟨hb3, k, b3, c3, p3, l3, cap3, rfl, hE3⟩
  have hrg3 : w3.rangeAt w.heap.size 0 zero4.toList := fun j v hv => by
    rw [World.cell?_of_block (w := W2) (a := ⟨w.heap.size, 0 + j, none⟩) (hb3.block _ (by simp; omega) hPB)]; exact hrg2 j v hv
  have hfr3 : ∀ j, w3.frozen? ⟨w.heap.size, j, none⟩ = false := fun j => by
    rw [World.frozen?_of_block (w := W2) (a := ⟨w.heap.size, j, none⟩) (hb3.block _ (by simp; omega) hPB)]; exact hfr2 j
  clear hrg2 hfr2 hr2
  have hs3 := hb3.size
  have hTL := termL_cons [40] r
  rw [if_pos rfl] at hTL
  obtain ⟨C4, hC4⟩ : ∃ C4 : Array Value, C4 = #[.int .i64 k, .string b3, .string c3, .slice p3 l3 cap3] := ⟨_, rfl⟩
  have hb4 : But P w (w3.alloc (.cells C4 74)) := (hb2.trans hb3).alloc _
  have hrg4 : (w3.alloc (.cells C4 74)).rangeAt w.heap.size 0 zero4.toList := fun j v hv => by
    rw [World.cell?_alloc_lt _ _ _ (by show w.heap.size < _; omega)]; exact hrg3 j v hv
  have hfr4 : ∀ j, (w3.alloc (.cells C4 74)).frozen? ⟨w.heap.size, j, none⟩ = false := fun j => by
    rw [frozen?_alloc_cells]; exact hfr3 j
  have hc4 : (w3.alloc (.cells C4 74)).rangeAt w3.heap.size 0 C4.toList := range_new _ _ _
  have hE4 : ∀ x ys, exprL r = some (x, ys) → ERep (fun g => w.heap.size < g ∧ g < (w3.alloc (.cells C4 74)).heap.size) (w3.alloc (.cells C4 74)) x (ExpV k b3 c3 p3 l3 cap3) ∧ Rest n P (w3.alloc (.cells C4 74)) ys := fun x ys hx => by
    obtain ⟨h1, h2⟩ := hE3 x ys hx
    refine ⟨h1.mono (fun g hg => ⟨by have := hg.1; omega, by have := hg.2; simp; omega⟩) (fun g hg => Below.heap_alloc _ _ _ hg.2), h2.but ((Below.refl _ _).alloc (Nat.le_refl _) _)⟩
  have hs4 : w.heap.size < w3.heap.size ∧ w3.heap.size < (w3.alloc (.cells C4 74)).heap.size := ⟨by omega, by simp⟩
  clear hE3 hrg3 hfr3 hb3
  have eV : (ExpV k b3 c3 p3 l3 cap3).toArray = #[.int .i64 k, .string b3, .string c3, .slice p3 l3 cap3] := rfl
  rw [eV]
  clear eV
  generalize hq : (exprL r).isSome = q at *
  have HQ : Hid ((exprL r).isSome = q) := hq
  clear hq
  go_wp2_with fail
  rw [← hC4]
  generalize w3.alloc (.cells C4 74) = W4 at *
  generalize w3.heap.size = C at *
  subst hC4
  have f0 : W4.cell? ⟨w.heap.size, 0, none⟩ = some (.int .i64 0) := hrg4 0 _ rfl
  have f1 : W4.cell? ⟨w.heap.size, 1, none⟩ = some (.string ⟨#[]⟩) := hrg4 1 _ rfl
  have f2 : W4.cell? ⟨w.heap.size, 2, none⟩ = some (.string ⟨#[]⟩) := hrg4 2 _ rfl
  have f3 : W4.cell? ⟨w.heap.size, 3, none⟩ = some (.slice none 0 0) := hrg4 3 _ rfl
  have g0 : W4.cell? ⟨C, 0, none⟩ = some (.int .i64 k) := hc4 0 _ rfl
  have g1 : W4.cell? ⟨C, 1, none⟩ = some (.string b3) := hc4 1 _ rfl
  have g2 : W4.cell? ⟨C, 2, none⟩ = some (.string c3) := hc4 2 _ rfl
  have g3 : W4.cell? ⟨C, 3, none⟩ = some (.slice p3 l3 cap3) := hc4 3 _ rfl
  have HR : Hid _ := hrg4
  have HC : Hid _ := hc4
  have HE : Hid _ := hE4
  clear hrg4 hc4 hE4
  cases hx : exprL r with
  | none =>
    have hq2 : q = false := by rw [← HQ.out, hx]; rfl
    subst hq2
    rw [hx] at hTL
    have HTL : Hid (termL ([40] :: r) = none) := hTL
    clear hTL hx HQ
    go_region
    go_wp2
    refine post_exp rfl w.heap.size (ExpV k b3 c3 p3 l3 cap3) (.bool false) rfl rfl rfl rfl ((World.rangeAt_drew _ _ _ _).2 (range_put4 _ _ _ _ rfl HR.out)) ?_
    rw [HTL.out]
    exact ⟨(hb4.put4 (Nat.le_refl _) _ _ _ _).drew, k, b3, c3, p3, l3, cap3, rfl, fun x ys hx => by cases hx⟩
  | some qq =>
    obtain ⟨x, ys⟩ := qq
    have hq2 : q = true := by rw [← HQ.out, hx]; rfl
    subst hq2
    obtain ⟨hEx, hRy⟩ := HE.out x ys hx
    have HEx : Hid _ := hEx
    rw [hx] at hTL
    clear HE HQ hx hEx
    cases ys with
    | nil =>
      have HTL : Hid (termL ([40] :: r) = none) := hTL
      clear hTL
      have hT := take_nil n P ⟨#[41]⟩ _ hRy.drew
      go_region_with (go_at_call 89; refine hT.mono ?_; rintro e w5 ⟨rfl, rfl⟩)
      all_goals go_wp2
      all_goals refine post_exp rfl w.heap.size (ExpV k b3 c3 p3 l3 cap3) (.bool false) rfl rfl rfl rfl ((World.rangeAt_drew _ _ _ _).2 (range_put4 _ _ _ _ rfl HR.out)) ?_
      all_goals rw [HTL.out]
      all_goals exact ⟨(hb4.put4 (Nat.le_refl _) _ _ _ _).drew, k, b3, c3, p3, l3, cap3, rfl, fun x ys hx => by cases hx⟩
    | cons y ys =>
      by_cases hy : y = [41]
      · subst hy
        have HTL : Hid (termL ([40] :: r) = some (x, ys)) := by show _ = _; rw [hTL]; simp
        clear hTL
        have hCP : C ≠ P := by omega
        have hT := take_same n P ⟨#[41]⟩ ys _ hRy.drew
        go_region_with (go_at_call 89; refine hT.mono ?_; rintro e w5 ⟨rfl, hr5, hg5, hs5⟩; have e0 := grown_cell hg5 hPB f0; have e1 := grown_cell hg5 hPB f1; have e2 := grown_cell hg5 hPB f2; have e3 := grown_cell hg5 hPB f3; have d0 := grown_cell hg5 hCP g0; have d1 := grown_cell hg5 hCP g1; have d2 := grown_cell hg5 hCP g2; have d3 := grown_cell hg5 hCP g3; have z5 : ∀ j, w5.frozen? ⟨w.heap.size, j, none⟩ = false := fun j => grown_frozen hg5 hPB (World.block_lt_of_cell? W4 ⟨w.heap.size, 0, none⟩ f0) (hfr4 j))
        all_goals go_wp2
        all_goals refine post_exp rfl w.heap.size (ExpV k b3 c3 p3 l3 cap3) (.bool true) rfl rfl rfl rfl (range_put4 _ _ _ _ rfl (fun j v hv => grown_cell hg5 hPB (HR.out j v hv))) ?_
        all_goals rw [HTL.out]
        all_goals refine ⟨(hb4.drew.trans (But.of_grown hg5)).put4 (Nat.le_refl _) _ _ _ _, k, b3, c3, p3, l3, cap3, rfl, fun x ys hx => ?_⟩
        all_goals cases hx
        all_goals refine ⟨HEx.out.mono (fun g hg => ⟨by omega, by simp [hs5]; exact hg.2⟩) (fun g hg => ?_), hr5.below1 (below_put4 (by omega) _ _ _ _ (Below.refl _ _))⟩
        all_goals exact (heap_put4 (by omega)).trans (hg5.block g hg.2 (by intro e; cases e; omega))
      · have HTL : Hid (termL ([40] :: r) = none) := by show _ = _; rw [hTL]; simp [hy]
        clear hTL
        have hT := take_other n P ⟨#[41]⟩ y ys _ hRy.drew hy
        go_region_with (go_at_call 89; refine hT.mono ?_; rintro e w5 ⟨rfl, rfl⟩)
        all_goals go_wp2
        all_goals refine post_exp rfl w.heap.size (ExpV k b3 c3 p3 l3 cap3) (.bool false) rfl rfl rfl rfl ((World.rangeAt_drew _ _ _ _).2 (range_put4 _ _ _ _ rfl HR.out)) ?_
        all_goals rw [HTL.out]
        all_goals exact ⟨(hb4.put4 (Nat.le_refl _) _ _ _ _).drew, k, b3, c3, p3, l3, cap3, rfl, fun x ys hx => by cases hx⟩
end Go.Proofs.YtlgodpadcilcaaaDoor
namespace Go.Proofs.YtlgodpadcilcaaaDoor
open Go.ChangeShapes Go.WideShapes Go.ChangeAt Go.RowKit

theorem But.grown {P : Nat} {w w' : World} (h : But P w w') : w.grownBy w' (some P) := ⟨h.os, h.tape, h.output, h.size, fun k hk hn => h.block k hk (fun e => hn (by rw [e]))⟩

theorem flatten4 : ∀ (css : List (List Value)), (∀ cs ∈ css, cs.length = 4) → ∀ (j : Nat) (hj : j < css.length) (i : Nat), i < 4 → css.flatten[4 * j + i]? = css[j][i]?
  | [], _, j, hj, _, _ => by simp at hj
  | c :: r, h, 0, hj, i, hi => by
    rw [List.flatten_cons, List.getElem?_append_left (by rw [h c (by simp)]; omega)]
    simp
  | c :: r, h, j + 1, hj, i, hi => by
    have hc := h c (by simp)
    rw [List.flatten_cons, List.getElem?_append_right (by rw [hc]; omega), hc, show 4 * (j + 1) + i - 4 = 4 * j + i by omega]
    rw [flatten4 r (fun cs hcs => h cs (by simp [hcs])) j (by simpa using hj) i hi]
    simp

/-- the terms read so far: row G -/
def Terms (B : Nat) (wr : World) (G cap : Nat) (es : List Exp) : Prop :=
  ∃ css : List (List Value), css.length = es.length ∧ wr.ownsRow (B + 1) 74 4 (.slice (some ⟨G, 0, none⟩) es.length cap) es.length css.flatten ∧
    (∀ cs ∈ css, cs.length = 4) ∧ ∀ j (h : j < es.length) (h' : j < css.length), ERep (fun g => B < g ∧ g < wr.heap.size ∧ g ≠ G) wr es[j] css[j]
theorem Terms.lt {B : Nat} {wr : World} {G cap : Nat} {es : List Exp} (h : Terms B wr G cap es) : B < G ∧ G < wr.heap.size := by
  obtain ⟨css, _, h2, _⟩ := h
  have := h2.lt G rfl
  omega
/-- .. in a world in which only a block that is none of theirs has changed -/
theorem Terms.keep {B : Nat} {wr w' : World} {G cap : Nat} {es : List Exp} {P : Nat} (h : Terms B wr G cap es) (hP : P ≤ B) (hb : wr.grownBy w' (some P)) : Terms B w' G cap es := by
  have hlt := h.lt
  obtain ⟨css, h1, h2, h3, h4⟩ := h
  refine ⟨css, h1, h2.kept hb (.inr (by simp [Value.ownBlock]; omega)), h3, fun j hj hj' => (h4 j hj hj').mono (fun g hg => ⟨hg.1, by have := hb.size; omega, hg.2.2⟩) (fun g hg => hb.block g hg.2.1 (by intro e; cases e; omega))⟩
theorem Terms.same {B : Nat} {wr w' : World} {G cap : Nat} {es : List Exp} (h : Terms B wr G cap es) (hb : Below wr.heap.size wr w') : Terms B w' G cap es := by
  obtain ⟨css, h1, h2, h3, h4⟩ := h
  refine ⟨css, h1, h2.kept (row := none) ⟨hb.os, hb.tape, hb.output, hb.size, fun k hk _ => hb.block k hk⟩ (by right; simp [Value.ownBlock]), h3, fun j hj hj' => (h4 j hj hj').mono (fun g hg => ⟨hg.1, by have := hb.size; omega, hg.2.2⟩) (fun g hg => hb.block g hg.2.1)⟩
/-- one more -/
theorem Terms.snoc {B : Nat} {wr w' : World} {G G' cap' : Nat} {es : List Exp} {x : Exp} {cs : List Value} {css : List (List Value)} (h1 : css.length = es.length) (h3 : ∀ cs ∈ css, cs.length = 4)
    (h4 : ∀ j (h : j < es.length) (h' : j < css.length), ERep (fun g => B < g ∧ g < wr.heap.size ∧ g ≠ G) wr es[j] css[j]) (hx : ERep (fun g => B < g ∧ g < wr.heap.size ∧ g ≠ G) wr x cs)
    (hown : w'.ownsRow (B + 1) 74 4 (.slice (some ⟨G', 0, none⟩) (es.length + 1) cap') (es.length + 1) (css.flatten ++ cs)) (hb : wr.grownBy w' (some G)) (hg : some G = some G' ∨ G' = wr.heap.size) : Terms B w' G' cap' (es ++ [x]) := by
  have key : ∀ y c, ERep (fun g => B < g ∧ g < wr.heap.size ∧ g ≠ G) wr y c → ERep (fun g => B < g ∧ g < w'.heap.size ∧ g ≠ G') w' y c := fun y c h => by
    refine h.mono (fun g hg' => ⟨hg'.1, by have := hb.size; omega, ?_⟩) (fun g hg' => hb.block g hg'.2.1 (by intro e; cases e; exact hg'.2.2 rfl))
    rcases hg with e | e
    · cases e; exact hg'.2.2
    · omega
  refine ⟨css ++ [cs], by simp [h1], by simpa using hown, fun c hc => ?_, fun j hj hj' => ?_⟩
  · rcases List.mem_append.1 hc with hc | hc
    · exact h3 c hc
    · simp at hc; rw [hc]; exact hx.len
  · by_cases hlt : j < es.length
    · rw [List.getElem_append_left hlt, List.getElem_append_left (by omega)]
      exact key _ _ (h4 j hlt (by omega))
    · have e : j = es.length := by simp at hj; omega
      subst e
      rw [List.getElem_append_right (Nat.le_refl _), List.getElem_append_right (by omega)]
      simp [h1]
      exact key _ _ hx
/-- a joined expression out of them -/
theorem Terms.join {B : Nat} {wr w' : World} {G cap : Nat} {es : List Exp} (h : Terms B wr G cap es) (hne : es ≠ []) (k : Nat) {S : Nat → Prop} (hS : ∀ g, B < g → g < wr.heap.size → S g)
    (hb : ∀ g, B < g → g < wr.heap.size → w'.heap[g]? = wr.heap[g]?) : ERep S w' (.join k es) (ExpV (k : Int) ⟨#[]⟩ ⟨#[]⟩ (some ⟨G, 0, none⟩) es.length cap) := by
  have hlt := h.lt
  obtain ⟨css, h1, h2, h3, h4⟩ := h
  simp only [ERep]
  refine ⟨G, cap, rfl, hS G hlt.1 hlt.2, hne, ?_⟩
  rw [ERep.all_iff]
  intro j hj
  refine ⟨css[j]'(by omega), fun i v hv => ?_, (h4 j hj (by omega)).mono (fun g hg => hS g hg.1 hg.2.1) (fun g hg => hb g hg.1 hg.2.1)⟩
  have hi : i < 4 := by
    have := (List.getElem?_eq_some_iff.1 hv).1
    rw [h3 _ (List.getElem_mem _)] at this
    exact this
  rw [World.cell?_of_block (w := wr) (a := ⟨G, 4 * (0 + j) + i, none⟩) (hb G hlt.1 hlt.2), Nat.zero_add, h2.cellAt _ (by omega), flatten4 css h3 j (by omega) i hi]
  exact hv
end Go.Proofs.YtlgodpadcilcaaaDoor
