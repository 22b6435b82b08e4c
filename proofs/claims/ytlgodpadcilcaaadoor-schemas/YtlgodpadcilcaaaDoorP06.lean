import Derived.Test.YtlgodpadcilcaaaDoorP05
import Derived.Test.YtlgodpadcilcaaaDoorP01
import Derived.Shelf.Abstract
import Derived.RangeFuncNested
import Derived.RangeFuncBound
import Derived.RangeFuncCalls
import Derived.RangeFuncLeaves
import Derived.Shelf.RegionOpen
import Derived.OwnWalkIn
import Derived.TacticsInMore
import Derived.LoopNIn
import Derived.LoopIn
import Derived.Maps.AppendAt
namespace Go.Proofs.YtlgodpadcilcaaaDoor
open Go.ChangeShapes Go.WideShapes Go.ChangeAt Go.RowKit

/-- the table of 36 by 36 in block b -/
structure Mat (w : World) (b : Nat) (X : Nat → Nat → Bool) : Prop where
  cell : ∀ i j, i < 36 → j < 36 → w.cell? ⟨b, i * 36 + j, none⟩ = some (.bool (X i j))
  fr : ∀ k, w.frozen? ⟨b, k, none⟩ = false
  blk : ∃ c, w.heap[b]? = some (.cells c 90) ∧ c.size = 1296
theorem blk_set {w : World} {b : Nat} {c : Array Value} {t : TypeId} (h : w.heap[b]? = some (.cells c t)) (k : Nat) (v : Value) : (w.setCell ⟨b, k, none⟩ v).heap[b]? = some (.cells (c.setIfInBounds k v) t) := by
  obtain ⟨hlt, hk⟩ := Array.getElem?_eq_some_iff.1 h
  show (w.heap.modify b _)[b]? = _
  rw [Array.getElem?_eq_getElem (by rw [Array.size_modify]; exact hlt), Array.getElem_modify_self, hk]
  rfl
theorem Mat.set {w : World} {b : Nat} {X : Nat → Nat → Bool} (h : Mat w b X) (i j : Nat) (hi : i < 36) (hj : j < 36) (v : Bool) : Mat (w.setCell ⟨b, i * 36 + j, none⟩ (.bool v)) b (fun a c => if a = i ∧ c = j then v else X a c) := by
  refine ⟨fun a c ha hc => ?_, fun k => by rw [World.frozen?_setCell]; exact h.fr k, by
    obtain ⟨c, h1, h2⟩ := h.blk
    exact ⟨_, blk_set h1 _ _, by simp [h2]⟩⟩
  by_cases e : a = i ∧ c = j
  · obtain ⟨rfl, rfl⟩ := e
    rw [World.cell?_setCell_same' _ _ _ (by rw [h.cell a c ha hc]; rfl)]
    simp
  · rw [cell_set_ne (by omega), h.cell a c ha hc]
    simp [e]

set_option maxHeartbeats 4000000 in
theorem close_any (M : Nat → Nat → Prop) (b : Nat) (X : Nat → Nat → Bool) (w : World) (h : Mat w b X) (hF : Fw M 36 0 X) :
    Calls Tryd.prog 33 #[.pointer (some ⟨b, 0, none⟩)] w fun e w' => (∃ v, e = .returned v) ∧ (∃ Y, Mat w' b Y ∧ Fw M 36 36 Y) ∧ But b w w' ∧ w'.heap.size = w.heap.size := by
  go_enter Tryd.func33, Tryd.ntmps33
  go_wp2
  go_loopw [5] (fun s5 wr => ∃ k : Nat, k ≤ 36 ∧ s5 = .int .i64 k ∧ Hid (∃ Y, Mat wr b Y ∧ Fw M 36 k Y) ∧ Hid (But b w wr ∧ wr.heap.size = w.heap.size)) (fun s5 _ => 36 - (intOf s5).toNat)
  case atStart => exact ⟨0, by omega, rfl, (⟨X, h, hF⟩ : ∃ Y, Mat w b Y ∧ Fw M 36 0 Y), (⟨But.refl _ _, rfl⟩ : But b w w ∧ _)⟩
  case round =>
    obtain ⟨k, hk, rfl, HY, HB⟩ := hrel
    by_cases hk6 : k < 36
    · go_wp2
      go_loopw [8] (fun s8 wq => ∃ i : Nat, i ≤ 36 ∧ s8 = .int .i64 i ∧ Hid (∃ Y, Mat wq b Y ∧ FwAt M 36 k i 0 Y) ∧ Hid (But b w wq ∧ wq.heap.size = w.heap.size)) (fun s8 _ => 36 - (intOf s8).toNat)
      case atStart =>
        obtain ⟨Y, h1, h2⟩ := HY.out
        exact ⟨0, by omega, rfl, (⟨Y, h1, h2.begin⟩ : ∃ Y, Mat wr b Y ∧ FwAt M 36 k 0 0 Y), HB⟩
      case round =>
        obtain ⟨i, hi, rfl, HY2, HB2⟩ := hrel
        by_cases hi6 : i < 36
        · go_wp2
          go_loopw [11] (fun s11 wz => ∃ j : Nat, j ≤ 36 ∧ s11 = .int .i64 j ∧ Hid (∃ Y, Mat wz b Y ∧ FwAt M 36 k i j Y) ∧ Hid (But b w wz ∧ wz.heap.size = w.heap.size)) (fun s11 _ => 36 - (intOf s11).toNat)
          case atStart => exact ⟨0, by omega, rfl, HY2, HB2⟩
          case round =>
            obtain ⟨j, hj, rfl, HY3, HB3⟩ := hrel
            by_cases hj6 : j < 36
            · obtain ⟨Y, hM, hA⟩ := HY3.out
              have c1 := hM.cell i k hi6 hk6
              have c2 := hM.cell k j hk6 hj6
              have c3 := hM.cell i j hi6 hj6
              have hfz := hM.fr
              have HM : Hid _ := hM
              have HA : Hid _ := hA
              clear hM hA HY3
              cases hy1 : Y i k with
              | true =>
                rw [hy1] at c1
                cases hy2 : Y k j with
                | true =>
                  rw [hy2] at c2
                  go_wp2
                  go_roundw
                  case rel =>
                    refine ⟨j + 1, by omega, by go_num, (⟨_, HM.out.set i j hi6 hj6 true, HA.out.step hk6 hi6 hj6 (fun a c _ _ => ?_)⟩ : ∃ Y, Mat _ b Y ∧ FwAt M 36 k i (j + 1) Y), (⟨HB3.out.1.setP _ _, by rw [World.size_setCell]; exact HB3.out.2⟩ : _ ∧ _)⟩
                    simp [hy1, hy2]
                  case measure => simp [intOf]; omega
                | false =>
                  rw [hy2] at c2
                  go_wp2
                  go_roundw
                  case rel =>
                    refine ⟨j + 1, by omega, by go_num, (⟨Y, HM.out, HA.out.step hk6 hi6 hj6 (fun a c _ _ => ?_)⟩ : ∃ Y, Mat _ b Y ∧ FwAt M 36 k i (j + 1) Y), HB3⟩
                    split
                    · rename_i e; rw [e.1, e.2, hy2]; simp
                    · rfl
                  case measure => simp [intOf]; omega
              | false =>
                rw [hy1] at c1
                go_wp2
                go_roundw
                case rel =>
                  refine ⟨j + 1, by omega, by go_num, (⟨Y, HM.out, HA.out.step hk6 hi6 hj6 (fun a c _ _ => ?_)⟩ : ∃ Y, Mat _ b Y ∧ FwAt M 36 k i (j + 1) Y), HB3⟩
                  split
                  · rename_i e; rw [e.1, e.2, hy1]; simp
                  · rfl
                case measure => simp [intOf]; omega
            · obtain rfl : j = 36 := by omega
              go_wp2
              go_roundw
              case rel =>
                obtain ⟨Y, h1, h2⟩ := HY3.out
                exact ⟨i + 1, by omega, by go_num, (⟨Y, h1, h2.row⟩ : ∃ Y, Mat _ b Y ∧ FwAt M 36 k (i + 1) 0 Y), HB3⟩
              case measure => simp [intOf]; omega
        · obtain rfl : i = 36 := by omega
          go_wp2
          go_roundw
          case rel =>
            obtain ⟨Y, h1, h2⟩ := HY2.out
            exact ⟨k + 1, by omega, by go_num, (⟨Y, h1, h2.done⟩ : ∃ Y, Mat _ b Y ∧ Fw M 36 (k + 1) Y), HB2⟩
          case measure => simp [intOf]; omega
    · obtain rfl : k = 36 := by omega
      go_wp2
      go_end0
      exact ⟨⟨_, rfl⟩, HY.out, HB.out⟩
end Go.Proofs.YtlgodpadcilcaaaDoor
namespace Go.Proofs.YtlgodpadcilcaaaDoor
open Go.ChangeShapes Go.WideShapes Go.ChangeAt Go.RowKit

/-- a place: the type's name, the relation's name, the block of the type's relations, the relation's cells -/
structure PV where
  ty : List UInt8
  nm : List UInt8
  blk : Nat
  set : Bool
  k : Int
  b : ByteArray
  c : ByteArray
  p : Option Addr
  l : Nat
  cp : Nat
  rank : Int
  line : Int
def PV.cells (x : PV) : List Value := [strV x.ty, strV x.nm, .pointer (some ⟨x.blk, 0, none⟩), .bool x.set, .int .i64 x.k, .string x.b, .string x.c, .slice x.p x.l x.cp, .int .i64 x.rank, .int .i64 x.line]

def leadsV (t : Sing) (x y : PV) : Bool :=
  match t with
  | none => y.set
  | some (n, none) => y.ty == x.ty && y.nm == n
  | some (_, some th) => y.nm == th

set_option maxHeartbeats 4000000 in
theorem leads_any (t : Sing) (S : Nat → Prop) (tc : List Value) (x y : PV) (w0 w : World) (h : ERep S w0 (.leaf t) tc) :
    Calls Tryd.prog 58 #[.agg tc.toArray, .agg x.cells.toArray, .agg y.cells.toArray] w fun e w' => e = .returned (.bool (leadsV t x y)) ∧ Below w.heap.size w w' := by
  obtain ⟨xty, xnm, xblk, xset, xk, xb, xc, xp, xl, xcp, xrank, xline⟩ := x
  obtain ⟨yty, ynm, yblk, yset, yk, yb, yc, yp, yl, ycp, yrank, yline⟩ := y
  cases t using Sing.kind with
  | self =>
    simp only [ERep] at h
    subst h
    simp only [PV.cells, strV, leadsV]
    generalize (⟨xty.toArray⟩ : ByteArray) = X1
    generalize (⟨xnm.toArray⟩ : ByteArray) = X2
    generalize (⟨yty.toArray⟩ : ByteArray) = Y1
    generalize (⟨ynm.toArray⟩ : ByteArray) = Y2
    go_enter Tryd.func58, Tryd.ntmps58
    go_wp2
    go_ret
    exact ⟨rfl, ((((Below.refl _ _).alloc (Nat.le_refl _) _).alloc (by simp) _).alloc (by simp; omega) _)⟩
  | name n =>
    simp only [ERep] at h
    subst h
    simp only [PV.cells, strV, leadsV]
    have HE : Hid ((yty == xty && ynm == n) = (((⟨yty.toArray⟩ : ByteArray).toList == (⟨xty.toArray⟩ : ByteArray).toList) && ((⟨ynm.toArray⟩ : ByteArray).toList == (⟨n.toArray⟩ : ByteArray).toList))) := by show _ = _; simp only [ByteArray.toList_eq]
    generalize (yty == xty && ynm == n) = r at *
    generalize (⟨xty.toArray⟩ : ByteArray) = X1 at *
    generalize (⟨xnm.toArray⟩ : ByteArray) = X2 at *
    generalize (⟨yty.toArray⟩ : ByteArray) = Y1 at *
    generalize (⟨ynm.toArray⟩ : ByteArray) = Y2 at *
    generalize (⟨n.toArray⟩ : ByteArray) = N at *
    cases hq : (Y1.toList == X1.toList) with
    | true =>
      rw [hq] at HE
      go_enter Tryd.func58, Tryd.ntmps58
      go_wp2
      go_ret
      exact ⟨by rw [HE.out]; rfl, ((((Below.refl _ _).alloc (Nat.le_refl _) _).alloc (by simp) _).alloc (by simp; omega) _)⟩
    | false =>
      rw [hq] at HE
      go_enter Tryd.func58, Tryd.ntmps58
      go_wp2
      go_ret
      exact ⟨by rw [HE.out]; rfl, ((((Below.refl _ _).alloc (Nat.le_refl _) _).alloc (by simp) _).alloc (by simp; omega) _)⟩
  | via v th =>
    simp only [ERep] at h
    subst h
    simp only [PV.cells, strV, leadsV]
    have HE : Hid ((ynm == th) = ((⟨ynm.toArray⟩ : ByteArray).toList == (⟨th.toArray⟩ : ByteArray).toList)) := by show _ = _; simp only [ByteArray.toList_eq]
    generalize (ynm == th) = r at *
    generalize (⟨xty.toArray⟩ : ByteArray) = X1 at *
    generalize (⟨xnm.toArray⟩ : ByteArray) = X2 at *
    generalize (⟨yty.toArray⟩ : ByteArray) = Y1 at *
    generalize (⟨ynm.toArray⟩ : ByteArray) = Y2 at *
    generalize (⟨th.toArray⟩ : ByteArray) = N at *
    generalize (⟨v.toArray⟩ : ByteArray) = N2 at *
    go_enter Tryd.func58, Tryd.ntmps58
    go_wp2
    go_ret
    exact ⟨by rw [HE.out]; rfl, ((((Below.refl _ _).alloc (Nat.le_refl _) _).alloc (by simp) _).alloc (by simp; omega) _)⟩
end Go.Proofs.YtlgodpadcilcaaaDoor
namespace Go.Proofs.YtlgodpadcilcaaaDoor

/-- how many nodes an expression has -/
def Exp.sz : Exp → Nat
  | ⟨.inl _⟩ => 1
  | ⟨.inr (_, es)⟩ => 1 + szL es
where szL : List Exp → Nat
  | [] => 0
  | e :: r => Exp.sz e + szL r
theorem Exp.sz_pos (e : Exp) : 0 < e.sz := by cases e using Exp.kind <;> simp only [Exp.sz] <;> omega
theorem Exp.szL_mem {e : Exp} : ∀ {es : List Exp}, e ∈ es → e.sz ≤ Exp.sz.szL es
  | x :: r, h => by
    simp only [Exp.sz.szL]
    rcases List.mem_cons.1 h with rfl | h
    · omega
    · have := Exp.szL_mem h; omega
theorem Exp.szL_len : ∀ es : List Exp, es.length ≤ Exp.sz.szL es
  | [] => Nat.zero_le _
  | x :: r => by
    simp only [Exp.sz.szL, List.length_cons]
    have := Exp.szL_len r
    have := x.sz_pos
    omega

/-- T makes no more nodes than it takes words -/
def SzB (T : List (List UInt8) → Option (Exp × List (List UInt8))) : Prop := ∀ l e r, T l = some (e, r) → e.sz + r.length ≤ l.length
theorem manyOf_sz {T : List (List UInt8) → Option (Exp × List (List UInt8))} (hT : SzB T) (m : List UInt8) : ∀ n l es r, manyOf T m n l = some (es, r) → Exp.sz.szL es + es.length + r.length ≤ l.length
  | 0, l, es, r, h => by simp [manyOf] at h; obtain ⟨rfl, rfl⟩ := h; simp [Exp.sz.szL]
  | n + 1, [], es, r, h => by simp [manyOf] at h; obtain ⟨rfl, rfl⟩ := h; simp [Exp.sz.szL]
  | n + 1, w :: l, es, r, h => by
    unfold manyOf at h
    split at h
    · split at h
      · cases h
      · rename_i e r' he
        split at h
        · cases h
        · rename_i es' r'' hm
          cases h
          have h1 := hT _ _ _ he
          have h2 := manyOf_sz hT m n _ _ _ hm
          simp only [Exp.sz.szL, List.length_cons]; omega
    · cases h; simp [Exp.sz.szL]
theorem exprOf_sz {T : List (List UInt8) → Option (Exp × List (List UInt8))} (hT : SzB T) : SzB (exprOf T) := by
  intro l e r h
  unfold exprOf at h
  split at h
  · cases h
  · rename_i e' he
    cases h
    exact hT _ _ _ he
  · rename_i e' m r' he
    have h1 := hT _ _ _ he
    split at h
    · cases h; exact h1
    · split at h
      · cases h
      · rename_i es r'' hm
        have h2 := manyOf_sz hT m _ _ _ _ hm
        split at h
        · cases h
        · cases h
          have h3 : es ≠ [] := fun e0 => by
            subst e0
            unfold manyOf at hm
            rw [if_pos rfl] at hm
            split at hm
            · cases hm
            · split at hm <;> cases hm
          have h4 := List.length_pos_iff.2 h3
          simp only [Exp.sz, Exp.sz.szL]; omega
theorem termF_sz : ∀ f, SzB (termF f)
  | 0 => fun l e r h => by simp [termF] at h
  | f + 1 => fun l e r h => by
    cases l with
    | nil => simp [termF] at h
    | cons w l =>
      unfold termF at h
      split at h
      · split at h
        · rename_i e' w' r' he
          have h1 := exprOf_sz (termF_sz f) _ _ _ he
          split at h
          · cases h; simp at h1 ⊢; omega
          · cases h
        · cases h
      · split at h
        · cases h
        · cases h; simp [Exp.sz]; omega
theorem termL_sz : SzB termL := fun _ _ _ h => termF_sz _ _ _ _ h
theorem exprL_sz : SzB exprL := exprOf_sz termL_sz

theorem splitL_count (c : UInt8) : ∀ l, (splitL c l).length ≤ l.length + 1
  | [] => by simp [splitL]
  | x :: l => by
    have h := splitL_count c l
    unfold splitL
    split
    · simp; omega
    · split <;> simp_all <;> omega

theorem splitL_mlen (c : UInt8) : ∀ l, ∀ x ∈ splitL c l, x.length ≤ l.length
  | [] => by simp [splitL]
  | y :: l => by
    have h := splitL_mlen c l
    unfold splitL
    intro x hx
    split at hx
    · rcases List.mem_cons.1 hx with rfl | hx
      · simp
      · have := h x hx; simp; omega
    · split at hx
      · simp at hx; subst hx; simp
      · rename_i p r hpr
        rw [hpr] at h
        rcases List.mem_cons.1 hx with rfl | hx
        · have := h p (by simp); simp; omega
        · have := h x (by simp [hx]); simp; omega

/-- the line of the first of the relations that names what there is not; f: there is none -/
def uT (K : Sing → Bool) (ln : Nat) (f : Nat) (ts : List (Sing × Bool)) : Nat := ts.foldl (fun f p => if K p.1 then f else min f ln) f
def uR (K : Rl → Sing → Bool) (f : Nat) (rs : List Rl) : Nat := rs.foldl (fun f r => uT (K r) r.line f (r.ex.flat false)) f
theorem uT_snoc (K : Sing → Bool) (ln f : Nat) (ts : List (Sing × Bool)) (p : Sing × Bool) : uT K ln f (ts ++ [p]) = if K p.1 then uT K ln f ts else min (uT K ln f ts) ln := by simp [uT]
theorem uR_snoc (K : Rl → Sing → Bool) (f : Nat) (rs : List Rl) (r : Rl) : uR K f (rs ++ [r]) = uT (K r) r.line (uR K f rs) (r.ex.flat false) := by simp [uR]
theorem uR_append (K : Rl → Sing → Bool) (f : Nat) (rs ss : List Rl) : uR K f (rs ++ ss) = uR K (uR K f rs) ss := by simp [uR]
def unkR (K : Rl → Sing → Bool) (r : Rl) : Bool := (r.ex.flat false).any fun p => !K r p.1
theorem uT_eq (K : Sing → Bool) (ln : Nat) : ∀ (ts : List (Sing × Bool)) (f : Nat), uT K ln f ts = if ts.any (fun p => !K p.1) then min f ln else f
  | [], f => by simp [uT]
  | p :: ts, f => by
    have h := uT_eq K ln ts
    unfold uT at h ⊢
    rw [List.foldl_cons, h, List.any_cons]
    cases hk : K p.1 <;> cases ha : ts.any (fun p => !K p.1) <;> simp
theorem uR_eq (K : Rl → Sing → Bool) : ∀ (rs : List Rl) (f : Nat), uR K f rs = ((rs.filter (unkR K)).map (·.line)).foldl min f
  | [], f => rfl
  | r :: rs, f => by
    have h := uR_eq K rs
    unfold uR at h ⊢
    rw [List.foldl_cons, h, uT_eq, List.filter_cons]
    unfold unkR
    cases ha : (r.ex.flat false).any (fun p => !K r p.1) <;> simp
theorem foldl_min_le : ∀ (l : List Nat) (f : Nat), l.foldl min f ≤ f ∧ (∀ x ∈ l, l.foldl min f ≤ x) ∧ (l.foldl min f = f ∨ l.foldl min f ∈ l)
  | [], f => by simp
  | x :: l, f => by
    obtain ⟨h1, h2, h3⟩ := foldl_min_le l (min f x)
    rw [List.foldl_cons]
    refine ⟨by omega, fun y hy => ?_, ?_⟩
    · rcases List.mem_cons.1 hy with rfl | hy
      · omega
      · exact h2 y hy
    · rcases h3 with h3 | h3
      · rw [h3]
        by_cases hfx : f ≤ x
        · left; omega
        · right; rw [Nat.min_eq_right (by omega)]; exact List.mem_cons_self ..
      · right; exact List.mem_cons_of_mem _ h3
/-- the first in the order of lines is the least line -/
theorem uR_first (K : Rl → Sing → Bool) (R rs : List Rl) (f : Nat) (hp : ∀ r, r ∈ rs ↔ r ∈ R) (hs : R.Pairwise (fun a b => a.line < b.line)) (hf : ∀ r ∈ R, r.line < f) :
    uR K f rs = match R.find? (unkR K) with | some r => r.line | none => f := by
  rw [uR_eq]
  obtain ⟨h1, h2, h3⟩ := foldl_min_le ((rs.filter (unkR K)).map (·.line)) f
  generalize ((rs.filter (unkR K)).map (·.line)).foldl min f = m at *
  have hm : ∀ r ∈ R, unkR K r = true → m ≤ r.line := fun r hr hu => h2 _ (List.mem_map.2 ⟨r, List.mem_filter.2 ⟨(hp r).2 hr, hu⟩, rfl⟩)
  cases hfi : R.find? (unkR K) with
  | none =>
    rcases h3 with h3 | h3
    · exact h3
    · obtain ⟨r, hr, _⟩ := List.mem_map.1 h3
      obtain ⟨hr1, hr2⟩ := List.mem_filter.1 hr
      have := List.find?_eq_none.1 hfi r ((hp r).1 hr1)
      exact absurd hr2 this
  | some r =>
    have hr := List.mem_of_find?_eq_some hfi
    have hu := List.find?_some hfi
    have ha := hm r hr hu
    have hb := hf r hr
    rcases h3 with h3 | h3
    · simp only; omega
    · obtain ⟨q, hq, he⟩ := List.mem_map.1 h3
      obtain ⟨hq1, hq2⟩ := List.mem_filter.1 hq
      have hqR := (hp q).1 hq1
      obtain ⟨_, l1, bs, hR, has⟩ := List.find?_eq_some_iff_append.1 hfi
      rw [hR] at hqR hs
      rcases List.mem_append.1 hqR with h | h
      · have := has q h
        simp [hq2] at this
      · rcases List.mem_cons.1 h with rfl | h
        · simp only; omega
        · have h5 := (List.pairwise_append.1 hs).2.1
          have h6 := (List.pairwise_cons.1 h5).1 q h
          simp only; omega
end Go.Proofs.YtlgodpadcilcaaaDoor
namespace Go.Proofs.YtlgodpadcilcaaaDoor
open Go.ChangeShapes Go.WideShapes Go.ChangeAt Go.RowKit

theorem ButM.refl (M : List Nat) (w : World) : ButM M w w := ⟨rfl, rfl, rfl, Nat.le_refl _, fun _ _ _ => rfl⟩
theorem ButM.trans {M : List Nat} {a b c : World} (h : ButM M a b) (k : ButM M b c) : ButM M a c :=
  ⟨k.os.trans h.os, k.tape.trans h.tape, k.output.trans h.output, Nat.le_trans h.size k.size, fun i hi hm => (k.block i (Nat.lt_of_lt_of_le hi h.size) hm).trans (h.block i hi hm)⟩
theorem ButM.alloc {M : List Nat} {a w : World} (h : ButM M a w) (o : Obj) : ButM M a (w.alloc o) := h.trans (ButM.of_below ((Below.refl _ _).alloc (Nat.le_refl _) _))
theorem ButM.set {M : List Nat} {a w : World} (h : ButM M a w) {B : Nat} (hB : B ∈ M ∨ a.heap.size ≤ B) (i : Nat) (v : Value) : ButM M a (w.setCell ⟨B, i, none⟩ v) :=
  ⟨h.os, h.tape, h.output, by rw [World.size_setCell]; exact h.size, fun k hk hm => by
    rw [Below.heap_setCell _ _ _ _ (by intro e; subst e; rcases hB with hB | hB; exact hm hB; omega)]; exact h.block k hk hm⟩
theorem ButM.sub {M M' : List Nat} {a w : World} (h : ButM M a w) (hs : ∀ g ∈ M, g ∈ M' ∨ a.heap.size ≤ g) : ButM M' a w :=
  ⟨h.os, h.tape, h.output, h.size, fun k hk hm => h.block k hk (fun hk' => by rcases hs k hk' with h1 | h1; exact hm h1; omega)⟩

theorem flatL_append (ag : Bool) (k : Nat) : ∀ (a b : List Exp) (i : Nat), Exp.flat.flatL ag k i (a ++ b) = Exp.flat.flatL ag k i a ++ Exp.flat.flatL ag k (i + a.length) b
  | [], b, i => by simp [Exp.flat.flatL]
  | e :: a, b, i => by
    rw [List.cons_append]
    simp only [Exp.flat.flatL]
    rw [flatL_append ag k a b (i + 1), List.append_assoc, List.length_cons, show i + (a.length + 1) = i + 1 + a.length by omega]
theorem flatL_take (ag : Bool) (k i : Nat) (es : List Exp) (h : i < es.length) : Exp.flat.flatL ag k 0 (es.take (i + 1)) = Exp.flat.flatL ag k 0 (es.take i) ++ Exp.flat (ag || (k == 5 && decide (0 < i))) es[i] := by
  rw [List.take_succ_eq_append_getElem h, flatL_append]
  simp only [Exp.flat.flatL, List.append_nil, List.length_take, Nat.zero_add]
  rw [Nat.min_eq_left (by omega)]

/-- a visitor of single terms: of function vf, with what it has captured; it changes blocks of V alone, and takes I on by the term -/
structure Visits (vf : Nat) (lb : Array Value) (V : List Nat) (I : List (Sing × Bool) → World → Prop) : Prop where
  call : ∀ pre t ag tc S w0 W, I pre W → ERep S w0 (.leaf t) tc → Calls Tryd.prog vf (#[.agg tc.toArray, .bool ag] ++ lb) W fun e W' => (∃ v, e = .returned v) ∧ I (pre ++ [(t, ag)]) W' ∧ ButM V W W'
  below : ∀ pre W W', I pre W → Below W.heap.size W W' → I pre W'
theorem ERep.leafForm {S : Nat → Prop} {w : World} {t : Sing} {cs : List Value} (h : ERep S w (.leaf t) cs) : ∃ k b c, cs = ExpV k b c none 0 0 := by
  cases t using Sing.kind <;> (simp only [ERep] at h; exact ⟨_, _, _, h⟩)

set_option maxHeartbeats 4000000 in
theorem walk_leaf (vf : Nat) (hen : ∀ args w, (callFunc vf args).run Tryd.prog w = .ok (.enter vf args) w) (lb : Array Value) (V : List Nat) (I : List (Sing × Bool) → World → Prop) (hv : Visits vf lb V I) (t : Sing) (ag : Bool) (pre : List (Sing × Bool)) (cs : List Value) (S : Nat → Prop) (w : World)
    (h : ERep S w (.leaf t) cs) (hi : I pre w) :
    Calls Tryd.prog 55 #[.agg cs.toArray, .bool ag, .func (.func vf) #[] lb] w fun e w' => (∃ v, e = .returned v) ∧ I (pre ++ [(t, ag)]) w' ∧ ButM V w w' := by
  have hX := hv.call pre t ag cs S w _ (hv.below _ _ _ hi ((Below.refl _ _).alloc (Nat.le_refl _) (.cells cs.toArray 74))) h
  obtain ⟨k, b, c, rfl⟩ := h.leafForm
  simp only [ExpV] at *
  clear h
  go_enter Tryd.func55, Tryd.ntmps55
  go_wp2_with (refine hX.mono ?_; rintro e w' ⟨⟨v, rfl⟩, h1, h2⟩)
  refine bodyPost_ret (results_none rfl _ _ _) rfl ?_
  exact ⟨⟨_, rfl⟩, h1, ⟨h2.os, h2.tape, h2.output, by have := h2.size; simp at this; omega, fun k hk hm => (h2.block k (by simp; omega) hm).trans (Below.heap_alloc _ _ _ hk)⟩⟩

theorem ERep.keepM {V : List Nat} {w w' : World} {e : Exp} {cs : List Value} (h : ERep (fun g => g < w.heap.size ∧ g ∉ V) w e cs) (hb : ButM V w w') : ERep (fun g => g < w'.heap.size ∧ g ∉ V) w' e cs :=
  h.mono (fun _ hg => ⟨Nat.lt_of_lt_of_le hg.1 hb.size, hg.2⟩) (fun g hg => hb.block g hg.1 hg.2)

def WalkOK (N vf : Nat) (lb : Array Value) (V : List Nat) (I : List (Sing × Bool) → World → Prop) : Prop :=
  ∀ (e : Exp) (ag : Bool) (pre : List (Sing × Bool)) (cs : List Value) (w : World), e.sz ≤ N → (∀ g ∈ V, g < w.heap.size) → ERep (fun g => g < w.heap.size ∧ g ∉ V) w e cs → I pre w →
    Calls Tryd.prog 55 #[.agg cs.toArray, .bool ag, .func (.func vf) #[] lb] w fun e' w' => (∃ v, e' = .returned v) ∧ I (pre ++ e.flat ag) w' ∧ ButM V w w'

set_option maxHeartbeats 8000000 in
theorem walk_join (N : Nat) (hN : N ≤ 1000000) (vf : Nat) (lb : Array Value) (V : List Nat) (I : List (Sing × Bool) → World → Prop) (hv : Visits vf lb V I) (ih : WalkOK N vf lb V I)
    (k : Nat) (es : List Exp) (ag : Bool) (pre : List (Sing × Bool)) (cs : List Value) (w : World) (hs : (Exp.join k es).sz ≤ N + 1) (hV : ∀ g ∈ V, g < w.heap.size) (h : ERep (fun g => g < w.heap.size ∧ g ∉ V) w (.join k es) cs) (hi : I pre w) :
    Calls Tryd.prog 55 #[.agg cs.toArray, .bool ag, .func (.func vf) #[] lb] w fun e' w' => (∃ v, e' = .returned v) ∧ I (pre ++ (Exp.join k es).flat ag) w' ∧ ButM V w w' := by
  simp only [ERep] at h
  obtain ⟨g, cap, rfl, ⟨hg1, hg2⟩, hne, hall⟩ := h
  rw [ERep.all_iff] at hall
  have hes : ∀ e ∈ es, e.sz ≤ N := fun e he => by have := Exp.szL_mem he; simp only [Exp.sz] at hs; omega
  have hlen : es.length ≤ N := by have := Exp.szL_len es; simp only [Exp.sz] at hs; omega
  have hpos : 0 < es.length := List.length_pos_iff.2 hne
  have HF : Hid ((Exp.join k es).flat ag = Exp.flat.flatL ag k 0 (es.take es.length)) := by show _ = _; rw [List.take_length]; simp only [Exp.flat]
  have HA : Hid (∀ j, j < es.length → ∃ x cs, x.sz ≤ N ∧ Exp.flat.flatL ag k 0 (es.take (j + 1)) = Exp.flat.flatL ag k 0 (es.take j) ++ Exp.flat (ag || (k == 5 && decide (0 < j))) x ∧ w.rangeAt g (j * 4) cs ∧ ERep (fun g => g < w.heap.size ∧ g ∉ V) w x cs) := fun j hj => by
    obtain ⟨cs, h1, h2⟩ := hall j hj
    exact ⟨es[j], cs, hes _ (List.getElem_mem hj), flatL_take ag k j es hj, by rw [Nat.mul_comm, ← Nat.zero_add j]; exact h1, h2⟩
  clear hs hes hne hall
  have HV : Hid (∀ g ∈ V, g < w.heap.size) := hV
  have HI : Hid (I pre w) := hi
  clear hV hi
  generalize es.length = n at *
  go_enter Tryd.func55, Tryd.ntmps55
  go_upto_region 4 with fail
  have hq : (((n : Nat) : Int) == 0) = false := by rw [beq_eq_false_iff_ne]; omega
  simp only [hq]
  go_loopw [19] (fun s19 wr => ∃ i : Nat, i ≤ n ∧ s19 = .int .i64 i ∧ Hid (I (pre ++ Exp.flat.flatL ag k 0 (es.take i)) wr) ∧ Hid (ButM V w wr) ∧ Hid (wr.cell? ⟨w.heap.size, 0, none⟩ = some (.int .i64 k)) ∧ Hid (w.heap.size < wr.heap.size)) (fun s19 _ => n - (intOf s19).toNat)
  case atStart =>
    refine ⟨0, by omega, rfl, ?_, (ButM.refl _ _).alloc _, ?_, ?_⟩
    · show I _ _
      rw [List.take_zero]
      simp only [Exp.flat.flatL, List.append_nil]
      exact hv.below _ _ _ HI.out ((Below.refl _ _).alloc (Nat.le_refl _) _)
    · show _ = _
      exact World.cell?_alloc_new ..
    · show _ < _
      simp
  case round =>
    obtain ⟨i, hin, rfl, HI2, HB, HC, HS⟩ := hrel
    by_cases hi : i < n
    · obtain ⟨x, cs, hx, hf, hr, hE⟩ := HA.out i hi
      obtain ⟨k2, b2, c2, p2, l2, cap2, rfl⟩ := hE.form
      have hbl : wr.heap[g]? = w.heap[g]? := HB.out.block g hg1 hg2
      have e0 : wr.cell? ⟨g, i * 4, none⟩ = some (.int .i64 k2) := by rw [World.cell?_of_block (w := w) hbl]; exact hr 0 _ rfl
      have e1 : wr.cell? ⟨g, i * 4 + 1, none⟩ = some (.string b2) := by rw [World.cell?_of_block (w := w) hbl]; exact hr 1 _ rfl
      have e2 : wr.cell? ⟨g, i * 4 + 2, none⟩ = some (.string c2) := by rw [World.cell?_of_block (w := w) hbl]; exact hr 2 _ rfl
      have e3 : wr.cell? ⟨g, i * 4 + 3, none⟩ = some (.slice p2 l2 cap2) := by rw [World.cell?_of_block (w := w) hbl]; exact hr 3 _ rfl
      have HX : Hid (x.sz ≤ N) := hx
      have HFl : Hid (Exp.flat.flatL ag k 0 (es.take (i + 1)) = Exp.flat.flatL ag k 0 (es.take i) ++ Exp.flat (ag || (k == 5 && decide (0 < i))) x) := hf
      have HE : Hid (ERep (fun g => g < w.heap.size ∧ g ∉ V) w x (ExpV k2 b2 c2 p2 l2 cap2)) := hE
      have c0 := HC.out
      have hsz := HS.out
      clear hx hf hr hE hbl
      go_upto_region 6 with fail
      obtain ⟨W6, hW6⟩ : ∃ W6, wr.alloc (Obj.cells #[.int .i64 k2, .string b2, .string c2, .slice p2 l2 cap2] 74) = W6 := ⟨_, rfl⟩
      have hb6 : ButM V w W6 := by rw [← hW6]; exact HB.out.alloc _
      have hs6 : w.heap.size < W6.heap.size := by rw [← hW6]; simp; omega
      have hX := fun ag' => ih x ag' (pre ++ Exp.flat.flatL ag k 0 (es.take i)) (ExpV k2 b2 c2 p2 l2 cap2) W6 HX.out (fun g hg => by have := HV.out g hg; omega) (HE.out.keepM hb6)
        (by rw [← hW6]; exact hv.below _ _ _ HI2.out ((Below.refl _ _).alloc (Nat.le_refl _) _))
      have d0 : W6.cell? ⟨w.heap.size, 0, none⟩ = some (.int .i64 k) := by rw [← hW6, World.cell?_alloc_lt _ _ _ (by exact hsz)]; exact c0
      have d1 : W6.cell? ⟨wr.heap.size, 0, none⟩ = some (.int .i64 k2) := by rw [← hW6]; exact World.cell?_alloc_new ..
      have d2 : W6.cell? ⟨wr.heap.size, 1, none⟩ = some (.string b2) := by rw [← hW6]; exact World.cell?_alloc_new ..
      have d3 : W6.cell? ⟨wr.heap.size, 2, none⟩ = some (.string c2) := by rw [← hW6]; exact World.cell?_alloc_new ..
      have d4 : W6.cell? ⟨wr.heap.size, 3, none⟩ = some (.slice p2 l2 cap2) := by rw [← hW6]; exact World.cell?_alloc_new ..
      rw [hW6]
      have fin : ∀ (e : Bool) (w' : World), I (pre ++ Exp.flat.flatL ag k 0 (es.take i) ++ Exp.flat e x) w' → ButM V W6 w' → e = (ag || (k == 5 && decide (0 < i))) → Hid (I (pre ++ Exp.flat.flatL ag k 0 (es.take (i + 1))) w') ∧ Hid (ButM V w w') ∧ Hid (w'.cell? ⟨w.heap.size, 0, none⟩ = some (.int .i64 k)) ∧ Hid (w.heap.size < w'.heap.size) := fun e w' h1 h2 he => by
        refine ⟨?_, hb6.trans h2, ?_, ?_⟩
        · show I _ _
          rw [HFl.out, ← he, ← List.append_assoc]; exact h1
        · show _ = _
          rw [World.cell?_of_block (w := W6) (a := ⟨w.heap.size, 0, none⟩) (h2.block _ hs6 (fun hm => Nat.lt_irrefl _ (HV.out _ hm)))]; exact d0
        · show _ < _
          have := h2.size; omega
      simp only [ExpV] at hX
      clear HI2 HB HC HS c0 hsz hW6 e0 e1 e2 e3 HE HX HFl hb6
      have FIN : Hid _ := fin
      clear fin
      cases ag with
      | true =>
        go_wp2_with (go_at_call 55; refine (hX true).mono ?_; rintro e w' ⟨⟨v, rfl⟩, h1, h2⟩)
        go_roundw
        case rel => exact ⟨i + 1, by omega, by go_num, FIN.out _ _ h1 h2 (by simp [*])⟩
        case measure => simp [intOf]; omega
      | false =>
        by_cases hk5 : k = 5
        · have hk6 : ((k : Int) == 5) = true := by simp; omega
          have HK : Hid (k = 5) := hk5
          clear hk5
          by_cases hi0 : i = 0
          · have hi1 : ¬ (0 < i) := by omega
            go_wp2_with (go_at_call 55; refine (hX false).mono ?_; rintro e w' ⟨⟨v, rfl⟩, h1, h2⟩)
            go_roundw
            case rel => exact ⟨i + 1, by omega, by go_num, FIN.out _ _ h1 h2 (by rw [HK.out]; simp [hi1])⟩
            case measure => simp [intOf]; omega
          · have hi1 : 0 < i := by omega
            go_wp2_with (go_at_call 55; refine (hX true).mono ?_; rintro e w' ⟨⟨v, rfl⟩, h1, h2⟩)
            go_roundw
            case rel => exact ⟨i + 1, by omega, by go_num, FIN.out _ _ h1 h2 (by rw [HK.out]; simp [hi1])⟩
            case measure => simp [intOf]; omega
        · have hk6 : ¬ (k : Int) = 5 := by omega
          go_wp2_with (go_at_call 55; refine (hX false).mono ?_; rintro e w' ⟨⟨v, rfl⟩, h1, h2⟩)
          go_roundw
          case rel => exact ⟨i + 1, by omega, by go_num, FIN.out _ _ h1 h2 (by simp [*])⟩
          case measure => simp [intOf]; omega
    · obtain rfl : i = n := by omega
      go_wp2
      go_end0
      exact ⟨⟨_, rfl⟩, by rw [HF.out]; exact HI2.out, HB.out⟩

theorem walk_any (vf : Nat) (hen : ∀ args w, (callFunc vf args).run Tryd.prog w = .ok (.enter vf args) w) (lb : Array Value) (V : List Nat) (I : List (Sing × Bool) → World → Prop) (hv : Visits vf lb V I) : ∀ N, N ≤ 1000001 → WalkOK N vf lb V I
  | 0, _ => fun e ag pre cs w hs _ _ _ => absurd e.sz_pos (by omega)
  | N + 1, hN => fun e ag pre cs w hs hV h hi => by
    cases e using Exp.kind with
    | leaf t =>
      have := walk_leaf vf hen lb V I hv t ag pre cs _ w h hi
      simpa only [Exp.flat] using this
    | join k es => exact walk_join N (by omega) vf lb V I hv (walk_any vf hen lb V I hv N (by omega)) k es ag pre cs w hs hV h hi

set_option maxHeartbeats 4000000 in
theorem eachTerm_any (vf : Nat) (hen : ∀ args w, (callFunc vf args).run Tryd.prog w = .ok (.enter vf args) w) (lb : Array Value) (V : List Nat) (I : List (Sing × Bool) → World → Prop) (hv : Visits vf lb V I)
    (e : Exp) (cs : List Value) (w : World) (hs : e.sz ≤ 1000000) (hV : ∀ g ∈ V, g < w.heap.size) (h : ERep (fun g => g < w.heap.size ∧ g ∉ V) w e cs) (hi : I [] w) :
    Calls Tryd.prog 28 #[.agg cs.toArray, .func (.func vf) #[] lb] w fun e' w' => (∃ v, e' = .returned v) ∧ I (e.flat false) w' ∧ ButM V w w' := by
  have hb : Below w.heap.size w (w.alloc (.cells cs.toArray 74)) := (Below.refl _ _).alloc (Nat.le_refl _) _
  have hX := walk_any vf hen lb V I hv 1000000 (by omega) e false [] cs (w.alloc (.cells cs.toArray 74)) hs (fun g hg => by have := hV g hg; simp; omega) (h.keepM (ButM.of_below hb)) (hv.below _ _ _ hi hb)
  have hB : ButM V w (w.alloc (.cells cs.toArray 74)) := ButM.of_below hb
  obtain ⟨k2, b2, c2, p2, l2, cap2, rfl⟩ := h.form
  simp only [ExpV, List.nil_append] at *
  clear h hi hV hb
  go_enter Tryd.func28, Tryd.ntmps28
  go_wp2_with (go_at_call 55; refine hX.mono ?_; rintro e w' ⟨⟨v, rfl⟩, h1, h2⟩)
  go_end0
  exact ⟨⟨_, rfl⟩, h1, hB.trans h2⟩
end Go.Proofs.YtlgodpadcilcaaaDoor
namespace Go.Proofs.YtlgodpadcilcaaaDoor
open Go.ChangeShapes Go.WideShapes Go.ChangeAt Go.RowKit Go.Shelf
attribute [local go_sem] Oper.semAt_some

theorem room_none {F : Fence} (hd : F.depth = none) (k : Nat) : F.room k := fun d h => by rw [hd] at h; cases h
theorem yield_deep {F : Fence} (hd : F.depth = none) {m : Nat} (m' : Nat) {P : Program} {l : Nat} {args : Array Value} {W : World} {R : Ending → World → Prop} (h : YieldAt F m P l args W R) : YieldAt F m' P l args W R := by
  obtain ⟨fn, tmps, assign, body, hy, hR⟩ := h
  exact ⟨fn, tmps, assign, body, hy, ⟨hR.1, fun c cs _ => hR.2 c cs (room_none hd _)⟩⟩

/-- the entries as what comes -/
abbrev Of {β : Type} (zs : List β) := { x : β // x ∈ zs }
theorem attach_take {β : Type} {zs : List β} (i : Nat) (h : i < zs.length) : zs.attach.take (i + 1) = zs.attach.take i ++ [⟨zs[i], List.getElem_mem h⟩] := by
  rw [List.take_succ_eq_append_getElem (by simpa using h)]
  simp
def encT {β : Type} (f : β → TV) {zs : List β} (x : Of zs) : Array Value := #[strV (f x.1).key, .pointer (some ⟨(f x.1).blk, 0, none⟩)]

set_option maxRecDepth 100000 in
set_option maxHeartbeats 4000000 in
theorem eachT_in (n l n₀ g cap : Nat) {β : Type} (f : β → TV) (zs : List β) (J Jx : List (Of zs) → World → Prop) (hl : zs.length ≤ 1000)
    (hY : ∀ m pre x W, J pre W → pre.length < zs.length → YieldAt Fence.wide m Tryd.prog l (encT f x) W fun e W' =>
      (e = .returned (.bool true) ∧ J (pre ++ [x]) W' ∧ Below n₀ W W') ∨ (e = .returned (.bool false) ∧ Jx (pre ++ [x]) W'))
    (W : World) (hJ : ∀ pre W o, J pre W → J pre (W.alloc o)) (h : RowT W (.slice (some ⟨g, 0, none⟩) zs.length cap) (zs.map f)) (hg : g < n₀) (hn : n₀ ≤ W.heap.size) (h0 : J [] W) :
    CallsIn Fence.wide n Tryd.prog 52 #[.slice (some ⟨g, 0, none⟩) zs.length cap, .func (.yield l) #[] #[]] W fun e W' => (∃ v, e = .returned v) ∧
      (J zs.attach W' ∨ ∃ pre, pre <+: zs.attach ∧ Jx pre W') := by
  have HR : Hid (∀ j (hj : j < zs.length), W.cell? ⟨g, j * 2, none⟩ = some (strV (f zs[j]).key) ∧ W.cell? ⟨g, j * 2 + 1, none⟩ = some (.pointer (some ⟨(f zs[j]).blk, 0, none⟩))) := fun j hj => by
    have h' : RowT W (.slice (some ⟨g, 0, none⟩) (zs.map f).length cap) (zs.map f) := by rw [List.length_map]; exact h
    have h0 := h'.cell j (by simpa using hj) 0 (by decide)
    have h1 := h'.cell j (by simpa using hj) 1 (by decide)
    simp only [List.getElem_map] at h0 h1
    exact ⟨h0, h1⟩
  have HT : Hid (∀ i (h : i < zs.length), zs.attach.take (i + 1) = zs.attach.take i ++ [⟨zs[i], List.getElem_mem h⟩]) := fun i h => attach_take i h
  have HE : Hid (zs.attach.take zs.length = zs.attach) := by show _ = _; rw [List.take_of_length_le (by simp)]
  have HL : Hid (∀ i, i ≤ zs.length → (zs.attach.take i).length = i) := fun i hi => by simp; omega
  clear h
  refine callsIn_of_wp Tryd.func52 rfl trivial ?_ rfl
  simp only [Tryd.ntmps52, List.size_toArray, List.length_cons, List.length_nil, Nat.reduceAdd, Nat.reduceSub, Array.replicate_succ, Array.replicate_zero, List.push_toArray, List.append_toArray, List.nil_append, List.cons_append]
  gi_wp2
  gi_loopw [8] (fun s8 wr => ∃ i : Nat, i ≤ zs.length ∧ s8 = .int .i64 i ∧ Hid (J (zs.attach.take i) wr) ∧ Hid (Below n₀ W wr)) (fun s8 _ => zs.length - (intOf s8).toNat)
  case atStart => exact ⟨0, Nat.zero_le _, rfl, by show J _ _; simpa using h0, Below.refl _ _⟩
  case round =>
    obtain ⟨i, hi, rfl, HJ, HB⟩ := hrel
    by_cases hi2 : i < zs.length
    · obtain ⟨x, hx⟩ : ∃ x : Of zs, x = ⟨zs[i], List.getElem_mem hi2⟩ := ⟨_, rfl⟩
      have c0 : wr.cell? ⟨g, i * 2, none⟩ = some (strV (f x.1).key) := by rw [HB.out.cell (p := ⟨g, i * 2, none⟩) hg, hx]; exact (HR.out i hi2).1
      have c1 : wr.cell? ⟨g, i * 2 + 1, none⟩ = some (.pointer (some ⟨(f x.1).blk, 0, none⟩)) := by rw [HB.out.cell (p := ⟨g, i * 2 + 1, none⟩) hg, hx]; exact (HR.out i hi2).2
      have hT := HT.out i hi2
      rw [← hx] at hT
      have HT2 : Hid (zs.attach.take (i + 1) = zs.attach.take i ++ [x]) := hT
      have hb5 : Below n₀ W (wr.alloc (.cells #[strV (f x.1).key, .pointer (some ⟨(f x.1).blk, 0, none⟩)] 133)) := HB.out.alloc (Nat.le_trans hn HB.out.size) _
      have HB5 : Hid _ := hb5
      obtain ⟨fn, tmps, assign, body, hy, hR⟩ := hY (n - 1) (zs.attach.take i) x (wr.alloc (.cells #[strV (f x.1).key, .pointer (some ⟨(f x.1).blk, 0, none⟩)] 133)) (hJ _ _ _ HJ.out) (by rw [HL.out i hi]; exact hi2)
      clear hT hx hb5 hY
      have HRR : Hid _ := hR
      clear hR
      unfold encT at hy
      generalize f x.1 = y at *
      obtain ⟨key, blk⟩ := y
      simp only [strV] at *
      generalize (⟨key.toArray⟩ : ByteArray) = K at *
      gi_wp2
      refine ⟨fun h => (by cases h), RoundIn.mono HRR.out ?_⟩
      rintro e W3 (⟨rfl, hJ3, hk3⟩ | ⟨rfl, hJx3⟩)
      · gi_wp2
        go_roundw
        case rel => exact ⟨i + 1, by omega, by go_num, by show J _ _; rw [HT2.out]; exact hJ3, HB5.out.trans hk3⟩
        case measure => simp [intOf]; omega
      · gi_wp2
        refine bodyPost_ret (results_none rfl _ _ _) rfl ?_
        exact ⟨⟨_, rfl⟩, .inr ⟨_, ⟨zs.attach.drop (i + 1), by rw [← HT2.out, List.take_append_drop]⟩, hJx3⟩⟩
    · obtain hie : i = zs.length := by omega
      subst hie
      gi_wp2
      go_end0
      exact ⟨⟨_, rfl⟩, .inl (by rw [← HE.out]; exact HJ.out)⟩

set_option maxRecDepth 100000 in
set_option maxHeartbeats 4000000 in
theorem eachT_nil (n l : Nat) (W : World) :
    CallsIn Fence.wide n Tryd.prog 52 #[.slice none 0 0, .func (.yield l) #[] #[]] W fun e W' => (∃ v, e = .returned v) ∧ W' = W := by
  refine callsIn_of_wp Tryd.func52 rfl trivial ?_ rfl
  simp only [Tryd.ntmps52, List.size_toArray, List.length_cons, List.length_nil, Nat.reduceAdd, Nat.reduceSub, Array.replicate_succ, Array.replicate_zero, List.push_toArray, List.append_toArray, List.nil_append, List.cons_append]
  gi_wp2
  gi_loopw [8] (fun s8 wr => s8 = .int .i64 0 ∧ wr = W) (fun _ _ => 0)
  case atStart => exact ⟨rfl, rfl⟩
  case round =>
    obtain ⟨rfl, rfl⟩ := hrel
    gi_wp2
    go_end0
    exact ⟨⟨_, rfl⟩, rfl⟩

set_option maxHeartbeats 4000000 in
theorem AllT_in (n : Nat) (p0 : Option Addr) (w : World) :
    CallsIn Fence.wide n Tryd.prog 26 #[.pointer p0] w fun e w' => e = .returned (.func (.func 51) #[] #[.pointer (some ⟨w.heap.size, 0, none⟩)]) ∧ w' = w.alloc (.cells #[.pointer p0] 97) := by
  refine callsIn_of_wp Tryd.func26 rfl trivial ?_ rfl
  simp only [Tryd.ntmps26, List.size_toArray, List.length_cons, List.length_nil, Nat.reduceAdd, Nat.reduceSub, Array.replicate_succ, Array.replicate_zero, List.push_toArray, List.append_toArray, List.nil_append, List.cons_append]
  gi_wp2
  go_ret
  exact ⟨rfl, rfl⟩

set_option maxRecDepth 100000 in
set_option maxHeartbeats 4000000 in
theorem AllT1_in (n l n₀ B L : Nat) (rb : Option Nat) {β : Type} (f : β → TV) (zs : List β) (J Jx : List (Of zs) → World → Prop)
    (hY : ∀ m pre x W, J pre W → pre.length < zs.length → YieldAt Fence.wide m Tryd.prog l (encT f x) W fun e W' =>
      (e = .returned (.bool true) ∧ J (pre ++ [x]) W' ∧ Below n₀ W W') ∨ (e = .returned (.bool false) ∧ Jx (pre ++ [x]) W'))
    (W : World) (hJ : ∀ pre W o, J pre W → J pre (W.alloc o)) (hB : W.cell? ⟨B, 0, none⟩ = some (.pointer (some ⟨L, 0, none⟩))) (h : OwnT W L rb (zs.map f)) (hrb : ∀ g, rb = some g → g < n₀) (hn : n₀ ≤ W.heap.size) (h0 : J [] W) :
    CallsIn Fence.wide n Tryd.prog 51 #[.func (.yield l) #[] #[], .pointer (some ⟨B, 0, none⟩)] W fun e W' => (∃ v, e = .returned v) ∧
      ((∃ xs, xs = zs.attach ∧ J xs W') ∨ ∃ pre, pre <+: zs.attach ∧ Jx pre W') := by
  obtain ⟨v, hv, hrow, hob⟩ := h.row
  have hX : CallsIn Fence.wide (n - 1) Tryd.prog 52 #[v, .func (.yield l) #[] #[]] W fun e W' => (∃ v, e = .returned v) ∧ (J zs.attach W' ∨ ∃ pre, pre <+: zs.attach ∧ Jx pre W') := by
    rcases hrow.2 with ⟨rfl, hz⟩ | ⟨g, cap, cur, rfl, _⟩
    · obtain rfl : zs = [] := List.eq_nil_of_length_eq_zero (by simpa using hz)
      refine (eachT_nil _ l W).mono ?_
      rintro e W' ⟨h1, rfl⟩
      exact ⟨h1, .inl h0⟩
    · rw [List.length_map] at hrow ⊢
      exact eachT_in _ l n₀ g cap f zs J Jx (by simpa using h.few) hY W hJ hrow (hrb g (by rw [← hob]; rfl)) hn h0
  obtain ⟨p, c, hvs⟩ : ∃ p c, v = .slice p (zs.map f).length c := by
    rcases hrow.2 with ⟨rfl, h0⟩ | ⟨g, cap, cur, rfl, _⟩
    · rw [h0]; exact ⟨_, _, rfl⟩
    · exact ⟨_, _, rfl⟩
  subst hvs
  clear hrow hob hY hrb h h0 hJ
  generalize (zs.map f).length = k at *
  refine callsIn_of_wp Tryd.func51 rfl trivial ?_ rfl
  simp only [Tryd.ntmps51, List.size_toArray, List.length_cons, List.length_nil, Nat.reduceAdd, Nat.reduceSub, Array.replicate_succ, Array.replicate_zero, List.push_toArray, List.append_toArray, List.nil_append, List.cons_append]
  gi_wp2_with fail
  refine ⟨trivial, fun h => (by cases h), ?_⟩
  refine hX.mono ?_
  clear hX
  rintro e W1 ⟨⟨v, rfl⟩, hJ1 | ⟨q, hq, hx⟩⟩
  · gi_wp2
    go_end0
    exact ⟨⟨_, rfl⟩, .inl ⟨_, rfl, hJ1⟩⟩
  · gi_wp2
    go_end0
    exact ⟨⟨_, rfl⟩, .inr ⟨q, hq, hx⟩⟩

theorem AllT_stops (n n₀ B L : Nat) (rb : Option Nat) {β : Type} (f : β → TV) (zs : List β) (w : World) (hB : w.cell? ⟨B, 0, none⟩ = some (.pointer (some ⟨L, 0, none⟩))) (hBl : B < w.heap.size) (h : OwnT w L rb (zs.map f)) (hrb : ∀ g, rb = some g → g < n₀) (hn : n₀ ≤ w.heap.size) :
    SeqStopsK Fence.wide n Tryd.prog 51 #[.pointer (some ⟨B, 0, none⟩)] (encT f (zs := zs)) (Below n₀) (fun ys => ys = zs.attach) (fun pre => pre <+: zs.attach) zs.length w := fun l J Jx W hW hJ _ hY h0 =>
  AllT1_in n l n₀ B L rb f zs J Jx (fun m pre x W1 hj hl => yield_deep rfl m (hY pre x W1 hj hl)) W
    (fun pre W1 o hj => hJ pre W1 _ none hj ⟨rfl, rfl, rfl, by simp, fun k hk _ => Below.heap_alloc _ _ _ hk⟩ (fun r e => by cases e))
    ((hW.cell (p := ⟨B, 0, none⟩) hBl).trans hB) (h.keep (hW.block _ h.lt.1) (fun k hk => hW.block _ (h.lt.2 k hk))) hrb (Nat.le_trans hn hW.size) h0
end Go.Proofs.YtlgodpadcilcaaaDoor
namespace Go.Proofs.YtlgodpadcilcaaaDoor
open Go.ChangeShapes Go.WideShapes Go.ChangeAt Go.RowKit Go.Shelf
attribute [local go_sem] Oper.semAt_some

def encR {β : Type} (f : β → RV) {zs : List β} (x : Of zs) : Array Value := #[strV (f x.1).key, .agg #[.bool (f x.1).set, .int .i64 (f x.1).k, .string (f x.1).b, .string (f x.1).c, .slice (f x.1).p (f x.1).l (f x.1).cp, .int .i64 (f x.1).rank, .int .i64 (f x.1).line]]

set_option maxRecDepth 100000 in
set_option maxHeartbeats 4000000 in
theorem eachR_in (n lp n₀ g cap : Nat) {β : Type} (f : β → RV) (zs : List β) (J Jx : List (Of zs) → World → Prop) (hl : zs.length ≤ 1000)
    (hY : ∀ m pre x W, J pre W → pre.length < zs.length → YieldAt Fence.wide m Tryd.prog lp (encR f x) W fun e W' =>
      (e = .returned (.bool true) ∧ J (pre ++ [x]) W' ∧ Below n₀ W W') ∨ (e = .returned (.bool false) ∧ Jx (pre ++ [x]) W'))
    (W : World) (hJ : ∀ pre W o, J pre W → J pre (W.alloc o)) (h : RowR W (.slice (some ⟨g, 0, none⟩) zs.length cap) (zs.map f)) (hg : g < n₀) (hn : n₀ ≤ W.heap.size) (h0 : J [] W) :
    CallsIn Fence.wide n Tryd.prog 54 #[.slice (some ⟨g, 0, none⟩) zs.length cap, .func (.yield lp) #[] #[]] W fun e W' => (∃ v, e = .returned v) ∧
      (J zs.attach W' ∨ ∃ pre, pre <+: zs.attach ∧ Jx pre W') := by
  have HR : Hid (∀ j (hj : j < zs.length) i, i < 8 → W.cell? ⟨g, j * 8 + i, none⟩ = (f zs[j]).cells[i]?) := fun j hj i hi => by
    have h' : RowR W (.slice (some ⟨g, 0, none⟩) (zs.map f).length cap) (zs.map f) := by rw [List.length_map]; exact h
    have h0 := h'.cell j (by simpa using hj) i hi
    simp only [List.getElem_map] at h0
    exact h0
  have HT : Hid (∀ i (h : i < zs.length), zs.attach.take (i + 1) = zs.attach.take i ++ [⟨zs[i], List.getElem_mem h⟩]) := fun i h => attach_take i h
  have HE : Hid (zs.attach.take zs.length = zs.attach) := by show _ = _; rw [List.take_of_length_le (by simp)]
  have HL : Hid (∀ i, i ≤ zs.length → (zs.attach.take i).length = i) := fun i hi => by simp; omega
  clear h
  refine callsIn_of_wp Tryd.func54 rfl trivial ?_ rfl
  simp only [Tryd.ntmps54, List.size_toArray, List.length_cons, List.length_nil, Nat.reduceAdd, Nat.reduceSub, Array.replicate_succ, Array.replicate_zero, List.push_toArray, List.append_toArray, List.nil_append, List.cons_append]
  gi_wp2
  gi_loopw [8] (fun s8 wr => ∃ i : Nat, i ≤ zs.length ∧ s8 = .int .i64 i ∧ Hid (J (zs.attach.take i) wr) ∧ Hid (Below n₀ W wr)) (fun s8 _ => zs.length - (intOf s8).toNat)
  case atStart => exact ⟨0, Nat.zero_le _, rfl, by show J _ _; simpa using h0, Below.refl _ _⟩
  case round =>
    obtain ⟨i, hi, rfl, HJ, HB⟩ := hrel
    by_cases hi2 : i < zs.length
    · obtain ⟨x, hx⟩ : ∃ x : Of zs, x = ⟨zs[i], List.getElem_mem hi2⟩ := ⟨_, rfl⟩
      have hc : ∀ j, j < 8 → wr.cell? ⟨g, i * 8 + j, none⟩ = (f x.1).cells[j]? := fun j hj => by rw [HB.out.cell (p := ⟨g, i * 8 + j, none⟩) hg, hx]; exact HR.out i hi2 j hj
      have hT := HT.out i hi2
      rw [← hx] at hT
      have HT2 : Hid (zs.attach.take (i + 1) = zs.attach.take i ++ [x]) := hT
      have hb5 : Below n₀ W (wr.alloc (.cells #[strV (f x.1).key, .bool (f x.1).set, .int .i64 (f x.1).k, .string (f x.1).b, .string (f x.1).c, .slice (f x.1).p (f x.1).l (f x.1).cp, .int .i64 (f x.1).rank, .int .i64 (f x.1).line] 123)) := HB.out.alloc (Nat.le_trans hn HB.out.size) _
      have HB5 : Hid _ := hb5
      obtain ⟨fn, tmps, assign, body, hy, hR⟩ := hY (n - 1) (zs.attach.take i) x (wr.alloc (.cells #[strV (f x.1).key, .bool (f x.1).set, .int .i64 (f x.1).k, .string (f x.1).b, .string (f x.1).c, .slice (f x.1).p (f x.1).l (f x.1).cp, .int .i64 (f x.1).rank, .int .i64 (f x.1).line] 123)) (hJ _ _ _ HJ.out) (by rw [HL.out i hi]; exact hi2)
      clear hT hx hb5 hY
      have HRR : Hid _ := hR
      clear hR
      unfold encR at hy
      generalize f x.1 = y at *
      obtain ⟨key, set, k, b, c, p, l, cp, rank, line⟩ := y
      have d0 := hc 0 (by decide)
      have d1 := hc 1 (by decide)
      have d2 := hc 2 (by decide)
      have d3 := hc 3 (by decide)
      have d4 := hc 4 (by decide)
      have d5 := hc 5 (by decide)
      have d6 := hc 6 (by decide)
      have d7 := hc 7 (by decide)
      simp only [RV.cells, strV, List.getElem?_cons_zero, List.getElem?_cons_succ, Nat.add_zero] at d0 d1 d2 d3 d4 d5 d6 d7
      clear hc
      simp only [strV] at *
      generalize (⟨key.toArray⟩ : ByteArray) = K at *
      gi_wp2
      refine ⟨fun h => (by cases h), RoundIn.mono HRR.out ?_⟩
      rintro e W3 (⟨rfl, hJ3, hk3⟩ | ⟨rfl, hJx3⟩)
      · gi_wp2
        go_roundw
        case rel => exact ⟨i + 1, by omega, by go_num, by show J _ _; rw [HT2.out]; exact hJ3, HB5.out.trans hk3⟩
        case measure => simp [intOf]; omega
      · gi_wp2
        refine bodyPost_ret (results_none rfl _ _ _) rfl ?_
        exact ⟨⟨_, rfl⟩, .inr ⟨_, ⟨zs.attach.drop (i + 1), by rw [← HT2.out, List.take_append_drop]⟩, hJx3⟩⟩
    · obtain hie : i = zs.length := by omega
      subst hie
      gi_wp2
      go_end0
      exact ⟨⟨_, rfl⟩, .inl (by rw [← HE.out]; exact HJ.out)⟩

set_option maxRecDepth 100000 in
set_option maxHeartbeats 4000000 in
theorem eachR_nil (n lp : Nat) (W : World) :
    CallsIn Fence.wide n Tryd.prog 54 #[.slice none 0 0, .func (.yield lp) #[] #[]] W fun e W' => (∃ v, e = .returned v) ∧ W' = W := by
  refine callsIn_of_wp Tryd.func54 rfl trivial ?_ rfl
  simp only [Tryd.ntmps54, List.size_toArray, List.length_cons, List.length_nil, Nat.reduceAdd, Nat.reduceSub, Array.replicate_succ, Array.replicate_zero, List.push_toArray, List.append_toArray, List.nil_append, List.cons_append]
  gi_wp2
  gi_loopw [8] (fun s8 wr => s8 = .int .i64 0 ∧ wr = W) (fun _ _ => 0)
  case atStart => exact ⟨rfl, rfl⟩
  case round =>
    obtain ⟨rfl, rfl⟩ := hrel
    gi_wp2
    go_end0
    exact ⟨⟨_, rfl⟩, rfl⟩

set_option maxHeartbeats 4000000 in
theorem AllR_in (n : Nat) (p0 : Option Addr) (w : World) :
    CallsIn Fence.wide n Tryd.prog 27 #[.pointer p0] w fun e w' => e = .returned (.func (.func 53) #[] #[.pointer (some ⟨w.heap.size, 0, none⟩)]) ∧ w' = w.alloc (.cells #[.pointer p0] 43) := by
  refine callsIn_of_wp Tryd.func27 rfl trivial ?_ rfl
  simp only [Tryd.ntmps27, List.size_toArray, List.length_cons, List.length_nil, Nat.reduceAdd, Nat.reduceSub, Array.replicate_succ, Array.replicate_zero, List.push_toArray, List.append_toArray, List.nil_append, List.cons_append]
  gi_wp2
  go_ret
  exact ⟨rfl, rfl⟩

set_option maxRecDepth 100000 in
set_option maxHeartbeats 4000000 in
theorem AllR1_in (n lp n₀ B L : Nat) (rb : Option Nat) {β : Type} (f : β → RV) (zs : List β) (J Jx : List (Of zs) → World → Prop)
    (hY : ∀ m pre x W, J pre W → pre.length < zs.length → YieldAt Fence.wide m Tryd.prog lp (encR f x) W fun e W' =>
      (e = .returned (.bool true) ∧ J (pre ++ [x]) W' ∧ Below n₀ W W') ∨ (e = .returned (.bool false) ∧ Jx (pre ++ [x]) W'))
    (W : World) (hJ : ∀ pre W o, J pre W → J pre (W.alloc o)) (hB : W.cell? ⟨B, 0, none⟩ = some (.pointer (some ⟨L, 0, none⟩))) (h : OwnR W L rb (zs.map f)) (hrb : ∀ g, rb = some g → g < n₀) (hn : n₀ ≤ W.heap.size) (h0 : J [] W) :
    CallsIn Fence.wide n Tryd.prog 53 #[.func (.yield lp) #[] #[], .pointer (some ⟨B, 0, none⟩)] W fun e W' => (∃ v, e = .returned v) ∧
      ((∃ xs, xs = zs.attach ∧ J xs W') ∨ ∃ pre, pre <+: zs.attach ∧ Jx pre W') := by
  obtain ⟨v, hv, hrow, hob⟩ := h.row
  have hX : CallsIn Fence.wide (n - 1) Tryd.prog 54 #[v, .func (.yield lp) #[] #[]] W fun e W' => (∃ v, e = .returned v) ∧ (J zs.attach W' ∨ ∃ pre, pre <+: zs.attach ∧ Jx pre W') := by
    rcases hrow.2 with ⟨rfl, hz⟩ | ⟨g, cap, cur, rfl, _⟩
    · obtain rfl : zs = [] := List.eq_nil_of_length_eq_zero (by simpa using hz)
      refine (eachR_nil _ lp W).mono ?_
      rintro e W' ⟨h1, rfl⟩
      exact ⟨h1, .inl h0⟩
    · rw [List.length_map] at hrow ⊢
      exact eachR_in _ lp n₀ g cap f zs J Jx (by simpa using h.few) hY W hJ hrow (hrb g (by rw [← hob]; rfl)) hn h0
  obtain ⟨p, c, hvs⟩ : ∃ p c, v = .slice p (zs.map f).length c := by
    rcases hrow.2 with ⟨rfl, h0⟩ | ⟨g, cap, cur, rfl, _⟩
    · rw [h0]; exact ⟨_, _, rfl⟩
    · exact ⟨_, _, rfl⟩
  subst hvs
  clear hrow hob hY hrb h h0 hJ
  generalize (zs.map f).length = k at *
  refine callsIn_of_wp Tryd.func53 rfl trivial ?_ rfl
  simp only [Tryd.ntmps53, List.size_toArray, List.length_cons, List.length_nil, Nat.reduceAdd, Nat.reduceSub, Array.replicate_succ, Array.replicate_zero, List.push_toArray, List.append_toArray, List.nil_append, List.cons_append]
  gi_wp2_with fail
  refine ⟨trivial, fun h => (by cases h), ?_⟩
  refine hX.mono ?_
  clear hX
  rintro e W1 ⟨⟨v, rfl⟩, hJ1 | ⟨q, hq, hx⟩⟩
  · gi_wp2
    go_end0
    exact ⟨⟨_, rfl⟩, .inl ⟨_, rfl, hJ1⟩⟩
  · gi_wp2
    go_end0
    exact ⟨⟨_, rfl⟩, .inr ⟨q, hq, hx⟩⟩

theorem AllR_stops (n n₀ B L : Nat) (rb : Option Nat) {β : Type} (f : β → RV) (zs : List β) (w : World) (hB : w.cell? ⟨B, 0, none⟩ = some (.pointer (some ⟨L, 0, none⟩))) (hBl : B < w.heap.size) (h : OwnR w L rb (zs.map f)) (hrb : ∀ g, rb = some g → g < n₀) (hn : n₀ ≤ w.heap.size) :
    SeqStopsK Fence.wide n Tryd.prog 53 #[.pointer (some ⟨B, 0, none⟩)] (encR f (zs := zs)) (Below n₀) (fun ys => ys = zs.attach) (fun pre => pre <+: zs.attach) zs.length w := fun l J Jx W hW hJ _ hY h0 =>
  AllR1_in n l n₀ B L rb f zs J Jx (fun m pre x W1 hj hl => yield_deep rfl m (hY pre x W1 hj hl)) W
    (fun pre W1 o hj => hJ pre W1 _ none hj ⟨rfl, rfl, rfl, by simp, fun k hk _ => Below.heap_alloc _ _ _ hk⟩ (fun r e => by cases e))
    ((hW.cell (p := ⟨B, 0, none⟩) hBl).trans hB) (h.keep (hW.block _ h.lt.1) (fun k hk => hW.block _ (h.lt.2 k hk))) hrb (Nat.le_trans hn hW.size) h0
end Go.Proofs.YtlgodpadcilcaaaDoor
namespace Go.Proofs.YtlgodpadcilcaaaDoor
open Go.ChangeShapes Go.WideShapes Go.ChangeAt Go.RowKit Go.Shelf
attribute [local go_sem] Oper.semAt_some

theorem keepsFrom_below {B : Nat} {W W' : World} (h : Below W.heap.size W W') : KeepsFrom B W W' := ⟨h.size, fun k _ _ h0 _ => (h.block k (Array.getElem?_eq_some_iff.1 h0).1).trans h0⟩
theorem boxed_below {W W' : World} {B : Nat} {t : TypeId} {v : Value} (h : Boxed W B t v) (hb : Below W.heap.size W W') : Boxed W' B t v := by
  show W'.heap[B]? = _
  exact (hb.block B h.lt).trans h

set_option maxRecDepth 100000 in
set_option maxHeartbeats 4000000 in
theorem someHas_any (Rd S : Nat) (rbT : Option Nat) (zs : List Zt) (st : List Ty) (s : ByteArray) (w : World) (h : PRep w Rd S rbT zs st) :
    Calls Tryd.prog 56 #[.pointer (some ⟨S, 0, none⟩), .string s] w fun e w' => e = .returned (.bool (decide (∃ z ∈ zs, s.data.toList ∈ z.es.map (·.key)))) ∧ Below w.heap.size w w' := by
  refine (callsIn_wide (n := 9)).1 ?_
  refine callsIn_of_wp_marks Tryd.func56 rfl trivial ?_ rfl
  simp only [Tryd.ntmps56, List.size_toArray, List.length_cons, List.length_nil, Nat.reduceAdd, Nat.reduceSub, Array.replicate_succ, Array.replicate_zero, List.push_toArray, List.append_toArray, List.nil_append, List.cons_append]
  gi_wp2_with (refine ⟨trivial, ?_⟩; gi_at_call 26; refine (AllT_in _ _ _).mono ?_; rintro e w' ⟨rfl, rfl⟩)
  have bS := ((Boxed.new w 9 (.string s)).alloc (.cells #[.bool false] 4)).alloc (.cells #[.pointer (some ⟨S, 0, none⟩)] 97)
  have bR := (Boxed.new (w.alloc (.cells #[.string s] 9)) 4 (.bool false)).alloc (.cells #[.pointer (some ⟨S, 0, none⟩)] 97)
  have bA := Boxed.new ((w.alloc (.cells #[.string s] 9)).alloc (.cells #[.bool false] 4)) 97 (.pointer (some ⟨S, 0, none⟩))
  simp only [World.size_alloc] at bR bA
  have hB0 : Below w.heap.size w (((w.alloc (.cells #[.string s] 9)).alloc (.cells #[.bool false] 4)).alloc (.cells #[.pointer (some ⟨S, 0, none⟩)] 97)) := (((Below.refl _ w).alloc (Nat.le_refl _) _).alloc (by simp) _).alloc (by simp; omega) _
  have hsz : (((w.alloc (.cells #[.string s] 9)).alloc (.cells #[.bool false] 4)).alloc (.cells #[.pointer (some ⟨S, 0, none⟩)] 97)).heap.size = w.heap.size + 3 := by simp
  obtain ⟨W0, hW0⟩ : ∃ W0, ((w.alloc (.cells #[.string s] 9)).alloc (.cells #[.bool false] 4)).alloc (.cells #[.pointer (some ⟨S, 0, none⟩)] 97) = W0 := ⟨_, rfl⟩
  rw [hW0] at bS bR bA hB0 hsz ⊢
  clear hW0
  have h0 := h.below hB0
  refine wpIn_rangeFunc_ownH (α := Of zs) rfl (by decide) (gf := 51) (lb := #[.pointer (some ⟨w.heap.size + 1 + 1, 0, none⟩)]) rfl trivial (enters_of Tryd.func51 (by kernel_rfl) rfl)
    (AllT_stops _ w.heap.size (w.heap.size + 1 + 1) S rbT Zt.tv zs W0 bA.cell (by omega) h0.own (fun g hg => h.lt g (mem_blocks_T hg)) (by omega)) belowK_t (belowK_b (by omega)) (Below.refl _ _) (fun _ => rfl)
    (fun pre W => (((∀ z ∈ pre, s.data.toList ∉ z.1.es.map (·.key)) ∧ Boxed W (w.heap.size + 1) 4 (.bool false)) ∧ Boxed W w.heap.size 9 (.string s)) ∧ Below w.heap.size w W)
    (fun c pre W => ((c = .ret ∧ ∃ z ∈ pre, s.data.toList ∈ z.1.es.map (·.key)) ∧ Boxed W (w.heap.size + 1) 4 (.bool true)) ∧ Below w.heap.size w W)
    (OwnFrom.and (OwnFrom.and (OwnFrom.and (ownFrom_pure _ _) (Own.from (boxed_own _ _ _) _)) (Own.from (boxed_own _ _ _) _)) (ownFrom_below (Nat.le_refl _) (by omega)))
    (fun c => OwnFrom.and (OwnFrom.and (ownFrom_pure _ _) (Own.from (boxed_own _ _ _) _)) (ownFrom_below (Nat.le_refl _) (by omega)))
    ⟨⟨⟨by simp, bR⟩, bS⟩, hB0⟩
    (fun x a' _ => a' = { tmps := #[.pointer (some ⟨S, 0, none⟩), .string s, undef, .pointer (some ⟨w.heap.size, 0, none⟩), .pointer (some ⟨w.heap.size + 1, 0, none⟩), undef, .pointer (some ⟨x.1.tv.blk, 0, none⟩), .pointer (some ⟨S, 0, none⟩), .pointer (some ⟨S, 0, none⟩), .pointer (some ⟨S, 0, none⟩), .func (.func 51) #[] #[.pointer (some ⟨w.heap.size + 1 + 1, 0, none⟩)], strV x.1.tv.key, .pointer (some ⟨x.1.tv.blk, 0, none⟩), undef, undef, undef], defers := [] })
    (fun _ _ _ _ _ _ hs _ _ => hs)
    ?assign ?body ?done ?stop
  case assign =>
    rintro l pre x W K hi hK
    unfold encT
    gi_wp2
    exact hK _ _ (KeepsFrom.refl _ _) (Below.refl _ _) hi rfl
  case body =>
    rintro l pre x a' W hl ⟨r, hr⟩ ⟨⟨⟨hp, bR1⟩, bS1⟩, hB1⟩ rfl hlt
    have cS := bS1.cell
    have cR := bR1.cell
    have fR := bR1.frozen
    have h1' : 1 ≤ 9 - 1 - 1 := by decide
    have hz := (h.below hB1).zok x.1 x.2
    have hX := HasR_any x.1.tv.blk x.1.es s W hz.own.list
    have HP : Hid _ := hp
    have hsW := hB1.size
    clear hz hp h h0
    cases hd : decide (s.data.toList ∈ x.1.es.map (·.key)) with
    | true =>
      rw [hd] at hX
      have hd2 : s.data.toList ∈ x.1.es.map (·.key) := of_decide_eq_true hd
      have HD : Hid (s.data.toList ∈ x.1.es.map (·.key)) := hd2
      clear hd2
      clear hd
      gi_wp2_with (refine ⟨trivial, ?_⟩; gi_at_call 49; refine (CallsIn.inRound l (callsIn_wide.2 hX)).mono ?_; rintro e w' ⟨rfl, hb2⟩; have cR2 := (boxed_below bR1 hb2).cell; have fR2 := (boxed_below bR1 hb2).frozen)
      have hbw : Below w.heap.size W w' := hb2.mono hsW
      exact ⟨(keepsFrom_below hb2).trans ((KeepsOthers.setCell _ _ _).from _), ⟨⟨rfl, x, List.mem_append.2 (.inr (by simp)), HD.out⟩, (boxed_below bR1 hb2).set _⟩, (hB1.trans hbw).setCell (p := ⟨w.heap.size + 1, 0, none⟩) (by simp) _⟩
    | false =>
      rw [hd] at hX
      have hd2 : s.data.toList ∉ x.1.es.map (·.key) := of_decide_eq_false hd
      have HD : Hid (s.data.toList ∉ x.1.es.map (·.key)) := hd2
      clear hd2
      clear hd
      gi_wp2_with (refine ⟨trivial, ?_⟩; gi_at_call 49; refine (CallsIn.inRound l (callsIn_wide.2 hX)).mono ?_; rintro e w' ⟨rfl, hb2⟩)
      have hbw : Below w.heap.size W w' := hb2.mono hsW
      exact ⟨keepsFrom_below hb2, hbw, ⟨⟨fun z hz => (List.mem_append.1 hz).elim (HP.out z) (fun e => by simp at e; subst e; exact HD.out), boxed_below bR1 hb2⟩, boxed_below bS1 hb2⟩, hB1.trans hbw⟩
  case done =>
    rintro D ys W hD rfl ⟨⟨⟨hp, bR1⟩, bS1⟩, hB1⟩ hK
    have cR := bR1.cell
    have fR := bR1.frozen
    have HP : Hid _ := hp
    clear hp h h0
    gi_wp2
    have hK' := (KeepsOthers.setCell W ⟨w.heap.size + 1, 0, none⟩ (.bool false)).same D _ hK rfl
    refine ⟨by simp, .inl ⟨_, _, rfl, run_takeDeferred hK', ?_⟩⟩
    have hc5 := cell_kept (bR1.set (.bool false)).cell (grownBy_putObj' _ D (.deferred none)) (fun r e => by cases e; exact ⟨_, hK', rfl⟩)
    refine ⟨.bool false, ?_, by rw [decide_eq_false (fun ⟨z, hz, hy⟩ => HP.out ⟨z, hz⟩ (List.mem_attach ..) hy)], (hB1.setCell (p := ⟨w.heap.size + 1, 0, none⟩) (by simp) _).trans (belowK_b (w := w) (Nat.le_refl _) _ D _ _ (by omega) hK' rfl rfl)⟩
    simp [results, Tryd.f56, go_sem, hc5]
  case stop =>
    rintro D c pre W hD hpre ⟨⟨⟨rfl, x, hx, hy⟩, bR1⟩, hB1⟩ hK
    have HY : Hid _ := hy
    clear hy h h0
    gi_wp2
    refine ⟨by simp, .inl ⟨_, _, rfl, run_takeDeferred hK, ?_⟩⟩
    have hc5 := cell_kept bR1.cell (grownBy_putObj' _ D (.deferred none)) (fun r e => by cases e; exact ⟨_, hK, rfl⟩)
    refine ⟨.bool true, ?_, by rw [decide_eq_true ⟨x.1, x.2, HY.out⟩], hB1.trans (belowK_b (w := w) (Nat.le_refl _) _ D _ _ (by omega) hK rfl rfl)⟩
    simp [results, Tryd.f56, go_sem, hc5]
end Go.Proofs.YtlgodpadcilcaaaDoor
namespace Go.Proofs.YtlgodpadcilcaaaDoor

theorem wholeL_sz {xs : List (List UInt8)} {e : Exp} (h : wholeL xs = some e) : e.sz ≤ xs.length := by
  unfold wholeL at h
  split at h
  · rename_i x hx
    cases h
    have := exprL_sz _ _ _ hx
    simpa using this
  · cases h

/-- all relations, in the order of lines -/
def relsOf (st : List Ty) : List Rl := st.flatMap (·.rels)

/-- lines rise, and all are ahead of num; no expression has more than N nodes -/
structure StLn (N : Nat) (st : List Ty) (num : Nat) : Prop where
  rise : (relsOf st).Pairwise (fun a b => a.line < b.line)
  lt : ∀ r ∈ relsOf st, r.line < num
  sz : ∀ r ∈ relsOf st, r.ex.sz ≤ N
theorem StLn.nil (N num : Nat) : StLn N [] num := ⟨by simp [relsOf], by simp [relsOf], by simp [relsOf]⟩
theorem StLn.more {N : Nat} {st : List Ty} {num k : Nat} (h : StLn N st num) (hk : num ≤ k) : StLn N st k := ⟨h.rise, fun r hr => by have := h.lt r hr; omega, h.sz⟩

theorem typeS_ln {N : Nat} {st : List Ty} {num : Nat} (h : StLn N st num) (ps : List (List UInt8)) : StLn N (typeS st ps).2 (num + 1) := by
  have h' := h.more (Nat.le_succ num)
  unfold typeS
  split
  · split
    · exact h'
    · split
      · exact h'
      · split
        · exact h'
        · have e : ∀ n, relsOf (st ++ [⟨n, []⟩]) = relsOf st := fun n => by simp [relsOf]
          exact ⟨by rw [e]; exact h'.rise, by rw [e]; exact h'.lt, by rw [e]; exact h'.sz⟩
  · exact h'
theorem relsOf_add {st : List Ty} {ty : Ty} (h : st.getLast? = some ty) (r : Rl) : relsOf (st.dropLast ++ [⟨ty.nm, ty.rels ++ [r]⟩]) = relsOf st ++ [r] := by
  have e : relsOf st = relsOf (st.dropLast ++ [ty]) := congrArg relsOf (getLast_split h)
  rw [e]
  simp [relsOf]
theorem relS_ln {N : Nat} {st : List Ty} {num : Nat} (h : StLn N st num) (set : Bool) (ps : List (List UInt8)) (hps : ps.length ≤ N + 1) : StLn N (relS st num set ps).2 (num + 1) := by
  have h' := h.more (Nat.le_succ num)
  unfold relS
  split
  · exact h'
  · split
    · exact h'
    · rename_i ty hty
      split
      · exact h'
      · split
        · exact h'
        · split
          · exact h'
          · split
            · exact h'
            · rename_i n ex _ _ e hw hm hl
              have hz := wholeL_sz hw
              simp at hps
              refine ⟨?_, ?_, ?_⟩
              · rw [relsOf_add hty, List.pairwise_append]
                refine ⟨h.rise, by simp, fun a ha b hb => ?_⟩
                simp at hb
                subst hb
                exact h.lt a ha
              · rw [relsOf_add hty]
                intro r hr
                rcases List.mem_append.1 hr with hr | hr
                · exact h'.lt r hr
                · simp at hr; subst hr; simp
              · rw [relsOf_add hty]
                intro r hr
                rcases List.mem_append.1 hr with hr | hr
                · exact h.sz r hr
                · simp at hr; subst hr; simp; omega
theorem lineS_ln {N : Nat} {st : List Ty} {num : Nat} (h : StLn N st num) (t : List UInt8) (ht : t.length ≤ N) : StLn N (lineS st num t).2 (num + 1) := by
  have hsp := splitL_count 32 t
  unfold lineS
  split
  · exact h.more (Nat.le_succ num)
  · split
    · exact h.more (Nat.le_succ num)
    · rename_i w ps hs
      rw [hs] at hsp
      simp at hsp
      split
      · exact typeS_ln h _
      · split
        · exact relS_ln h _ _ (by omega)
        · split
          · exact relS_ln h _ _ (by omega)
          · exact h.more (Nat.le_succ num)
theorem linesS_ok {N : Nat} : ∀ (ls : List (List UInt8)) (st st' : List Ty) (num : Nat), StOk st → StLn N st num → (∀ l ∈ ls, l.length ≤ N) → linesS st num ls = .inr st' → StOk st' ∧ StLn N st' (num + ls.length)
  | [], st, st', num, h1, h2, _, h => by
    simp only [linesS] at h
    cases h
    exact ⟨h1, h2⟩
  | l :: ls, st, st', num, h1, h2, hN, h => by
    unfold linesS at h
    have a1 := lineS_ok h1 num l
    have a2 := lineS_ln h2 l (hN l (by simp))
    split at h
    · rename_i st2 he
      rw [he] at a1 a2
      have := linesS_ok ls st2 st' (num + 1) a1 a2 (fun l hl => hN l (by simp [hl])) h
      rw [show num + (l :: ls).length = num + 1 + ls.length by simp; omega]
      exact this
    · cases h

/-- what a term names is there, for relation r -/
def knowB (R : List Rl) (r : Rl) : Sing → Bool
  | none => true
  | some (n, none) => R.any (fun q => (q.ty == r.ty) && (q.nm == n))
  | some (v, some t) => R.any (fun q => (q.ty == r.ty) && (q.nm == v)) && R.any (fun q => q.nm == t)

theorem mem_relsOf {st : List Ty} {r : Rl} : r ∈ relsOf st ↔ ∃ ty ∈ st, r ∈ ty.rels := by simp [relsOf, List.mem_flatMap]
theorem ty_eq_of_nm {st : List Ty} (h : StOk st) {a b : Ty} (ha : a ∈ st) (hb : b ∈ st) (e : a.nm = b.nm) : a = b := by
  obtain ⟨i, hi, rfl⟩ := List.getElem_of_mem ha
  obtain ⟨j, hj, rfl⟩ := List.getElem_of_mem hb
  have hij := (List.getElem_inj (xs := st.map (·.nm)) (i := i) (j := j) (h₀ := by simpa using hi) (h₁ := by simpa using hj) h.nodup).1 (by simpa using e)
  subst hij
  rfl
/-- a type's own names, among all relations -/
theorem own_any {st : List Ty} (h : StOk st) {ty : Ty} (hty : ty ∈ st) (n : List UInt8) : (relsOf st).any (fun q => (q.ty == ty.nm) && (q.nm == n)) = decide (n ∈ ty.rels.map (·.nm)) := by
  rw [Bool.eq_iff_iff, List.any_eq_true, decide_eq_true_iff, List.mem_map]
  constructor
  · rintro ⟨q, hq, he⟩
    simp only [Bool.and_eq_true, beq_iff_eq] at he
    obtain ⟨t, ht, hqt⟩ := mem_relsOf.1 hq
    have e : t = ty := ty_eq_of_nm h ht hty (by rw [← (h.rels t ht).2.2 q hqt]; exact he.1)
    subst e
    exact ⟨q, hqt, he.2⟩
  · rintro ⟨q, hq, rfl⟩
    exact ⟨q, mem_relsOf.2 ⟨ty, hty, hq⟩, by simp [(h.rels ty hty).2.2 q hq]⟩
theorem some_any (st : List Ty) (n : List UInt8) : (relsOf st).any (fun q => q.nm == n) = decide (∃ ty ∈ st, n ∈ ty.rels.map (·.nm)) := by
  rw [Bool.eq_iff_iff, List.any_eq_true, decide_eq_true_iff]
  constructor
  · rintro ⟨q, hq, he⟩
    obtain ⟨t, ht, hqt⟩ := mem_relsOf.1 hq
    exact ⟨t, ht, List.mem_map.2 ⟨q, hqt, by simpa using he⟩⟩
  · rintro ⟨t, ht, hn⟩
    obtain ⟨q, hq, rfl⟩ := List.mem_map.1 hn
    exact ⟨q, mem_relsOf.2 ⟨t, ht, hq⟩, by simp⟩

/-- what Schema answers -/
def schemaS (t : List UInt8) : Nat × Nat :=
  if 2000 < t.length then (0, 1) else
  match linesS [] 0 (splitL 10 t) with
  | .inl p => p
  | .inr st =>
    match (relsOf st).find? (unkR (knowB (relsOf st))) with
    | some r => (r.line, 3)
    | none => bif ringB (relsOf st) then ((splitL 10 t).length, 4) else (st.length, 0)
end Go.Proofs.YtlgodpadcilcaaaDoor
