import Derived.Test.YtlgodpadcilcaaaGreatDoorP11
namespace Go.Proofs.YtlgodpadcilcaaaGreatDoor
open Go.ChangeShapes Go.WideShapes Go.ChangeAt Go.RowKit

/-- the single terms of an expression -/
def Exp.leaves : Exp → List Sing
  | ⟨.inl s⟩ => [s]
  | ⟨.inr (_, es)⟩ => leavesL es
where leavesL : List Exp → List Sing
  | [] => []
  | e :: r => Exp.leaves e ++ leavesL r
theorem flat_leaves : ∀ (e : Exp) (ag : Bool), (e.flat ag).map Prod.fst = e.leaves
  | ⟨.inl s⟩, ag => by simp [Exp.flat, Exp.leaves]
  | ⟨.inr (k, es)⟩, ag => by
    simp only [Exp.flat, Exp.leaves]
    exact flat_leavesL es ag k 0
where flat_leavesL : ∀ (es : List Exp) (ag : Bool) (k i : Nat), (Exp.flat.flatL ag k i es).map Prod.fst = Exp.leaves.leavesL es
  | [], ag, k, i => by simp [Exp.flat.flatL, Exp.leaves.leavesL]
  | e :: r, ag, k, i => by
    simp only [Exp.flat.flatL, Exp.leaves.leavesL, List.map_append]
    rw [flat_leaves e, flat_leavesL r]
theorem leavesL_any (F : Sing → Bool) : ∀ es : List Exp, (Exp.leaves.leavesL es).any F = es.any (fun e => e.leaves.any F)
  | [] => rfl
  | e :: r => by simp only [Exp.leaves.leavesL, List.any_append, List.any_cons, leavesL_any F r]
/-- what unknown looks for -/
def unkS (rs : List RR) (ta : Int) : Sing → Bool
  | none => false
  | some (x, none) => !rs.any (relAt ta x)
  | some (x, some t) => !rs.any (relAt ta x) || !rs.any (fun y => y.nm == t)

def UnkOK (n P a : Nat) (N : List NV) (rs : List RR) (ta : Int) : Prop := ∀ (e : Exp) (i : Nat) (w : World), e.sz ≤ n → PlanAt w P N rs → Tree (fun g => g < w.heap.size) w N e i →
  Calls Tryz.prog 21 #[.pointer (some ⟨P, 0, none⟩), .int .i64 (a : Int), .int .i64 (i : Int)] w fun e' w' => e' = .returned (.bool (e.leaves.any (unkS rs ta))) ∧ Below w.heap.size w w'

theorem Tree.keepB {w w' : World} {N : List NV} {e : Exp} {i : Nat} (h : Tree (fun g => g < w.heap.size) w N e i) (hb : Below w.heap.size w w') : Tree (fun g => g < w'.heap.size) w' N e i :=
  Tree.keep (fun _ hg => Nat.lt_of_lt_of_le hg hb.size) (fun g hg => hb.block g hg) (fun _ _ h => h) _ _ h

set_option maxRecDepth 100000 in
set_option maxHeartbeats 8000000 in
theorem unknown_join (n P a i : Nat) (N : List NV) (rs : List RR) (ta : Int) (ih : UnkOK n P a N rs ta) (k : Nat) (es : List Exp) (w : World) (hs : (Exp.join k es).sz ≤ n + 1) (hn : n ≤ 100000) (h : PlanAt w P N rs) (hT : Tree (fun g => g < w.heap.size) w N (.join k es) i) :
    Calls Tryz.prog 21 #[.pointer (some ⟨P, 0, none⟩), .int .i64 (a : Int), .int .i64 (i : Int)] w fun e' w' => e' = .returned (.bool ((Exp.join k es).leaves.any (unkS rs ta))) ∧ Below w.heap.size w w' := by
  have hT0 := hT
  simp only [Tree] at hT
  obtain ⟨g, c, ps, hx, hg, hk, hlen, hrange, hall⟩ := hT
  rw [Tree.all_iff _ _ hlen] at hall
  obtain ⟨G2, cap2, b1, hi, d0, d1, d2, d3⟩ := h.node hx
  simp only at d0 d1 d2 d3
  have hes : ∀ e ∈ es, e.sz ≤ n := fun e he => by have := Exp.szL_mem he; simp only [Exp.sz] at hs; omega
  have hel : es.length ≤ n := by have := Exp.szL_len es; simp only [Exp.sz] at hs; omega
  have hsg : sgn k = 124 ∨ sgn k = 38 ∨ sgn k = 45 := by rcases hk with rfl | rfl | ⟨rfl, _⟩ <;> simp [sgn]
  have HRes : Hid ((Exp.join k es).leaves.any (unkS rs ta) = es.any (fun e => e.leaves.any (unkS rs ta))) := by show _ = _; simp only [Exp.leaves]; exact leavesL_any _ es
  obtain ⟨sg, hsge⟩ : ∃ sg, sgn k = sg := ⟨_, rfl⟩
  rw [hsge] at d0 hsg
  clear hsge
  have hc5 : ¬ sg = 110 := by omega
  have hc6 : ¬ sg = 46 := by omega
  have hq5 : (sg == 110) = false := by rw [beq_eq_false_iff_ne]; exact hc5
  have hq6 : (sg == 46) = false := by rw [beq_eq_false_iff_ne]; exact hc6
  obtain ⟨W, hW⟩ : ∃ W, w.alloc (.cells #[.int .u8 sg, .string ⟨#[]⟩, .string ⟨#[]⟩, .slice (some ⟨g, 0, none⟩) es.length c] 124) = W := ⟨_, rfl⟩
  have hb : Below w.heap.size w W := by rw [← hW]; exact (Below.refl _ _).alloc (Nat.le_refl _) _
  have hWs : w.heap.size < W.heap.size := by rw [← hW]; simp
  have e3 : W.cell? ⟨w.heap.size, 3, none⟩ = some (.slice (some ⟨g, 0, none⟩) es.length c) := by rw [← hW]; exact World.cell?_alloc_new ..
  have HE3 : Hid (∀ wr, Below W.heap.size W wr → wr.cell? ⟨w.heap.size, 3, none⟩ = some (.slice (some ⟨g, 0, none⟩) es.length c)) := fun wr hbr => by
    rw [hbr.cell (p := ⟨w.heap.size, 3, none⟩) hWs]; exact e3
  have HP : Hid (∀ wr, Below W.heap.size W wr → ∀ j (hj : j < ps.length), wr.cell? ⟨g, j, none⟩ = some (.int .i64 (ps[j] : Int))) := fun wr hbr j hj => by
    have hbw : Below w.heap.size w wr := hb.trans (hbr.mono hb.size)
    rw [hbw.cell (p := ⟨g, j, none⟩) hg]
    have := hrange j (.int .i64 (ps[j] : Int)) (by rw [List.getElem?_map, List.getElem?_eq_getElem hj]; rfl)
    rw [Nat.zero_add] at this
    exact this
  have HI : Hid (∀ wr, Below W.heap.size W wr → ∀ j (hj : j < ps.length) (hj' : j < es.length), Calls Tryz.prog 21 #[.pointer (some ⟨P, 0, none⟩), .int .i64 (a : Int), .int .i64 (ps[j] : Int)] wr fun e' w' => e' = .returned (.bool (es[j].leaves.any (unkS rs ta))) ∧ Below wr.heap.size wr w') := fun wr hbr j hj hj' => by
    have hbw : Below w.heap.size w wr := hb.trans (hbr.mono hb.size)
    exact ih es[j] ps[j] wr (hes _ (List.getElem_mem _)) (h.below hbw) ((hall j hj' hj).keepB hbw)
  have HBW : Hid (∀ wr, Below W.heap.size W wr → Below w.heap.size w wr) := fun wr hbr => hb.trans (hbr.mono hb.size)
  have HW : Hid _ := hW
  have HLN : Hid (ps.length = es.length) := hlen
  clear hW hx hall hrange hT0 hes hk hs h ih hb e3 hsg
  obtain ⟨el, hle⟩ : ∃ el, es.length = el := ⟨_, rfl⟩
  have HEL : Hid (es.length = el) := hle
  rw [hle] at d3 HE3 hel HW
  clear hle
  generalize N.length = nl at *
  go_enter Tryz.func21, Tryz.ntmps21
  go_wp2
  rw [HW.out]
  go_loopw [11] (fun s11 wr => ∃ j : Nat, j ≤ el ∧ s11 = .int .i64 (j : Int) ∧ Hid (Below W.heap.size W wr) ∧ Hid ((es.take j).any (fun e => e.leaves.any (unkS rs ta)) = false)) (fun s11 _ => el - (intOf s11).toNat)
  case atStart => exact ⟨0, Nat.zero_le _, rfl, Below.refl _ _, by show _ = _; simp⟩
  case round =>
    obtain ⟨j, hj, rfl, HBr, HNo⟩ := hrel
    have e3 := HE3.out wr HBr.out
    by_cases hlt : j < el
    · have hje : j < es.length := by have := HEL.out; omega
      have hjp : j < ps.length := by have := HLN.out; omega
      have cp := HP.out wr HBr.out j hjp
      have hI := HI.out wr HBr.out j hjp hje
      have HTk : Hid ((es.take (j + 1)).any (fun e => e.leaves.any (unkS rs ta)) = es[j].leaves.any (unkS rs ta)) := by
        show _ = _
        rw [List.take_succ_eq_append_getElem hje, List.any_append, HNo.out]; simp
      have HYes : Hid (es[j].leaves.any (unkS rs ta) = true → es.any (fun e => e.leaves.any (unkS rs ta)) = true) := fun hy => List.any_eq_true.2 ⟨es[j], List.getElem_mem _, hy⟩
      generalize ps[j] = pj at *
      generalize es[j].leaves.any (unkS rs ta) = q at *
      clear HNo HP HI
      cases q with
      | true =>
        go_wp2_with (go_at_call 21; refine hI.mono ?_; rintro e w' ⟨rfl, hb2⟩)
        go_ret
        refine ⟨by rw [HRes.out, HYes.out (by simp)]; rfl, ?_⟩
        exact HBW.out _ (HBr.out.trans (hb2.mono HBr.out.size))
      | false =>
        go_wp2_with (go_at_call 21; refine hI.mono ?_; rintro e w' ⟨rfl, hb2⟩)
        go_roundw
        case rel => exact ⟨j + 1, by omega, by go_num, HBr.out.trans (hb2.mono HBr.out.size), HTk.out⟩
        case measure => simp [intOf]; omega
    · have hje : j = es.length := by have := HEL.out; omega
      have HF : Hid ((Exp.join k es).leaves.any (unkS rs ta) = false) := by
        show _ = _
        rw [HRes.out, ← HNo.out, hje, List.take_length]
      clear HNo HP HI HRes
      go_wp2
      go_ret
      exact ⟨by rw [HF.out]; rfl, HBW.out _ HBr.out⟩

theorem unknown_all (P a : Nat) (N : List NV) (rs : List RR) (ha : a < rs.length) (hl : rs.length ≤ 1000000) : ∀ n, n ≤ 100001 → UnkOK n P a N rs (rs[a].ty : Int)
  | 0, _ => fun e i w hs _ _ => absurd e.sz_pos (by omega)
  | n + 1, hn => fun e i w hs h hT => by
    cases e using Exp.kind with
    | leaf s =>
      cases s using Sing.kind with
      | self =>
        simp only [Tree] at hT
        exact unknown_self P a i N rs w h hT
      | name x =>
        simp only [Tree] at hT
        have := unknown_name P a i N rs x w h ha hl hT
        simpa [Exp.leaves, unkS] using this
      | via x t =>
        simp only [Tree] at hT
        have := unknown_via P a i N rs x t w h ha hl hT
        simpa [Exp.leaves, unkS] using this
    | join k es => exact unknown_join n P a i N rs _ (unknown_all P a N rs ha hl n (by omega)) k es w hs (by omega) h hT

/-- of relation a of the plan: does it name what there is not? -/
theorem unkS_know {w : World} {P : Nat} {tb rb nb : Option Nat} {N : List NV} {rs : List RR} {st : List Ty} (h : PlanRep w P tb rb nb N rs st) (hok : StOk st) (a : Nat) (ha : a < rs.length) (ha' : a < (relsOf st).length) : (relsOf st)[a].ex.leaves.any (unkS rs (rs[a].ty : Int)) = unkR (knowB (relsOf st)) (relsOf st)[a] := by
  have hS : ∀ s, unkS rs (rs[a].ty : Int) s = !knowB (relsOf st) (relsOf st)[a] s := fun s => by
    cases s using Sing.kind with
    | self => rfl
    | name x => simp only [unkS, knowB]; rw [any_ty h hok a ha ha']
    | via x t => simp only [unkS, knowB]; rw [any_ty h hok a ha ha', any_nm h, Bool.not_and]
  unfold unkR
  rw [← flat_leaves _ false, List.any_map]
  congr 1
  funext p
  exact hS p.1
end Go.Proofs.YtlgodpadcilcaaaGreatDoor
namespace Go.Proofs.YtlgodpadcilcaaaGreatDoor
open Go.ChangeShapes Go.WideShapes Go.ChangeAt Go.RowKit

/-- how strong the hanging is: 0 none, 1 it is, 2 against its will -/
def hg1 (f : Sing → Bool) (p : Sing × Bool) : Nat := if f p.1 then (if p.2 then 2 else 1) else 0
def hgL (f : Sing → Bool) (ts : List (Sing × Bool)) : Nat := ts.foldl (fun m p => max m (hg1 f p)) 0
theorem hgL_acc (f : Sing → Bool) : ∀ (ts : List (Sing × Bool)) (m : Nat), ts.foldl (fun m p => max m (hg1 f p)) m = max m (hgL f ts)
  | [], m => by simp [hgL]
  | p :: ts, m => by
    unfold hgL
    rw [List.foldl_cons, List.foldl_cons, hgL_acc f ts, hgL_acc f ts (max 0 _)]
    omega
theorem hgL_append (f : Sing → Bool) (a b : List (Sing × Bool)) : hgL f (a ++ b) = max (hgL f a) (hgL f b) := by
  conv => lhs; unfold hgL
  rw [List.foldl_append, hgL_acc]
  rfl
theorem hgL_le (f : Sing → Bool) : ∀ ts : List (Sing × Bool), hgL f ts ≤ 2
  | [] => by simp [hgL]
  | p :: ts => by
    have h := hgL_le f ts
    have e := hgL_append f [p] ts
    rw [List.singleton_append] at e
    have h1 : hgL f [p] ≤ 2 := by
      simp only [hgL, List.foldl_cons, List.foldl_nil, hg1]
      split <;> (try split) <;> simp
    omega
theorem hgL_pos (f : Sing → Bool) : ∀ ts : List (Sing × Bool), (decide (0 < hgL f ts)) = ts.any (fun p => f p.1)
  | [] => by simp [hgL]
  | p :: ts => by
    have h := hgL_pos f ts
    have e := hgL_append f [p] ts
    rw [List.singleton_append] at e
    rw [e, List.any_cons, ← h]
    have h1 : hgL f [p] = hg1 f p := by simp [hgL]
    rw [h1]
    unfold hg1
    cases f p.1 <;> cases p.2 <;> simp <;> omega
theorem hgL_two (f : Sing → Bool) : ∀ ts : List (Sing × Bool), (decide (hgL f ts = 2)) = ts.any (fun p => p.2 && f p.1)
  | [] => by simp [hgL]
  | p :: ts => by
    have h := hgL_two f ts
    have hle := hgL_le f ts
    have e := hgL_append f [p] ts
    rw [List.singleton_append] at e
    rw [e, List.any_cons, ← h]
    have h1 : hgL f [p] = hg1 f p := by simp [hgL]
    rw [h1]
    unfold hg1
    cases f p.1 <;> cases p.2 <;> simp <;> omega

/-- by what a term makes relation a hang on relation b -/
def leadsR (x y : RR) : Sing → Bool
  | none => y.set
  | some (v, none) => ((y.ty : Int) == (x.ty : Int)) && (y.nm == v)
  | some (_, some t) => y.nm == t

end Go.Proofs.YtlgodpadcilcaaaGreatDoor
