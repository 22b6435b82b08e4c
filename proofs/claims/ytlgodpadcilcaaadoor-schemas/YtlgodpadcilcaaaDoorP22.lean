import Derived.Test.YtlgodpadcilcaaaDoorP21
namespace Go.Proofs.YtlgodpadcilcaaaDoor
open Go.ChangeShapes Go.WideShapes Go.ChangeAt Go.RowKit

/-- the bytes of the first i lines, with their ends -/
def used (ls : List (List UInt8)) (i : Nat) : Nat := ((ls.take i).map (fun l => l.length + 1)).sum
theorem used_next {ls : List (List UInt8)} {i : Nat} (h : i < ls.length) : used ls (i + 1) = used ls i + (ls[i].length + 1) := by
  unfold used
  rw [List.take_succ_eq_append_getElem h, List.map_append, List.sum_append]
  simp
theorem used_le (ls : List (List UInt8)) (i : Nat) : used ls i ≤ (ls.map (fun l => l.length + 1)).sum := by
  have e : (ls.map (fun l => l.length + 1)).sum = used ls i + ((ls.drop i).map (fun l => l.length + 1)).sum := by
    unfold used
    rw [← List.sum_append, ← List.map_append, List.take_append_drop]
  omega
theorem splitL_sum (c : UInt8) : ∀ l : List UInt8, ((splitL c l).map (fun l => l.length + 1)).sum = l.length + 1
  | [] => by simp [splitL]
  | b :: r => by
    have ih := splitL_sum c r
    unfold splitL
    split
    · rw [List.map_cons, List.sum_cons, ih]
      simp
      omega
    · split
      · rename_i h; exact absurd h (splitL_ne _ _)
      · rename_i h t e
        rw [e, List.map_cons, List.sum_cons] at ih
        rw [List.map_cons, List.sum_cons]
        simp only [List.length_cons]
        omega

theorem PlanRep.empty {w : World} {P t : Nat} (hP : w.heap[P]? = some (.cells #[.slice none 0 0, .slice none 0 0, .slice none 0 0, .slice none 0 0, .slice none 0 0] t)) : PlanRep w P none none none [] [] [] := by
  have lP : P < w.heap.size := by
    rcases Nat.lt_or_ge P w.heap.size with h | h
    · exact h
    · rw [Array.getElem?_eq_none h] at hP; cases hP
  refine ⟨⟨.slice none 0 0, by simp [World.cell?, hP], ⟨rfl, .inl ⟨rfl, rfl⟩⟩, rfl⟩, ⟨.slice none 0 0, by simp [World.cell?, hP], ⟨rfl, .inl ⟨rfl, rfl⟩⟩, rfl⟩, ⟨⟨.slice none 0 0, by simp [World.cell?, hP], ⟨rfl, .inl ⟨rfl, rfl⟩⟩, rfl⟩, by simp, by simp [World.frozen?, hP]⟩, by simp [World.cell?, hP], by simp [World.cell?, hP], fun j => by simp [World.frozen?, hP], by simp [planM], by simp [planM, lP], by simp [relsOf], by simp⟩

/-- what the loop over lines keeps -/
structure RdI (w0 : World) (B : Nat) (ls : List (List UInt8)) (G P i : Nat) (st : List Ty) (tb rb nb : Option Nat) (N : List NV) (rs : List RR) (wr : World) : Prop where
  lines : linesS [] 0 ls = linesS st i (ls.drop i)
  ok : StOk st
  ln : StLn 10000 st i
  rep : PlanRep wr P tb rb nb N rs st
  nlen : N.length ≤ used ls i
  cells : ∀ j (h : j < ls.length), wr.cell? ⟨G, j, none⟩ = some (strV ls[j])
  out : G ∉ planM P tb rb nb
  lt : G < wr.heap.size
  low : ∀ g ∈ planM P tb rb nb, B ≤ g
  below : Below B w0 wr
theorem RdI.frame {w0 : World} {B : Nat} {ls : List (List UInt8)} {G P i : Nat} {st : List Ty} {tb rb nb : Option Nat} {N : List NV} {rs : List RR} {wr w' : World} (h : RdI w0 B ls G P i st tb rb nb N rs wr) (hb : ButM (planM P tb rb nb) wr w') : Below B w0 w' :=
  ⟨hb.os.trans h.below.os, hb.tape.trans h.below.tape, hb.output.trans h.below.output, Nat.le_trans h.below.size hb.size, fun k hk => (hb.block k (by have := h.low P planM_P; have := h.rep.lt P planM_P; omega) (fun hm => by have := h.low k hm; omega)).trans (h.below.block k hk)⟩
theorem RdI.next {w0 : World} {B : Nat} {ls : List (List UInt8)} {G P i : Nat} {st : List Ty} {tb rb nb : Option Nat} {N : List NV} {rs : List RR} {wr w' : World} {e : Ending} (h : RdI w0 B ls G P i st tb rb nb N rs wr) (hi : i < ls.length) (hl : ls[i].length ≤ 10000) (h0 : (lineS st i ls[i]).1 = 0) (hA : RLAns wr P tb rb nb N (ls[i].length + 1) (lineS st i ls[i]) e w') :
    ∃ st' tb' rb' nb' N' rs', RdI w0 B ls G P (i + 1) st' tb' rb' nb' N' rs' w' := by
  obtain ⟨_, hfr, hx⟩ := hA
  obtain ⟨tb', rb', nb', N', rs', hp, hN, hb, hg⟩ := hx h0
  refine ⟨(lineS st i ls[i]).2, tb', rb', nb', N ++ N', rs', linesS_next h.lines hi h0, lineS_ok h.ok i _, lineS_ln h.ln _ hl, hp, ?_, fun j hj => ?_, fun hm => ?_, ?_, fun g hm => ?_, h.frame hfr⟩
  · rw [used_next hi]; have := h.nlen; simp only [List.length_append]; omega
  · rw [World.cell?_of_block (w := wr) (a := ⟨G, j, none⟩) (hb.block G h.lt h.out)]
    exact h.cells j hj
  · rcases hg G hm with h1 | h1
    · exact h.out h1
    · have := h.lt; omega
  · have := h.lt; have := hb.size; omega
  · rcases hg g hm with h1 | h1
    · exact h.low g h1
    · have := h.low P planM_P; have := h.rep.lt P planM_P; omega

/-- but for the plan's cell 3 and for new blocks, all is as it was in V -/
structure RdV (V : World) (P : Nat) (wr : World) : Prop where
  os : wr.os = V.os
  tape : wr.tape = V.tape
  output : wr.output = V.output
  size : V.heap.size ≤ wr.heap.size
  block : ∀ k, k < V.heap.size → k ≠ P → wr.heap[k]? = V.heap[k]?
  cells : ∀ j, j ≠ 3 → wr.cell? ⟨P, j, none⟩ = V.cell? ⟨P, j, none⟩
  frz : ∀ j, wr.frozen? ⟨P, j, none⟩ = V.frozen? ⟨P, j, none⟩
/-- .. and for cell 4 -/
structure RdZ (V : World) (P : Nat) (wr : World) : Prop where
  os : wr.os = V.os
  tape : wr.tape = V.tape
  output : wr.output = V.output
  size : V.heap.size ≤ wr.heap.size
  block : ∀ k, k < V.heap.size → k ≠ P → wr.heap[k]? = V.heap[k]?
  cells : ∀ j, j ≠ 3 → j ≠ 4 → wr.cell? ⟨P, j, none⟩ = V.cell? ⟨P, j, none⟩
theorem RdV.refl (V : World) (P : Nat) : RdV V P V := ⟨rfl, rfl, rfl, Nat.le_refl _, fun _ _ _ => rfl, fun _ _ => rfl, fun _ => rfl⟩
theorem RdV.step {V wr w' : World} {P : Nat} (h : RdV V P wr) (hP : P < V.heap.size) (h1 : w'.os = wr.os) (h2 : w'.tape = wr.tape) (h3 : w'.output = wr.output) (hs : V.heap.size ≤ w'.heap.size) (hb : ∀ k, k < V.heap.size → w'.heap[k]? = wr.heap[k]?) : RdV V P w' :=
  ⟨h1.trans h.os, h2.trans h.tape, h3.trans h.output, hs, fun k hk hn => (hb k hk).trans (h.block k hk hn), fun j h3 => (World.cell?_of_block (w := wr) (a := ⟨P, j, none⟩) (hb P hP)).trans (h.cells j h3), fun j => (World.frozen?_of_block (w := wr) (a := ⟨P, j, none⟩) (hb P hP)).trans (h.frz j)⟩
theorem RdV.below {V wr w' : World} {P : Nat} (h : RdV V P wr) (hP : P < V.heap.size) (hb : Below wr.heap.size wr w') : RdV V P w' :=
  h.step hP hb.os hb.tape hb.output (Nat.le_trans h.size hb.size) (fun k hk => hb.block k (by have := h.size; omega))
theorem RdV.set {V wr : World} {P : Nat} (h : RdV V P wr) (x : Value) : RdV V P (wr.setCell ⟨P, 3, none⟩ x) :=
  ⟨h.os, h.tape, h.output, by rw [World.size_setCell]; exact h.size, fun k hk hn => (Below.heap_setCell _ _ _ _ hn).trans (h.block k hk hn), fun i h3 => by
    rw [World.cell?_setCell_other _ _ _ _ (by intro e; cases e; omega)]; exact h.cells i h3, fun i => by rw [World.frozen?_setCell]; exact h.frz i⟩
theorem RdV.fin {V wr : World} {P : Nat} (h : RdV V P wr) (x : Value) : RdZ V P (wr.setCell ⟨P, 4, none⟩ x) :=
  ⟨h.os, h.tape, h.output, by rw [World.size_setCell]; exact h.size, fun k hk hn => (Below.heap_setCell _ _ _ _ hn).trans (h.block k hk hn), fun i h3 h4 => by
    rw [World.cell?_setCell_other _ _ _ _ (by intro e; cases e; omega)]; exact h.cells i h3⟩
theorem RdV.total {V wr w0 : World} {P B : Nat} (h : RdV V P wr) (hb : Below B w0 V) (hB : B ≤ P) (hP : P < V.heap.size) : Below B w0 wr :=
  ⟨h.os.trans hb.os, h.tape.trans hb.tape, h.output.trans hb.output, Nat.le_trans hb.size h.size, fun k hk => (h.block k (by omega) (by omega)).trans (hb.block k hk)⟩
theorem RdZ.total {V wr w0 : World} {P B : Nat} (h : RdZ V P wr) (hb : Below B w0 V) (hB : B ≤ P) (hP : P < V.heap.size) : Below B w0 wr :=
  ⟨h.os.trans hb.os, h.tape.trans hb.tape, h.output.trans hb.output, Nat.le_trans hb.size h.size, fun k hk => (h.block k (by omega) (by omega)).trans (hb.block k hk)⟩
theorem RdV.cell {V wr : World} {P : Nat} (h : RdV V P wr) {k : Nat} (hk : k < V.heap.size) (hn : k ≠ P) (j : Nat) : wr.cell? ⟨k, j, none⟩ = V.cell? ⟨k, j, none⟩ :=
  World.cell?_of_block (w := V) (a := ⟨k, j, none⟩) (h.block k hk hn)

theorem Tree.some {S : Nat → Prop} {w : World} {N : List NV} {e : Exp} {i : Nat} (h : Tree S w N e i) : i < N.length := by
  cases e using Exp.kind with
  | leaf s =>
    cases s using Sing.kind <;> (simp only [Tree] at h; exact (List.getElem?_eq_some_iff.1 h).1)
  | join k es =>
    simp only [Tree] at h
    obtain ⟨g, c, ps, h1, _⟩ := h
    exact (List.getElem?_eq_some_iff.1 h1).1

theorem PlanRep.form1 {V : World} {P : Nat} {tb rb nb : Option Nat} {N : List NV} {rs : List RR} {st : List Ty} (h : PlanRep V P tb rb nb N rs st) :
    ∃ p1 c1, V.cell? ⟨P, 1, none⟩ = some (.slice p1 rs.length c1) ∧ ∀ a (ha : a < rs.length), ∃ G, p1 = some ⟨G, 0, none⟩ ∧ G ≠ P ∧ G < V.heap.size ∧ V.cell? ⟨G, a * 5 + 3, none⟩ = some (.int .i64 (rs[a].top : Int)) ∧ V.cell? ⟨G, a * 5 + 4, none⟩ = some (.int .i64 (rs[a].line : Int)) := by
  obtain ⟨v, h1, h2, h3⟩ := h.rels
  rcases h2.2 with ⟨e, h0⟩ | ⟨g, cap', cur, e, _⟩
  · subst e
    rw [← h0] at h1
    exact ⟨_, _, h1, fun a ha => by omega⟩
  · subst e
    refine ⟨_, _, h1, fun a ha => ⟨g, rfl, fun e => ?_, h.lt g (planM_r (by rw [← h3]; rfl)), ?_, ?_⟩⟩
    · have hn := h.nodup
      have : rb = some g := by rw [← h3]; rfl
      subst this
      subst e
      simp [planM] at hn
    · rw [RowRR.cell h2 a ha 3 (by decide)]; rfl
    · rw [RowRR.cell h2 a ha 4 (by decide)]; rfl
theorem PlanRep.form0 {V : World} {P : Nat} {tb rb nb : Option Nat} {N : List NV} {rs : List RR} {st : List Ty} (h : PlanRep V P tb rb nb N rs st) : ∃ p0 c0, V.cell? ⟨P, 0, none⟩ = some (.slice p0 st.length c0) := by
  obtain ⟨v, h1, h2, h3⟩ := h.types
  rw [List.length_map] at h2
  rcases h2.2 with ⟨e, h0⟩ | ⟨g, cap', cur, e, _⟩
  · subst e
    rw [h0]
    exact ⟨_, _, h1⟩
  · subst e
    exact ⟨_, _, h1⟩
theorem RdV.plan {V wr : World} {P : Nat} {tb rb nb : Option Nat} {N : List NV} {rs : List RR} {st : List Ty} (h : RdV V P wr) (hp : PlanRep V P tb rb nb N rs st) (a : Nat) (ha : a < rs.length) (ha' : a < (relsOf st).length) :
    PlanAt wr P N rs ∧ Tree (fun g => g < wr.heap.size) wr N (relsOf st)[a].ex rs[a].top := by
  obtain ⟨_, _, _, _, hT⟩ := hp.ok a ha ha'
  have hs := h.size
  have hnd := hp.nodup
  refine ⟨?_, Tree.keep (fun g hg => by omega) (fun g hg => h.block g hg.1 (fun e => hg.2 (by rw [e]; exact planM_P))) (fun _ _ h => h) _ _ hT⟩
  have hN : 0 < N.length := by have := hT.some; omega
  have hA := hp.at (by omega) hN
  obtain ⟨v1, r1, r2, r3⟩ := hp.rels
  obtain ⟨v2, n1, n2, n3⟩ := hp.nodes.row
  have hP := hA.lt
  obtain ⟨G1, c1, a1, a2, a3⟩ := hA.c1
  obtain ⟨G2, c2, b1, b2, b3⟩ := hA.c2
  have hne1 : G1 ≠ P := fun e => by
    rw [a1] at r1; cases r1
    have : rb = some G1 := by rw [← r3]; rfl
    subst this; subst e
    simp [planM] at hnd
  have hne2 : G2 ≠ P := fun e => by
    rw [b1] at n1; cases n1
    have : nb = some G2 := by rw [← n3]; rfl
    subst this; subst e
    simp [planM] at hnd
  exact ⟨by omega, ⟨G1, c1, by rw [h.cells 1 (by decide)]; exact a1, by omega, owns_same a3 (fun g hg => by cases hg; exact h.block G1 a2 hne1)⟩, ⟨G2, c2, by rw [h.cells 2 (by decide)]; exact b1, by omega, owns_same b3 (fun g hg => by cases hg; exact h.block G2 b2 hne2)⟩⟩

theorem rels_few {st : List Ty} (hok : StOk st) : (relsOf st).length ≤ 36 := by
  have h1 : ∀ l : List Ty, (∀ z ∈ l, z ∈ st) → (relsOf l).length ≤ 6 * l.length := by
    intro l
    induction l with
    | nil => intro _; simp [relsOf]
    | cons z l ih =>
      intro hm
      have h2 := ih (fun y hy => hm y (by simp [hy]))
      have h4 := (hok.rels z (hm z (by simp))).1
      simp only [relsOf, List.flatMap_cons, List.length_append, List.length_cons] at h2 ⊢
      omega
  have h2 := h1 st (fun z hz => hz)
  have h4 := hok.few
  omega

/-- unknown, as Read calls it -/
theorem rd_unknown {V wr : World} {P : Nat} {tb rb nb : Option Nat} {N : List NV} {rs : List RR} {st : List Ty} {num : Nat} (h : RdV V P wr) (hp : PlanRep V P tb rb nb N rs st) (hok : StOk st) (hln : StLn 10000 st num) (a : Nat) (ha : a < rs.length) (ha' : a < (relsOf st).length) :
    Calls Tryd.prog 17 #[.pointer (some ⟨P, 0, none⟩), .int .i64 (a : Int), .int .i64 (rs[a].top : Int)] wr fun e w' => e = .returned (.bool (unkR (knowB (relsOf st)) (relsOf st)[a])) ∧ Below wr.heap.size wr w' := by
  obtain ⟨hA, hT⟩ := h.plan hp a ha ha'
  have := unknown_all P a N rs ha (by have := rels_few hok; have := hp.len; omega) 10000 (by omega) (relsOf st)[a].ex rs[a].top wr (hln.sz _ (List.getElem_mem _)) hA hT
  rw [unkS_know hp hok a ha ha'] at this
  exact this

/-- how relation a hangs on b, as the reference has it: 0, 1 or 2 -/
def willT (rs : List RR) (R : List Rl) (a b : Nat) : Nat :=
  match rs[a]?, rs[b]?, R[a]? with
  | some x, some y, some r => hgL (leadsR x y) (r.ex.flat false)
  | _, _, _ => 0
theorem willT_eq {rs : List RR} {R : List Rl} {a b : Nat} (ha : a < rs.length) (hb : b < rs.length) (ha' : a < R.length) : willT rs R a b = hgL (leadsR rs[a] rs[b]) (R[a].ex.flat false) := by
  unfold willT
  rw [List.getElem?_eq_getElem ha, List.getElem?_eq_getElem hb, List.getElem?_eq_getElem ha']
theorem rd_hangs {V wr : World} {P : Nat} {tb rb nb : Option Nat} {N : List NV} {rs : List RR} {st : List Ty} {num : Nat} (h : RdV V P wr) (hp : PlanRep V P tb rb nb N rs st) (hln : StLn 10000 st num) (a b : Nat) (ha : a < rs.length) (hb : b < rs.length) :
    Calls Tryd.prog 18 #[.pointer (some ⟨P, 0, none⟩), .int .i64 (a : Int), .int .i64 (rs[a].top : Int), .int .i64 (b : Int), .bool false] wr fun e w' => e = .returned (.int .i64 ((willT rs (relsOf st) a b : Nat) : Int)) ∧ Below wr.heap.size wr w' := by
  have ha' : a < (relsOf st).length := by have := hp.len; omega
  obtain ⟨hA, hT⟩ := h.plan hp a ha ha'
  have := hangs_all P a b N rs ha hb 10000 (by omega) (relsOf st)[a].ex false rs[a].top wr (hln.sz _ (List.getElem_mem _)) hA hT
  rw [willT_eq ha hb ha']
  exact this
theorem will_at {V : World} {P : Nat} {tb rb nb : Option Nat} {N : List NV} {rs : List RR} {st : List Ty} (hp : PlanRep V P tb rb nb N rs st) (hok : StOk st) {a b : Nat} (ha : a < rs.length) (hb : b < rs.length) (ha' : a < (relsOf st).length) (hb' : b < (relsOf st).length) :
    decide (0 < willT rs (relsOf st) a b) = hangB (relsOf st)[a] (relsOf st)[b] ∧ decide (willT rs (relsOf st) a b = 2) = agB (relsOf st)[a] (relsOf st)[b] := by
  rw [willT_eq ha hb ha']
  exact hangs_will hp hok a b ha hb ha' hb'
theorem will_fw {V : World} {P : Nat} {tb rb nb : Option Nat} {N : List NV} {rs : List RR} {st : List Ty} (hp : PlanRep V P tb rb nb N rs st) (hok : StOk st) : Fw (InM (relsOf st)) rs.length 0 (fun i j => decide (0 < willT rs (relsOf st) i j)) := by
  have hl := hp.len
  refine ⟨fun a b ha hb hx => .single ?_, fun a b ha hb hw => ?_⟩
  · have hx' := (will_at hp hok ha hb (by omega) (by omega)).1.symm.trans hx
    exact ⟨_, _, List.getElem?_eq_getElem (by omega), List.getElem?_eq_getElem (by omega), hx'⟩
  · obtain ⟨x, y, h1, h2, h3⟩ := hw.zero
    rw [List.getElem?_eq_getElem (by omega)] at h1 h2
    cases h1; cases h2
    exact (will_at hp hok ha hb (by omega) (by omega)).1.trans h3
theorem will_ring {V : World} {P : Nat} {tb rb nb : Option Nat} {N : List NV} {rs : List RR} {st : List Ty} (hp : PlanRep V P tb rb nb N rs st) (hok : StOk st) {X : Nat → Nat → Bool} (hF : Fw (InM (relsOf st)) rs.length rs.length X) :
    (∃ a, a < rs.length ∧ ∃ b, b < rs.length ∧ willT rs (relsOf st) a b = 2 ∧ (a = b ∨ X b a = true)) ↔ ringP (relsOf st) := by
  have hl := hp.len
  rw [← ring_table (by omega) hF]
  constructor
  · rintro ⟨a, ha, b, hb, h1, h2⟩
    have hag : agB (relsOf st)[a] (relsOf st)[b] = true := by rw [← (will_at hp hok ha hb (by omega) (by omega)).2]; exact decide_eq_true h1
    refine ⟨a, b, _, _, List.getElem?_eq_getElem (by omega), List.getElem?_eq_getElem (by omega), hag, ?_⟩
    rcases h2 with rfl | h2
    · exact hF.full a a ha ha (.one ⟨_, _, List.getElem?_eq_getElem (by omega), List.getElem?_eq_getElem (by omega), agB_hangB hag⟩)
    · exact h2
  · rintro ⟨a, b, x, y, h1, h2, h3, h4⟩
    have ha := (List.getElem?_eq_some_iff.1 h1).1
    have hb := (List.getElem?_eq_some_iff.1 h2).1
    rw [List.getElem?_eq_getElem ha] at h1
    rw [List.getElem?_eq_getElem hb] at h2
    cases h1; cases h2
    rw [← (will_at hp hok (by omega) (by omega) ha hb).2] at h3
    exact ⟨a, by omega, b, by omega, of_decide_eq_true h3, .inr h4⟩
theorem find_at {α : Type} {p : α → Bool} {l : List α} {a : Nat} (ha : a < l.length) (h : ∀ j (hj : j < l.length), j < a → p l[j] = false) (h1 : p l[a] = true) : l.find? p = some l[a] := by
  rw [List.find?_eq_some_iff_getElem]
  exact ⟨h1, a, ha, rfl, fun j hj => by rw [h j (by omega) hj]; rfl⟩
theorem find_no {α : Type} {p : α → Bool} {l : List α} (h : ∀ j (hj : j < l.length), p l[j] = false) : l.find? p = none := by
  rw [List.find?_eq_none]
  intro x hx
  obtain ⟨j, hj, rfl⟩ := List.getElem_of_mem hx
  rw [h j hj]
  decide

/-- what the loop that builds the plan's Will keeps -/
structure RdW (V : World) (P n : Nat) (Wl : Nat → Nat → Nat) (a : Nat) (wr : World) : Prop where
  base : RdV V P wr
  will : ∃ v Rs, wr.cell? ⟨P, 3, none⟩ = some v ∧ Rs.length = a ∧ Tab2 wr V.heap.size 60 3 v Rs n (fun i j => .int .i64 (Wl i j : Nat))
theorem RdW.below {V wr w' : World} {P n a : Nat} {Wl : Nat → Nat → Nat} (h : RdW V P n Wl a wr) (hP : P < V.heap.size) (hb : Below wr.heap.size wr w') : RdW V P n Wl a w' := by
  obtain ⟨v, Rs, h1, h2, h3⟩ := h.will
  exact ⟨h.base.below hP hb, v, Rs, by rw [hb.cell (p := ⟨P, 3, none⟩) (by have := h.base.size; show P < _; omega)]; exact h1, h2, h3.below hb⟩
/-- a row more -/
theorem RdW.add {V U q w4 : World} {P n a g4 cap4 : Nat} {v : Value} {Rs : List Nat} {Wl : Nat → Nat → Nat} (hP : P < V.heap.size) (hV : RdV V P U) (hRl : Rs.length = a) (hT : Tab2 U V.heap.size 60 3 v Rs n (fun i j => .int .i64 (Wl i j : Nat))) (hc : U.cell? ⟨P, 3, none⟩ = some v)
    (hb : Below U.heap.size U q) (hr : q.rowIs U.heap.size 3 n (fun j => .int .i64 (Wl a j : Nat))) {o : Obj} (hg : (q.alloc o).grownBy w4 v.ownBlock)
    (hown : w4.ownsRow V.heap.size 60 1 (.slice (some ⟨g4, 0, none⟩) (a + 1) cap4) (a + 1) (Rs.map (fun r => .slice (some ⟨r, 0, none⟩) n n) ++ [.slice (some ⟨U.heap.size, 0, none⟩) n n])) (hat : v.ownBlock = some g4 ∨ q.heap.size + 1 ≤ g4) :
    RdW V P n Wl (a + 1) (w4.setCell ⟨P, 3, none⟩ (.slice (some ⟨g4, 0, none⟩) (a + 1) cap4)) := by
  subst hRl
  have hs := hV.size
  have hs2 := hb.size
  have hs4 : q.heap.size + 1 ≤ w4.heap.size := by have := hg.size; simpa using this
  have hTq := hT.below hb
  have hgB : ∀ k, k < q.heap.size → v.ownBlock ≠ some k → w4.heap[k]? = q.heap[k]? := fun k hk hne => (hg.block k (by simp; omega) (fun hm => hne hm.symm)).trans (Below.heap_alloc _ _ _ hk)
  have hT4 := hTq.add (r := U.heap.size) (w' := w4) (g := g4) (cap := cap4) hr hs (fun hm => by have := (hT.lt _ (.inr hm)).2; omega) (fun e => by have := (hT.lt _ (.inl e)).2; omega) hown hgB (orTo hat (fun e => by omega))
  have hlow : ∀ k, k < V.heap.size → w4.heap[k]? = U.heap[k]? := fun k hk => (hgB k (by omega) (fun e => by have := (hT.lt k (.inl e)).1; omega)).trans (hb.block k (by omega))
  have ha : Below q.heap.size q (q.alloc o) := (Below.refl _ _).alloc (Nat.le_refl _) _
  have hV4 : RdV V P w4 := hV.step hP (hg.os.trans (ha.os.trans hb.os)) (hg.tape.trans (ha.tape.trans hb.tape)) (hg.output.trans (ha.output.trans hb.output)) (by omega) hlow
  have hc4 : w4.cell? ⟨P, 3, none⟩ = some v := (World.cell?_of_block (w := U) (a := ⟨P, 3, none⟩) (hlow P hP)).trans hc
  refine ⟨hV4.set _, _, Rs ++ [U.heap.size], World.cell?_setCell_same' _ _ _ (by rw [hc4]; rfl), by simp, hT4.keep (fun k hk => Below.heap_setCell _ _ _ _ (fun e => ?_))⟩
  have := (hT4.lt k hk).1
  simp only at e
  omega
/-- what Read knows behind its lines -/
structure RdK (V : World) (P n nl nt : Nat) (p1 p0 : Option Addr) (c1 c0 : Nat) (top line : Nat → Nat) (uk : Nat → Bool) (Wl : Nat → Nat → Nat) (M : Nat → Nat → Prop) (res : Nat × Nat) : Prop where
  few : n ≤ 36
  lt : P < V.heap.size
  cell1 : V.cell? ⟨P, 1, none⟩ = some (.slice p1 n c1)
  cell0 : V.cell? ⟨P, 0, none⟩ = some (.slice p0 nt c0)
  cell3 : V.cell? ⟨P, 3, none⟩ = some (.slice none 0 0)
  cell4 : V.cell? ⟨P, 4, none⟩ = some (.slice none 0 0)
  frz : ∀ j, V.frozen? ⟨P, j, none⟩ = false
  rel : ∀ a, a < n → ∃ G, p1 = some ⟨G, 0, none⟩ ∧ G ≠ P ∧ G < V.heap.size ∧ V.cell? ⟨G, a * 5 + 3, none⟩ = some (.int .i64 (top a : Int)) ∧ V.cell? ⟨G, a * 5 + 4, none⟩ = some (.int .i64 (line a : Int))
  unk : ∀ wr, RdV V P wr → ∀ a, a < n → Calls Tryd.prog 17 #[.pointer (some ⟨P, 0, none⟩), .int .i64 (a : Int), .int .i64 (top a : Int)] wr fun e w' => e = .returned (.bool (uk a)) ∧ Below wr.heap.size wr w'
  hang : ∀ wr, RdV V P wr → ∀ a b, a < n → b < n → Calls Tryd.prog 18 #[.pointer (some ⟨P, 0, none⟩), .int .i64 (a : Int), .int .i64 (top a : Int), .int .i64 (b : Int), .bool false] wr fun e w' => e = .returned (.int .i64 ((Wl a b : Nat) : Int)) ∧ Below wr.heap.size wr w'
  fw : Fw M n 0 (fun i j => decide (0 < Wl i j))
  found : ∀ a, a < n → (∀ j, j < a → uk j = false) → uk a = true → res = (line a, 3)
  ring : (∀ j, j < n → uk j = false) → ∀ X, Fw M n n X → ∀ a b, a < n → b < n → Wl a b = 2 → (a = b ∨ X b a = true) → res = (nl, 4)
  fine : (∀ j, j < n → uk j = false) → ∀ X, Fw M n n X → (∀ a, a < n → ∀ b, b < n → ¬ (Wl a b = 2 ∧ (a = b ∨ X b a = true))) → res = (nt, 0)
theorem RdI.done {w0 : World} {B : Nat} {ls : List (List UInt8)} {G P num : Nat} {st : List Ty} {tb rb nb : Option Nat} {N : List NV} {rs : List RR} {V : World} {res : Nat × Nat} {nl : Nat} (h : RdI w0 B ls G P num st tb rb nb N rs V) (hres : res = afterS (relsOf st) st.length nl) :
    ∃ p1 p0 c1 c0 top line uk Wl M, RdK V P rs.length nl st.length p1 p0 c1 c0 top line uk Wl M res := by
  have hp := h.rep
  have hl := hp.len
  obtain ⟨p1, c1, f1, f2⟩ := hp.form1
  obtain ⟨p0, c0, f0⟩ := hp.form0
  have gt : ∀ a (ha : a < rs.length), (rs.map (·.top)).getD a 0 = rs[a].top := fun a ha => by simp [ha]
  have gl : ∀ a (ha : a < rs.length), (rs.map (·.line)).getD a 0 = rs[a].line := fun a ha => by simp [ha]
  have gu : ∀ a (ha : a < (relsOf st).length), ((relsOf st).map (unkR (knowB (relsOf st)))).getD a false = unkR (knowB (relsOf st)) (relsOf st)[a] := fun a ha => by simp [ha]
  refine ⟨p1, p0, c1, c0, fun a => (rs.map (·.top)).getD a 0, fun a => (rs.map (·.line)).getD a 0, fun a => ((relsOf st).map (unkR (knowB (relsOf st)))).getD a false, willT rs (relsOf st), InM (relsOf st), ?_⟩
  refine ⟨by have := rels_few h.ok; omega, hp.lt P planM_P, f1, f0, hp.c3, hp.c4, hp.frz, fun a ha => ?_, fun wr hV a ha => ?_, fun wr hV a b ha hb => ?_, will_fw hp h.ok, fun a ha hj h1 => ?_, fun hj X hX a b ha hb h1 h2 => ?_, fun hj X hX hno => ?_⟩
  · simp only [gt a ha, gl a ha]; exact f2 a ha
  · simp only [gt a ha, gu a (by omega : a < (relsOf st).length)]
    exact rd_unknown hV hp h.ok h.ln a ha (by omega)
  · simp only [gt a ha]
    exact rd_hangs hV hp h.ln a b ha hb
  · have ha' : a < (relsOf st).length := by omega
    simp only [gu a ha'] at h1
    simp only [gl a ha]
    rw [hres, afterS_some (find_at ha' (fun j hj' hlt => by have := hj j hlt; simp only [gu j hj'] at this; exact this) h1)]
    rw [(hp.ok a ha ha').2.2.2.1]
  · have hno : (relsOf st).find? (unkR (knowB (relsOf st))) = none := find_no (fun j hj' => by have := hj j (by omega); simp only [gu j hj'] at this; exact this)
    rw [hres, afterS_ring hno ((will_ring hp h.ok hX).1 ⟨a, ha, b, hb, h1, h2⟩)]
  · have hnf : (relsOf st).find? (unkR (knowB (relsOf st))) = none := find_no (fun j hj' => by have := hj j (by omega); simp only [gu j hj'] at this; exact this)
    rw [hres, afterS_fine hnf (fun hr => by
      obtain ⟨a, ha, b, hb, h1, h2⟩ := (will_ring hp h.ok hX).2 hr
      exact hno a ha b hb ⟨h1, h2⟩)]
end Go.Proofs.YtlgodpadcilcaaaDoor
