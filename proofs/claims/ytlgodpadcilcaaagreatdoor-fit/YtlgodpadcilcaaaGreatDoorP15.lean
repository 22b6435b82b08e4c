import Derived.Test.YtlgodpadcilcaaaGreatDoorP11
import Derived.Test.YtlgodpadcilcaaaGreatDoorP12
import Derived.Test.YtlgodpadcilcaaaGreatDoorP13
import Derived.Test.YtlgodpadcilcaaaGreatDoorP14
import Derived.Test.YtlgodpadcilcaaaGreatDoorP05
import Derived.Deep.OwnRows
import Derived.Deep.AppendLies
import Derived.BigRegion
import Derived.OwnWalk
namespace Go.Proofs.YtlgodpadcilcaaaGreatDoor
open Go.ChangeShapes Go.WideShapes Go.ChangeAt Go.RowKit

theorem hangs_all (P a b : Nat) (N : List NV) (rs : List RR) (ha : a < rs.length) (hb : b < rs.length) : ∀ n, n ≤ 100001 → HangOK n P a b N rs (leadsR rs[a] rs[b])
  | 0, _ => fun e ag i w hs _ _ => absurd e.sz_pos (by omega)
  | n + 1, hn => fun e ag i w hs h hT => by
    cases e using Exp.kind with
    | leaf s =>
      have e0 : (Exp.leaf s).flat ag = [(s, ag)] := by simp [Exp.flat]
      rw [e0]
      cases s using Sing.kind with
      | self =>
        simp only [Tree] at hT
        exact hangs_self P a b i ag N rs w h ha hb hT
      | name x =>
        simp only [Tree] at hT
        exact hangs_name P a b i ag N rs x w h ha hb hT
      | via x t =>
        simp only [Tree] at hT
        exact hangs_via P a b i ag N rs x t w h ha hb hT
    | join k es => exact hangs_join n P a b i ag N rs _ (hangs_all P a b N rs ha hb n (by omega)) k es w hs (by omega) h ha hb hT

/-- what a term makes a relation hang on, against the relations themselves -/
theorem leadsR_B {w : World} {P : Nat} {tb rb nb : Option Nat} {N : List NV} {rs : List RR} {st : List Ty} (h : PlanRep w P tb rb nb N rs st) (hok : StOk st) (a b : Nat) (ha : a < rs.length) (hb : b < rs.length) (ha' : a < (relsOf st).length) (hb' : b < (relsOf st).length) (t : Sing) : leadsR rs[a] rs[b] t = leadsB t (relsOf st)[a] (relsOf st)[b] := by
  have hx := h.ok a ha ha'
  have hy := h.ok b hb hb'
  cases t using Sing.kind with
  | self => simp only [leadsR, leadsB]; exact hy.2.2.1
  | name v => simp only [leadsR, leadsB]; rw [relOK_ty hok hx hy, hy.2.1]
  | via v t => simp only [leadsR, leadsB]; rw [hy.2.1]
theorem hangs_will {w : World} {P : Nat} {tb rb nb : Option Nat} {N : List NV} {rs : List RR} {st : List Ty} (h : PlanRep w P tb rb nb N rs st) (hok : StOk st) (a b : Nat) (ha : a < rs.length) (hb : b < rs.length) (ha' : a < (relsOf st).length) (hb' : b < (relsOf st).length) :
    decide (0 < hgL (leadsR rs[a] rs[b]) ((relsOf st)[a].ex.flat false)) = hangB (relsOf st)[a] (relsOf st)[b] ∧ decide (hgL (leadsR rs[a] rs[b]) ((relsOf st)[a].ex.flat false) = 2) = agB (relsOf st)[a] (relsOf st)[b] := by
  have e : leadsR rs[a] rs[b] = fun t => leadsB t (relsOf st)[a] (relsOf st)[b] := funext (leadsR_B h hok a b ha hb ha' hb')
  rw [e, hgL_pos, hgL_two]
  exact ⟨rfl, rfl⟩
end Go.Proofs.YtlgodpadcilcaaaGreatDoor
namespace Go.Proofs.YtlgodpadcilcaaaGreatDoor
/-- what is answered behind the lines: of the relations, the number of types and that of lines -/
def afterS (R : List Rl) (nt n : Nat) : Nat × Nat :=
  match R.find? (unkR (knowB R)) with
  | some r => (r.line, 3)
  | none => bif ringB R then (n, 4) else (nt, 0)
theorem afterS_some {R : List Rl} {r : Rl} (h : R.find? (unkR (knowB R)) = some r) (nt n : Nat) : afterS R nt n = (r.line, 3) := by unfold afterS; rw [h]
theorem afterS_ring {R : List Rl} (h : R.find? (unkR (knowB R)) = none) (hr : ringP R) (nt n : Nat) : afterS R nt n = (n, 4) := by unfold afterS; rw [h]; simp only [ringB_t hr, cond_true]
theorem afterS_fine {R : List Rl} (h : R.find? (unkR (knowB R)) = none) (hr : ¬ ringP R) (nt n : Nat) : afterS R nt n = (nt, 0) := by unfold afterS; rw [h]; simp only [ringB_f hr, cond_false]
theorem schemaS_long {t : List UInt8} (h : 2000 < t.length) : schemaS t = (0, 1) := by unfold schemaS; rw [if_pos h]
theorem schemaS_inl {t : List UInt8} (h : ¬ 2000 < t.length) {p : Nat × Nat} (hl : linesS [] 0 (splitL 10 t) = .inl p) : schemaS t = p := by
  unfold schemaS; rw [if_neg h, hl]
theorem schemaS_inr {t : List UInt8} (h : ¬ 2000 < t.length) {st : List Ty} (hl : linesS [] 0 (splitL 10 t) = .inr st) : schemaS t = afterS (relsOf st) st.length (splitL 10 t).length := by
  unfold schemaS afterS; rw [if_neg h, hl]; rfl
theorem linesS_stop {ls : List (List UInt8)} {st0 st : List Ty} {k i : Nat} (h : linesS st0 k ls = linesS st i (ls.drop i)) (hi : i < ls.length) (h0 : (lineS st i ls[i]).1 ≠ 0) : linesS st0 k ls = .inl (i, (lineS st i ls[i]).1) := by
  rw [h, List.drop_eq_getElem_cons hi, linesS]
  generalize lineS st i ls[i] = r at *
  obtain ⟨r1, r2⟩ := r
  simp only at h0 ⊢
theorem linesS_next {ls : List (List UInt8)} {st0 st : List Ty} {k i : Nat} (h : linesS st0 k ls = linesS st i (ls.drop i)) (hi : i < ls.length) (h0 : (lineS st i ls[i]).1 = 0) : linesS st0 k ls = linesS (lineS st i ls[i]).2 (i + 1) (ls.drop (i + 1)) := by
  rw [h, List.drop_eq_getElem_cons hi, linesS]
  generalize lineS st i ls[i] = r at *
  obtain ⟨r1, r2⟩ := r
  simp only at h0 ⊢
  subst h0
  rfl
end Go.Proofs.YtlgodpadcilcaaaGreatDoor
namespace Go.Proofs.YtlgodpadcilcaaaGreatDoor
open Go.ChangeShapes Go.WideShapes Go.ChangeAt Go.RowKit

/-- a table: rows of m cells of type tE; their slices in a row of type tR -/
structure Tab2 (w : World) (B tR tE : Nat) (v : Value) (Rs : List Nat) (m : Nat) (E : Nat → Nat → Value) : Prop where
  row : w.ownsRow B tR 1 v Rs.length (Rs.map (fun r => .slice (some ⟨r, 0, none⟩) m m))
  rows : ∀ i (h : i < Rs.length), w.rowIs Rs[i] tE m (E i)
  ge : ∀ r ∈ Rs, B ≤ r
  nodup : Rs.Nodup
  ne : ∀ g, v.ownBlock = some g → g ∉ Rs
theorem Tab2.empty (w : World) (B tR tE m : Nat) (E : Nat → Nat → Value) : Tab2 w B tR tE (.slice none 0 0) [] m E :=
  ⟨⟨rfl, .inl ⟨rfl, rfl⟩⟩, fun _ h => absurd h (Nat.not_lt_zero _), by simp, by simp, by simp⟩
theorem Tab2.lt {w : World} {B tR tE : Nat} {v : Value} {Rs : List Nat} {m : Nat} {E : Nat → Nat → Value} (h : Tab2 w B tR tE v Rs m E) : ∀ g, (v.ownBlock = some g ∨ g ∈ Rs) → B ≤ g ∧ g < w.heap.size := fun g hg => by
  rcases hg with hg | hg
  · exact World.ownsRow.lt h.row g hg
  · obtain ⟨i, hi, rfl⟩ := List.getElem_of_mem hg
    exact ⟨h.ge _ hg, (h.rows i hi).lt⟩
theorem Tab2.keep {w w' : World} {B tR tE : Nat} {v : Value} {Rs : List Nat} {m : Nat} {E : Nat → Nat → Value} (h : Tab2 w B tR tE v Rs m E) (hb : ∀ g, (v.ownBlock = some g ∨ g ∈ Rs) → w'.heap[g]? = w.heap[g]?) : Tab2 w' B tR tE v Rs m E :=
  ⟨owns_same h.row (fun g hg => hb g (.inl hg)), fun i hi => (h.rows i hi).of_block (hb _ (.inr (List.getElem_mem _))), h.ge, h.nodup, h.ne⟩
theorem Tab2.below {w w' : World} {B tR tE : Nat} {v : Value} {Rs : List Nat} {m : Nat} {E : Nat → Nat → Value} (h : Tab2 w B tR tE v Rs m E) (hb : Below w.heap.size w w') : Tab2 w' B tR tE v Rs m E :=
  h.keep fun g hg => hb.block g (h.lt g hg).2
theorem Tab2.form {w : World} {B tR tE : Nat} {v : Value} {Rs : List Nat} {m : Nat} {E : Nat → Nat → Value} (h : Tab2 w B tR tE v Rs m E) : ∃ p c, v = .slice p Rs.length c ∧ (0 < Rs.length → ∃ g, p = some ⟨g, 0, none⟩) := by
  rcases h.row.2 with ⟨e, h0⟩ | ⟨g, cap', cur, e, _⟩
  · rw [h0] at *; exact ⟨_, _, e, fun h => by omega⟩
  · exact ⟨_, _, e, fun _ => ⟨g, rfl⟩⟩
theorem Tab2.at {w : World} {B tR tE : Nat} {g c : Nat} {Rs : List Nat} {m : Nat} {E : Nat → Nat → Value} (h : Tab2 w B tR tE (.slice (some ⟨g, 0, none⟩) Rs.length c) Rs m E) (i : Nat) (hi : i < Rs.length) : w.cell? ⟨g, i, none⟩ = some (.slice (some ⟨Rs[i], 0, none⟩) m m) := by
  rw [h.row.cellAt i (by omega)]
  simp [hi]
theorem Tab2.cell {w : World} {B tR tE : Nat} {v : Value} {Rs : List Nat} {m : Nat} {E : Nat → Nat → Value} (h : Tab2 w B tR tE v Rs m E) (i j : Nat) (hi : i < Rs.length) (hj : j < m) : w.cell? ⟨Rs[i], j, none⟩ = some (E i j) := (h.rows i hi).cell hj
theorem Tab2.congr {w : World} {B tR tE : Nat} {v : Value} {Rs : List Nat} {m : Nat} {E F : Nat → Nat → Value} (h : Tab2 w B tR tE v Rs m E) (e : ∀ i j, i < Rs.length → j < m → E i j = F i j) : Tab2 w B tR tE v Rs m F :=
  ⟨h.row, fun i hi => (h.rows i hi).congr (fun j hj => e i j hi hj), h.ge, h.nodup, h.ne⟩
theorem Tab2.set {w : World} {B tR tE : Nat} {v : Value} {Rs : List Nat} {m : Nat} {E : Nat → Nat → Value} (h : Tab2 w B tR tE v Rs m E) (i j : Nat) (hi : i < Rs.length) (x : Value) : Tab2 (w.setCell ⟨Rs[i], j, none⟩ x) B tR tE v Rs m (fun a b => if a = i ∧ b = j then x else E a b) := by
  refine ⟨owns_same h.row (fun g hg => Below.heap_setCell _ _ _ _ (fun e => ?_)), fun a ha => ?_, h.ge, h.nodup, h.ne⟩
  · exact h.ne g hg (by rw [e]; exact List.getElem_mem _)
  · by_cases e : a = i
    · subst e
      refine ((h.rows a ha).set j x).congr (fun b _ => ?_)
      by_cases e2 : b = j
      · simp [e2]
      · simp [e2]
    · refine ((h.rows a ha).setOther (a := ⟨Rs[i], j, none⟩) (fun e2 => e ((List.getElem_inj h.nodup).1 e2)) x).congr (fun b _ => ?_)
      simp [e]
/-- a row more -/
theorem Tab2.add {w w' : World} {B tR tE : Nat} {v : Value} {Rs : List Nat} {m : Nat} {E : Nat → Nat → Value} (h : Tab2 w B tR tE v Rs m E) {r : Nat} (hr : w.rowIs r tE m (E Rs.length)) (hB : B ≤ r) (hn : r ∉ Rs) (hne : v.ownBlock ≠ some r) {g cap : Nat}
    (hown : w'.ownsRow B tR 1 (.slice (some ⟨g, 0, none⟩) (Rs.length + 1) cap) (Rs.length + 1) (Rs.map (fun r => .slice (some ⟨r, 0, none⟩) m m) ++ [.slice (some ⟨r, 0, none⟩) m m])) (hb : ∀ k, k < w.heap.size → v.ownBlock ≠ some k → w'.heap[k]? = w.heap[k]?) (hg : v.ownBlock = some g ∨ w.heap.size ≤ g) :
    Tab2 w' B tR tE (.slice (some ⟨g, 0, none⟩) (Rs.length + 1) cap) (Rs ++ [r]) m E := by
  refine ⟨by simpa using hown, fun i hi => ?_, fun x hx => ?_, ?_, fun k hk hm => ?_⟩
  · by_cases e : i < Rs.length
    · rw [List.getElem_append_left e]
      exact (h.rows i e).of_block (hb _ (h.rows i e).lt (fun e2 => h.ne _ e2 (List.getElem_mem _)))
    · have : i = Rs.length := by simp at hi; omega
      subst this
      simp only [List.getElem_concat_length]
      exact hr.of_block (hb _ hr.lt hne)
  · rcases List.mem_append.1 hx with hx | hx
    · exact h.ge x hx
    · simp at hx; subst hx; exact hB
  · rw [List.nodup_append]
    exact ⟨h.nodup, by simp, fun a ha b hb e => by simp at hb; subst hb; subst e; exact hn ha⟩
  · cases hk
    rcases List.mem_append.1 hm with hm | hm
    · rcases hg with hg | hg
      · exact h.ne _ hg hm
      · have := (h.lt g (.inr hm)).2; omega
    · simp at hm
      subst hm
      rcases hg with hg | hg
      · exact hne hg
      · have := hr.lt; omega
/-- the block of row i -/
def rowN (Rs : List Nat) (i : Nat) : Nat := Rs.getD i 0
theorem rowN_eq {Rs : List Nat} {i : Nat} (h : i < Rs.length) : rowN Rs i = Rs[i] := by simp [rowN, h]
theorem rowN_mem {Rs : List Nat} {i : Nat} (h : i < Rs.length) : rowN Rs i ∈ Rs := by rw [rowN_eq h]; exact List.getElem_mem _
theorem Tab2.at' {w : World} {B tR tE : Nat} {g k c : Nat} {Rs : List Nat} {m : Nat} {E : Nat → Nat → Value} (h : Tab2 w B tR tE (.slice (some ⟨g, 0, none⟩) k c) Rs m E) (hk : Rs.length = k) (i : Nat) (hi : i < k) : w.cell? ⟨g, i, none⟩ = some (.slice (some ⟨rowN Rs i, 0, none⟩) m m) := by
  subst hk
  rw [rowN_eq hi]
  exact h.at i hi
theorem Tab2.cell' {w : World} {B tR tE : Nat} {v : Value} {Rs : List Nat} {m : Nat} {E : Nat → Nat → Value} (h : Tab2 w B tR tE v Rs m E) (i j : Nat) (hi : i < Rs.length) (hj : j < m) : w.cell? ⟨rowN Rs i, j, none⟩ = some (E i j) := by
  rw [rowN_eq hi]; exact h.cell i j hi hj
theorem Tab2.frozen' {w : World} {B tR tE : Nat} {v : Value} {Rs : List Nat} {m : Nat} {E : Nat → Nat → Value} (h : Tab2 w B tR tE v Rs m E) (i j : Nat) (hi : i < Rs.length) : w.frozen? ⟨rowN Rs i, j, none⟩ = false := by
  rw [rowN_eq hi]; exact (h.rows i hi).frozen j
theorem Tab2.set' {w : World} {B tR tE : Nat} {v : Value} {Rs : List Nat} {m : Nat} {E : Nat → Nat → Value} (h : Tab2 w B tR tE v Rs m E) (i j : Nat) (hi : i < Rs.length) (x : Value) : Tab2 (w.setCell ⟨rowN Rs i, j, none⟩ x) B tR tE v Rs m (fun a b => if a = i ∧ b = j then x else E a b) := by
  rw [rowN_eq hi]; exact h.set i j hi x
theorem Tab2.lt' {w : World} {B tR tE : Nat} {v : Value} {Rs : List Nat} {m : Nat} {E : Nat → Nat → Value} (h : Tab2 w B tR tE v Rs m E) (i : Nat) (hi : i < Rs.length) : B ≤ rowN Rs i ∧ rowN Rs i < w.heap.size := h.lt _ (.inr (rowN_mem hi))
theorem Tab2.head_lt {w : World} {B tR tE : Nat} {g k c : Nat} {Rs : List Nat} {m : Nat} {E : Nat → Nat → Value} (h : Tab2 w B tR tE (.slice (some ⟨g, 0, none⟩) k c) Rs m E) : B ≤ g ∧ g < w.heap.size := h.lt g (.inl rfl)
theorem Tab2.head_ne {w : World} {B tR tE : Nat} {g k c : Nat} {Rs : List Nat} {m : Nat} {E : Nat → Nat → Value} (h : Tab2 w B tR tE (.slice (some ⟨g, 0, none⟩) k c) Rs m E) (i : Nat) (hi : i < Rs.length) : rowN Rs i ≠ g := fun e => h.ne g rfl (by rw [← e]; exact rowN_mem hi)
theorem Tab2.form' {w : World} {B tR tE : Nat} {v : Value} {Rs : List Nat} {m k : Nat} {E : Nat → Nat → Value} (h : Tab2 w B tR tE v Rs m E) (hk : Rs.length = k) : ∃ p c, v = .slice p k c ∧ (0 < k → ∃ g, p = some ⟨g, 0, none⟩) := by
  subst hk; exact h.form
end Go.Proofs.YtlgodpadcilcaaaGreatDoor
namespace Go.Proofs.YtlgodpadcilcaaaGreatDoor
open Go.ChangeShapes Go.WideShapes Go.ChangeAt Go.RowKit

theorem infoB : (Tryz.prog.info? 4).map (fun i => (i.zero, i.size, i.bytes)) = some (some (.bool false), 1, 1) := by kernel_rfl
theorem infoBs : (Tryz.prog.info? 74).map (fun i => (i.zero, i.size, i.bytes)) = some (some (.slice none 0 0), 1, 24) := by kernel_rfl

/-- what Reach keeps while it builds -/
structure RcI (w : World) (n : Nat) (Wl : Nat → Nat → Nat) (v : Value) (a : Nat) (wr : World) : Prop where
  tab : ∃ Rs, Rs.length = a ∧ Tab2 wr w.heap.size 74 4 v Rs n (fun i j => .bool (decide (0 < Wl i j)))
  below : Below w.heap.size w wr

set_option maxRecDepth 100000 in
set_option maxHeartbeats 8000000 in
theorem Reach_any (M : Nat → Nat → Prop) (P n c1 B3 : Nat) (p1 : Option Addr) (v3 : Value) (Rs3 : List Nat) (Wl : Nat → Nat → Nat) (w : World) (hn : n ≤ 36) (h1 : w.cell? ⟨P, 1, none⟩ = some (.slice p1 n c1)) (h3 : w.cell? ⟨P, 3, none⟩ = some v3)
    (hT : Tab2 w B3 70 3 v3 Rs3 n (fun i j => .int .i64 (Wl i j : Nat))) (hL : Rs3.length = n) (hF : Fw M n 0 (fun i j => decide (0 < Wl i j))) :
    Calls Tryz.prog 23 #[.pointer (some ⟨P, 0, none⟩)] w fun e w' => ∃ v Rs X, e = .returned v ∧ Rs.length = n ∧ Tab2 w' w.heap.size 74 4 v Rs n (fun i j => .bool (X i j)) ∧ Fw M n n X ∧ Below w.heap.size w w' := by
  obtain ⟨i0, hi0, hz0, hz1, hz2⟩ := info_parts infoBs
  have hmk := run_make_row' (P := Tryz.prog) 74 4 (.bool false) 1 Tryz.underlying74 infoB rfl .i64 .i64 n (by omega) (by omega)
  have hP : P < w.heap.size := World.block_lt_of_cell? w ⟨P, 1, none⟩ h1
  have HF : Hid _ := hF
  have HT : Hid _ := hT
  obtain ⟨p3, c3, rfl, hp3⟩ := hT.form' hL
  have HL : Hid (Rs3.length = n) := hL
  clear hT hF hL
  go_enter Tryz.func23, Tryz.ntmps23
  go_wp2
  go_loopw [4, 5] (fun s4 s5 wr => ∃ a : Nat, a ≤ n ∧ s5 = .int .i64 (a : Int) ∧ Hid (RcI w n Wl s4 a wr)) (fun _ s5 _ => n - (intOf s5).toNat)
  case atStart => exact ⟨0, Nat.zero_le _, rfl, ⟨[], rfl, Tab2.empty ..⟩, Below.refl _ _⟩
  case round =>
    obtain ⟨a, ha, rfl, HI⟩ := hrel
    rename World => V
    by_cases hlt : a < n
    · obtain ⟨⟨Rs, hRl, hTb⟩, hb⟩ := HI.out
      have hsz := hb.size
      have HTb : Hid _ := hTb
      have HB : Hid _ := hb
      obtain ⟨g3, rfl⟩ := hp3 (by omega)
      have hr3 := HT.out.at' HL.out a hlt
      have hcl := fun j hj => HT.out.cell' a j (by rw [HL.out]; exact hlt) hj
      have hl1 := HT.out.head_lt.2
      have hl2 := (HT.out.lt' a (by rw [HL.out]; exact hlt)).2
      have HC : Hid (∀ w', Below w.heap.size w w' → w'.cell? ⟨P, 3, none⟩ = some (.slice (some ⟨g3, 0, none⟩) n c3) ∧ w'.cell? ⟨g3, a, none⟩ = some (.slice (some ⟨rowN Rs3 a, 0, none⟩) n n) ∧ ∀ j, j < n → w'.cell? ⟨rowN Rs3 a, j, none⟩ = some (.int .i64 (Wl a j : Nat))) := fun w' hb' =>
        ⟨by rw [hb'.cell (p := ⟨P, 3, none⟩) hP]; exact h3, by rw [hb'.cell (p := ⟨g3, a, none⟩) hl1]; exact hr3, fun j hj => by rw [hb'.cell (p := ⟨rowN Rs3 a, j, none⟩) hl2]; exact hcl j hj⟩
      clear hTb hb HI hr3 hcl
      go_upto_region 8 with fail
      have hI0 : (V.alloc (.cells (madeCells #[.bool false] n) 4)).rowIs V.heap.size 4 n (fun j => .bool (decide (j < 0) && decide (0 < Wl a j))) := (World.rowIs_made V (.bool false) n 4).congr (fun j _ => by simp)
      have hI1 : Below V.heap.size V (V.alloc (.cells (madeCells #[.bool false] n) 4)) := (Below.refl _ _).alloc (Nat.le_refl _) _
      have hI2 : (V.alloc (.cells (madeCells #[.bool false] n) 4)).heap.size = V.heap.size + 1 := by simp
      generalize V.alloc (.cells (madeCells #[.bool false] n) 4) = W at *
      have HI0 : Hid (W.rowIs V.heap.size 4 n (fun j => .bool (decide (j < 0) && decide (0 < Wl a j))) ∧ Below V.heap.size V W ∧ W.heap.size = V.heap.size + 1) := ⟨hI0, hI1, hI2⟩
      clear hI0 hI1 hI2
      go_loopw [7] (fun s7 wq => ∃ b : Nat, b ≤ n ∧ s7 = .int .i64 (b : Int) ∧ Hid (wq.rowIs V.heap.size 4 n (fun j => .bool (decide (j < b) && decide (0 < Wl a j))) ∧ Below V.heap.size V wq ∧ wq.heap.size = V.heap.size + 1)) (fun s7 _ => n - (intOf s7).toNat)
      case atStart => exact ⟨0, Nat.zero_le _, rfl, HI0⟩
      case round =>
        obtain ⟨b, hb, rfl, HJ⟩ := hrel
        by_cases hlb : b < n
        · obtain ⟨hrow, hbq, hsq⟩ := HJ.out
          obtain ⟨d1, d2, d3⟩ := HC.out wr (HB.out.trans (hbq.mono hsz))
          have d4 := d3 b hlb
          have d5 := hrow.cell hlb
          have d6 := hrow.frozen b
          clear d3 hrow hbq hsq
          by_cases hpos : 0 < Wl a b
          · have q : ((Wl a b : Nat) : Int) > 0 := by omega
            go_wp2
            go_roundw
            case rel =>
              refine ⟨b + 1, by omega, by go_num, (HJ.out.1.set b (.bool true)).congr (fun j hj => ?_), HJ.out.2.1.setCell (Nat.le_refl _) _, by rw [World.size_setCell]; exact HJ.out.2.2⟩
              by_cases e : j = b
              · subst e; simp [hpos]
              · have : (j < b + 1) ↔ (j < b) := by omega
                simp [e, this]
            case measure => simp [intOf]; omega
          · have q : ¬ ((Wl a b : Nat) : Int) > 0 := by omega
            go_wp2
            go_roundw
            case rel =>
              refine ⟨b + 1, by omega, by go_num, (HJ.out.1.set b (.bool false)).congr (fun j hj => ?_), HJ.out.2.1.setCell (Nat.le_refl _) _, by rw [World.size_setCell]; exact HJ.out.2.2⟩
              by_cases e : j = b
              · subst e; simp [hpos]
              · have : (j < b + 1) ↔ (j < b) := by omega
                simp [e, this]
            case measure => simp [intOf]; omega
        · obtain rfl : b = n := by omega
          obtain ⟨hrow, hbq, hsq⟩ := HJ.out
          have hTq := HTb.out.below hbq
          have hown := hTq.row
          have HTq : Hid _ := hTq
          have HJ2 : Hid _ := HJ.out
          have hsle : w.heap.size ≤ wr.heap.size := by omega
          clear hrow hbq hTq HJ HC HI0 hsq
          rw [hRl] at hown
          have hown2 := hown.alloc (.cells #[.slice (some ⟨V.heap.size, 0, none⟩) b b] 74)
          go_wp2_with (at_builtin; go_loud (refine wpList_append_lies _ rfl _ _ 72 rfl w.heap.size 74 i0 _ 1 24 Tryz.underlying72 hi0 hz0 hz1 hz2 rfl (by decide) _ _ _ rfl hown2 ⟨wr.heap.size, 0, none⟩ 1 1 [.slice (some ⟨V.heap.size, 0, none⟩) b b] rfl rfl ?_ (fun x hx => by simp at hx; subst hx; rfl) (by decide) (by unfold maxLen; omega) (by omega) (by simp; omega) (wr.heap.size + 1) (by simp) ?_; (exact World.news_of_block (cs := #[.slice (some ⟨V.heap.size, 0, none⟩) b b]) (t := 74) (fr := (0, 0)) (heap_alloc_new wr _)); intro g4 cap4 w4 hown4 hgrow4 hat4 hlt4))
          go_roundw
          case rel =>
            refine ⟨a + 1, by omega, by go_num, ⟨Rs ++ [V.heap.size], by simp [hRl], ?_⟩, ?_⟩
            · have hgB : ∀ k, k < wr.heap.size → u4.ownBlock ≠ some k → w4.heap[k]? = wr.heap[k]? := fun k hk hne => (hgrow4.block k (by simp; omega) (fun hm => hne hm.symm)).trans (Below.heap_alloc _ _ _ hk)
              have hown5 : w4.ownsRow w.heap.size 74 1 (.slice (some ⟨g4, 0, none⟩) (Rs.length + 1) cap4) (Rs.length + 1) (Rs.map (fun r => .slice (some ⟨r, 0, none⟩) b b) ++ [.slice (some ⟨V.heap.size, 0, none⟩) b b]) := by rw [hRl]; exact hown4
              have := HTq.out.add (r := V.heap.size) (w' := w4) (g := g4) (cap := cap4) (HJ2.out.1.congr (fun j hj => by simp [hj, hRl])) hsz (fun hm => by have := (HTb.out.lt _ (.inr hm)).2; omega) (fun e => by have := (HTb.out.lt _ (.inl e)).2; omega) hown5 hgB (orTo hat4 (fun e => by omega))
              rw [hRl] at this
              exact this
            · have h1 := HB.out.trans (HJ2.out.2.1.mono hsz)
              have h2 := h1.alloc (by omega) (.cells #[.slice (some ⟨V.heap.size, 0, none⟩) b b] 74)
              exact ⟨hgrow4.os.trans h2.os, hgrow4.tape.trans h2.tape, hgrow4.output.trans h2.output, Nat.le_trans h2.size hgrow4.size, fun k hk => (hgrow4.block k (by simp; omega) (fun hm => by
                have := (HTq.out.lt k (.inl hm.symm)).1; omega)).trans (h2.block k hk)⟩
          case measure => simp [intOf]; omega
    · obtain rfl : a = n := by omega
      obtain ⟨⟨Rs, hRl, hTb⟩, hb⟩ := HI.out
      obtain ⟨p4, c4, rfl, hp4⟩ := hTb.form' hRl
      have HI0 : Hid (∃ X, Tab2 V w.heap.size 74 4 (.slice p4 a c4) Rs a (fun i j => .bool (X i j)) ∧ Fw M a 0 X ∧ Below w.heap.size w V) := ⟨_, hTb, HF.out, hb⟩
      have HRl : Hid _ := hRl
      clear hTb hb HI HT HF hmk hi0 hz0 hz1 hz2 h3 hRl HL
      go_wp2
      go_loopw [8] (fun s8 wq => ∃ k : Nat, k ≤ a ∧ s8 = .int .i64 (k : Int) ∧ Hid (∃ X, Tab2 wq w.heap.size 74 4 (.slice p4 a c4) Rs a (fun i j => .bool (X i j)) ∧ Fw M a k X ∧ Below w.heap.size w wq)) (fun s8 _ => a - (intOf s8).toNat)
      case atStart => exact ⟨0, Nat.zero_le _, rfl, HI0⟩
      case round =>
        clear HI0
        obtain ⟨k, hk, rfl, HK⟩ := hrel
        by_cases hka : k < a
        · go_wp2
          go_loopw [9] (fun s9 wq => ∃ i : Nat, i ≤ a ∧ s9 = .int .i64 (i : Int) ∧ Hid (∃ X, Tab2 wq w.heap.size 74 4 (.slice p4 a c4) Rs a (fun i j => .bool (X i j)) ∧ FwAt M a k i 0 X ∧ Below w.heap.size w wq)) (fun s9 _ => a - (intOf s9).toNat)
          case atStart =>
            obtain ⟨X, x1, x2, x3⟩ := HK.out
            exact ⟨0, Nat.zero_le _, rfl, X, x1, x2.begin, x3⟩
          case round =>
            clear HK
            obtain ⟨i, hi, rfl, HK⟩ := hrel
            by_cases hia : i < a
            · go_wp2
              go_loopw [10] (fun s10 wq => ∃ j : Nat, j ≤ a ∧ s10 = .int .i64 (j : Int) ∧ Hid (∃ X, Tab2 wq w.heap.size 74 4 (.slice p4 a c4) Rs a (fun i j => .bool (X i j)) ∧ FwAt M a k i j X ∧ Below w.heap.size w wq)) (fun s10 _ => a - (intOf s10).toNat)
              case atStart => exact ⟨0, Nat.zero_le _, rfl, HK⟩
              case round =>
                clear HK
                obtain ⟨j, hj, rfl, HK⟩ := hrel
                by_cases hja : j < a
                · obtain ⟨X, x1, x2, x3⟩ := HK.out
                  have HX1 : Hid _ := x1
                  have HX2 : Hid _ := x2
                  have HX3 : Hid _ := x3
                  obtain ⟨g, rfl⟩ := hp4 (by omega)
                  have HIl : Hid (i < Rs.length ∧ k < Rs.length) := by show _ ∧ _; rw [HRl.out]; exact ⟨hia, hka⟩
                  have d1 := x1.at' HRl.out i hia
                  have d2 := x1.at' HRl.out k hka
                  have d3 := x1.cell' i j HIl.out.1 hja
                  have d4 := x1.cell' i k HIl.out.1 hka
                  have d5 := x1.cell' k j HIl.out.2 hja
                  have d6 := x1.frozen' i j HIl.out.1
                  clear x1 x2 x3 HK
                  cases hx : X i j with
                  | true =>
                    rw [hx] at d3
                    go_wp2
                    go_region
                    all_goals go_wp2
                    all_goals go_roundw
                    case rel =>
                      refine ⟨j + 1, by omega, by go_num, fun p q => if p = i ∧ q = j then true else X p q, ?_, HX2.out.step hka hia hja (fun p q _ _ => ?_), ?_⟩
                      · refine Tab2.congr ((HX1.out.set' i j HIl.out.1 (.bool true)).keep (fun _ _ => rfl)) (fun p q _ _ => ?_)
                        by_cases e : p = i ∧ q = j <;> simp [e]
                      · split
                        · simp [*]
                        · rfl
                      · exact ⟨HX3.out.os, HX3.out.tape, HX3.out.output, by have := HX3.out.size; simpa using this, (HX3.out.setCell (p := ⟨rowN Rs i, j, none⟩) (HX1.out.lt' i HIl.out.1).1 _).block⟩
                    case measure => simp [intOf]; omega
                  | false =>
                    rw [hx] at d3
                    cases hx2 : X i k with
                    | false =>
                      rw [hx2] at d4
                      go_wp2
                      go_region
                      all_goals go_wp2
                      all_goals go_roundw
                      case rel =>
                        refine ⟨j + 1, by omega, by go_num, fun p q => if p = i ∧ q = j then false else X p q, ?_, HX2.out.step hka hia hja (fun p q _ _ => ?_), ?_⟩
                        · refine Tab2.congr ((HX1.out.set' i j HIl.out.1 (.bool false)).keep (fun _ _ => rfl)) (fun p q _ _ => ?_)
                          by_cases e : p = i ∧ q = j <;> simp [e]
                        · split
                          · simp [*]
                          · rfl
                        · exact ⟨HX3.out.os, HX3.out.tape, HX3.out.output, by have := HX3.out.size; simpa using this, (HX3.out.setCell (p := ⟨rowN Rs i, j, none⟩) (HX1.out.lt' i HIl.out.1).1 _).block⟩
                      case measure => simp [intOf]; omega
                    | true =>
                      rw [hx2] at d4
                      cases hx3 : X k j with
                      | true =>
                        rw [hx3] at d5
                        go_wp2
                        go_region
                        all_goals go_wp2
                        all_goals go_roundw
                        case rel =>
                          refine ⟨j + 1, by omega, by go_num, fun p q => if p = i ∧ q = j then true else X p q, ?_, HX2.out.step hka hia hja (fun p q _ _ => ?_), ?_⟩
                          · refine Tab2.congr ((HX1.out.set' i j HIl.out.1 (.bool true)).keep (fun _ _ => rfl)) (fun p q _ _ => ?_)
                            by_cases e : p = i ∧ q = j <;> simp [e]
                          · split
                            · simp [*]
                            · rfl
                          · exact ⟨HX3.out.os, HX3.out.tape, HX3.out.output, by have := HX3.out.size; simpa using this, (HX3.out.setCell (p := ⟨rowN Rs i, j, none⟩) (HX1.out.lt' i HIl.out.1).1 _).block⟩
                        case measure => simp [intOf]; omega
                      | false =>
                        rw [hx3] at d5
                        go_wp2
                        go_region
                        all_goals go_wp2
                        all_goals go_roundw
                        case rel =>
                          refine ⟨j + 1, by omega, by go_num, fun p q => if p = i ∧ q = j then false else X p q, ?_, HX2.out.step hka hia hja (fun p q _ _ => ?_), ?_⟩
                          · refine Tab2.congr ((HX1.out.set' i j HIl.out.1 (.bool false)).keep (fun _ _ => rfl)) (fun p q _ _ => ?_)
                            by_cases e : p = i ∧ q = j <;> simp [e]
                          · split
                            · simp [*]
                            · rfl
                          · exact ⟨HX3.out.os, HX3.out.tape, HX3.out.output, by have := HX3.out.size; simpa using this, (HX3.out.setCell (p := ⟨rowN Rs i, j, none⟩) (HX1.out.lt' i HIl.out.1).1 _).block⟩
                        case measure => simp [intOf]; omega
                · obtain rfl : j = a := by omega
                  go_wp2
                  go_roundw
                  case rel =>
                    obtain ⟨X, x1, x2, x3⟩ := HK.out
                    exact ⟨i + 1, by omega, by go_num, X, x1, x2.row, x3⟩
                  case measure => simp [intOf]; omega
            · obtain rfl : i = a := by omega
              go_wp2
              go_roundw
              case rel =>
                obtain ⟨X, x1, x2, x3⟩ := HK.out
                exact ⟨k + 1, by omega, by go_num, X, x1, x2.done, x3⟩
              case measure => simp [intOf]; omega
        · obtain rfl : k = a := by omega
          go_wp2
          go_ret
          obtain ⟨X, x1, x2, x3⟩ := HK.out
          exact ⟨_, Rs, X, rfl, HRl.out, x1, x2, x3⟩
end Go.Proofs.YtlgodpadcilcaaaGreatDoor
