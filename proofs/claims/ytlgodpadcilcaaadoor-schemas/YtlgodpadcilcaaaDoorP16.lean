import Derived.Test.YtlgodpadcilcaaaDoorP15
import Derived.BigQuiet
namespace Go.Proofs.YtlgodpadcilcaaaDoor
open Go.ChangeShapes Go.WideShapes Go.ChangeAt Go.RowKit

/-- the nodes have grown -/
theorem PlanRep.grow {w w' : World} {P : Nat} {tb rb nb nb' : Option Nat} {N N' : List NV} {rs : List RR} {st : List Ty} (h : PlanRep w P tb rb nb N rs st) (hg : NGrow P nb N w w' nb' N') :
    PlanRep w' P tb rb nb' (N ++ N') rs st ∧ (∀ g ∈ planM P tb rb nb', g ∈ planM P tb rb nb ∨ w.heap.size ≤ g) ∧ ButM (planM P tb rb nb) w w' := by
  obtain ⟨p1, p2, p3⟩ := planM_apart h.nodup
  have hlt := h.lt
  have hs := hg.but.size
  obtain ⟨v1, a1, a2, a3⟩ := h.types
  obtain ⟨v2, b1, b2, b3⟩ := h.rels
  have hin : ∀ g ∈ P :: nb.toList, g ∈ planM P tb rb nb := fun g hm => by
    rw [mem_planM]
    rcases List.mem_cons.1 hm with e | hm
    · exact .inl e
    · exact .inr (.inr (.inr (by simpa using hm)))
  have hkt : ∀ g, tb = some g → w'.heap[g]? = w.heap[g]? := fun g e => hg.but.block g (hlt g (planM_t e)) (fun hm => by
    rcases List.mem_cons.1 hm with e2 | hm
    · exact (p1 g e).1 e2
    · exact (p1 g e).2.2 (by simpa using hm))
  have hkr : ∀ g, rb = some g → w'.heap[g]? = w.heap[g]? := fun g e => hg.but.block g (hlt g (planM_r e)) (fun hm => by
    rcases List.mem_cons.1 hm with e2 | hm
    · exact (p2 g e).1 e2
    · exact (p2 g e).2 (by simpa using hm))
  have hsub : ∀ g ∈ planM P tb rb nb', g ∈ planM P tb rb nb ∨ w.heap.size ≤ g := fun g hm => by
    rw [mem_planM] at hm
    rcases hm with e | e | e | e
    · exact .inl (by rw [e]; exact planM_P)
    · exact .inl (planM_t e)
    · exact .inl (planM_r e)
    · rcases hg.nbs with e2 | ⟨g', e2, hle⟩
      · exact .inl (planM_n (by rw [← e2]; exact e))
      · rw [e2] at e; cases e; exact .inr hle
  refine ⟨⟨⟨v1, by rw [hg.cells 0 (by decide)]; exact a1, owns_same a2 (fun g e => hkt g (by rw [← a3]; exact e)), a3⟩, ⟨v2, by rw [hg.cells 1 (by decide)]; exact b1, owns_same b2 (fun g e => hkr g (by rw [← b3]; exact e)), b3⟩, hg.rep, by rw [hg.cells 3 (by decide)]; exact h.c3, by rw [hg.cells 4 (by decide)]; exact h.c4, fun j => by rw [hg.frz]; exact h.frz j, ?_, ?_, h.len, fun j h1 h2 => ?_⟩, hsub, hg.but.sub (fun g hm => .inl (hin g hm))⟩
  · refine planM_nodup (fun g e => ⟨(p1 g e).1, (p1 g e).2.1, fun e2 => ?_⟩) (fun g e => ⟨(p2 g e).1, fun e2 => ?_⟩) (fun g e e2 => hg.rep.ne (by rw [e, e2]))
    · rcases hg.nbs with e3 | ⟨g', e3, hle⟩
      · exact (p1 g e).2.2 (by rw [← e3]; exact e2)
      · rw [e3] at e2; cases e2; have := hlt g (planM_t e); omega
    · rcases hg.nbs with e3 | ⟨g', e3, hle⟩
      · exact (p2 g e).2 (by rw [← e3]; exact e2)
      · rw [e3] at e2; cases e2; have := hlt g (planM_r e); omega
  · intro g hm
    rw [mem_planM] at hm
    rcases hm with e | e | e | e
    · rw [e]; exact hg.rep.lt.1
    · have := hlt g (planM_t e); omega
    · have := hlt g (planM_r e); omega
    · exact hg.rep.lt.2 g e
  · obtain ⟨r1, r2, r3, r4, r5⟩ := h.ok j h1 h2
    refine ⟨r1, r2, r3, r4, Tree.keep (fun g hm => ⟨by omega, fun hm2 => ?_⟩) (fun g hm => hg.but.block g hm.1 (fun e => hm.2 (hin g e))) get_append _ _ r5⟩
    rcases hsub g hm2 with e | e
    · exact hm.2 e
    · omega

/-- the words of a line, for the expression -/
theorem words_line {w w1 : World} {P : Nat} {tb rb nb : Option Nat} {N : List NV} {rs : List RR} {st : List Ty} (h : PlanRep w P tb rb nb N rs st) (hB : Below w.heap.size w w1) {g cap : Nat} {xs : List (List UInt8)} (hg : w.heap.size ≤ g) (hg1 : g < w1.heap.size) (hc : xs.length ≤ cap)
    (hcell : ∀ i (h : i < xs.length), w1.cell? ⟨g, i, none⟩ = some (strV xs[i])) : NRep w1 P nb N ∧ WordsR w1 (P :: nb.toList) (.slice (some ⟨g, 0, none⟩) xs.length cap) xs := by
  refine ⟨h.nodes.below hB, g, 0, cap, rfl, hc, hg1, fun hm => ?_, fun i hi => by rw [Nat.zero_add]; exact hcell i hi⟩
  rcases List.mem_cons.1 hm with e | hm
  · have := h.lt P planM_P; omega
  · have := h.lt g (planM_n (by simpa using hm)); omega

set_option maxRecDepth 100000 in
set_option maxHeartbeats 8000000 in
/-- a relation's line that is none -/
theorem rline_relbad (P : Nat) (tb rb nb : Option Nat) (N : List NV) (rs : List RR) (st : List Ty) (num len : Nat) (s : ByteArray) (w : World) (h : PlanRep w P tb rb nb N rs st) (hs : s.size ≤ 100000) (hN : N.length + s.size ≤ 900000) (hq : ¬ (s.data.toList = [] ∨ s.data.toList.take 2 = [47, 47])) (w0 n : List UInt8) (ex : List (List UInt8)) (hsp : splitL 32 s.data.toList = w0 :: n :: ex)
    (hw : w0 = [114, 101, 108] ∨ w0 = [115, 101, 116]) (hn : nameL n = true) (hbad : wholeL ex = none ∨ st = []) :
    Calls Tryd.prog 16 #[.pointer (some ⟨P, 0, none⟩), .string s, .int .i64 (num : Int)] w (RLAns w P tb rb nb N len (lineS st num s.data.toList)) := by
  have hR : ∀ b, relS st num b (n :: ex) = (2, st) := fun b => by
    unfold relS
    rcases hbad with hb | rfl
    · simp only [hn, hb]
      cases st.getLast? <;> rfl
    · rfl
  have hL : lineS st num s.data.toList = (2, st) := by
    rw [lineS_words hq hsp, hR, hR]
    rcases hw with rfl | rfl <;> rfl
  rw [hL]
  have HA : Hid (∀ w', ButM (planM P tb rb nb) w w' → RLAns w P tb rb nb N len (2, st) (.returned (.int .i64 2)) w') := fun w' hbq => RLAns.bad (by decide) hbq
  generalize RLAns w P tb rb nb N len (2, st) = R at *
  obtain ⟨q1, q2⟩ := blank_size hq
  have hX2 := pieces_two s w (by omega) w0 n ex hsp
  have hz : ∀ x ∈ w0 :: n :: ex, x.length ≤ 1000000 := fun x hx => by
    have := splitL_mlen 32 s.data.toList x (by rw [hsp]; exact hx)
    rw [size_list] at this; omega
  have hcnt : ex.length + 2 ≤ s.size + 1 := by
    have := splitL_count 32 s.data.toList
    rw [hsp, size_list] at this
    simpa using this
  have hsz : 2 ≤ s.size := by
    have := splitL_mlen 32 s.data.toList w0 (by rw [hsp]; simp)
    rw [size_list] at this
    rcases hw with rfl | rfl <;> (simp at this; omega)
  have hNm : ∀ u, Calls Tryd.prog 37 #[.string ⟨n.toArray⟩] u fun e w' => e = .returned (.bool true) ∧ w' = u := fun u => by
    have := rname_any ⟨n.toArray⟩ u (by show n.toArray.size ≤ _; simpa using hz n (by simp))
    rw [show (⟨n.toArray⟩ : ByteArray).data.toList = n from rfl, hn] at this
    exact this
  have HEx : Hid (∀ w1 g cap, Below w.heap.size w w1 → w.heap.size ≤ g → g < w1.heap.size → ex.length + 2 ≤ cap → (∀ i (h : i < (w0 :: n :: ex).length), w1.cell? ⟨g, i, none⟩ = some (strV (w0 :: n :: ex)[i])) →
      Calls Tryd.prog 39 #[.pointer (some ⟨P, 0, none⟩), .slice (some ⟨g, 0, none⟩) (ex.length + 2) cap, .int .i64 2] w1 fun e w' => Hid (ButM (P :: nb.toList) w1 w') ∧ ((∃ k : Int, e = .returned (.tuple #[.int .i64 (-1), .int .i64 k])) ∨ (∃ top k : Nat, e = .returned (.tuple #[.int .i64 (top : Int), .int .i64 (k : Int)]) ∧ k ≠ ex.length + 2) ∨ (∃ top k : Nat, e = .returned (.tuple #[.int .i64 (top : Int), .int .i64 (k : Int)]) ∧ k = ex.length + 2 ∧ ∃ a c, w'.cell? ⟨P, 0, none⟩ = some (.slice a 0 c)))) := fun w1 g cap hB h1 h2 h3 h4 => by
    obtain ⟨hr, hW⟩ := words_line h hB h1 h2 (xs := w0 :: n :: ex) h3 h4
    have hE := rexpr_all (ex.length + 2) P nb N _ (w0 :: n :: ex) 2 w1 hr hW (by simp) (by simp) (by simp; omega) (by simp; omega) hz
    have e2 : ((2 : Nat) : Int) = 2 := rfl
    rw [e2] at hE
    refine hE.mono ?_
    intro e w' hA
    have ed : (w0 :: n :: ex).drop 2 = ex := rfl
    rw [ed] at hA
    cases he : exprL ex with
    | none =>
      rw [he] at hA
      exact ⟨hA.2, .inl hA.1⟩
    | some q =>
      obtain ⟨x, rest⟩ := q
      rw [he] at hA
      obtain ⟨top, k, nb', N', e1, hk, hik, hrest, hg, hn2, hT⟩ := hA
      refine ⟨hg.but, ?_⟩
      right
      by_cases hkl : k = ex.length + 2
      · right
        have hr0 : rest = [] := by rw [hrest, hkl]; simp
        have hst : st = [] := hbad.resolve_left (by unfold wholeL; rw [he, hr0]; simp)
        refine ⟨top, k, e1, hkl, ?_⟩
        rw [hg.cells 0 (by decide)]
        obtain ⟨v, a1, a2, a3⟩ := (h.below hB).types
        rw [hst] at a2
        rcases a2.2 with ⟨e, _⟩ | ⟨g', cap', cur, e, h7⟩
        · exact ⟨_, _, by rw [a1, e]⟩
        · exact ⟨_, _, by rw [a1, e]; rfl⟩
      · exact .inl ⟨top, k, e1, hkl⟩
  clear hR hL hq hsp hn hz h hbad
  generalize hXX : (⟨n.toArray⟩ : ByteArray) = X at *
  clear hXX
  generalize hm : ex.length = m at *
  have hq5 : ¬ ((m : Int) + 2 < 2) := by omega
  rcases hw with rfl | rfl
  all_goals
    go_enter Tryd.func16, Tryd.ntmps16
    go_wp2_with fail
    refine hX2.mono ?_
    clear hX2
    rintro e w1 ⟨g, cap, rfl, hc1, hc2, hc3, hc4, hc5, hc6, hc7⟩
    have hE := HEx.out w1 g cap hc7.out hc2 hc3 hc1 hc6.out
    clear HEx hc6 hm
    go_wp2_with (go_at_call 37; refine (hNm _).mono ?_; rintro e w' ⟨rfl, hw⟩; subst w')
    refine hE.mono ?_
    clear hE
    rintro e w2 ⟨HBm, (⟨k, rfl⟩ | ⟨top, k, rfl, hk⟩ | ⟨top, k, rfl, hk, ca, cc, hcell⟩)⟩
    all_goals have HBM : Hid (ButM (planM P tb rb nb) w w2) := line_but hc7.out HBm.out
    · go_wp2
      try go_ret
      exact HA.out _ ⟨HBM.out.os, HBM.out.tape, HBM.out.output, HBM.out.size, HBM.out.block⟩
    · have hk2 : ¬ ((k : Int) = (m : Int) + 2) := by omega
      go_wp2
      try go_ret
      exact HA.out _ ⟨HBM.out.os, HBM.out.tape, HBM.out.output, HBM.out.size, HBM.out.block⟩
    · subst hk
      go_wp2
      try go_ret
      exact HA.out _ ⟨HBM.out.os, HBM.out.tape, HBM.out.output, HBM.out.size, HBM.out.block⟩
end Go.Proofs.YtlgodpadcilcaaaDoor
namespace Go.Proofs.YtlgodpadcilcaaaDoor
open Go.ChangeShapes Go.WideShapes Go.ChangeAt Go.RowKit

theorem last_at {st : List Ty} {ty : Ty} (h : st.getLast? = some ty) : 0 < st.length ∧ (st.map (·.nm))[st.length - 1]? = some ty.nm := by
  have e := getLast_split h
  have hl : st.length = st.dropLast.length + 1 := by
    have := congrArg List.length e
    simpa using this
  refine ⟨by omega, ?_⟩
  rw [show st.length - 1 = st.dropLast.length by omega]
  rw [List.getElem?_map, e]
  simp
theorem relOK_last {S : Nat → Prop} {w : World} {N : List NV} {st : List Ty} {x : RR} {r : Rl} {ty : Ty} (hok : StOk st) (h : st.getLast? = some ty) (hr : RelOK S w N st x r) : ((x.ty : Int) == (st.length : Int) - 1) = (r.ty == ty.nm) := by
  obtain ⟨hl, hat⟩ := last_at h
  obtain ⟨r1, _⟩ := hr
  rw [Bool.eq_iff_iff, beq_iff_eq, beq_iff_eq]
  constructor
  · intro e
    have e2 : x.ty = st.length - 1 := by omega
    rw [e2, hat] at r1
    exact (Option.some.inj r1).symm
  · intro e
    rw [e, ← hat] at r1
    have h1 : x.ty < (st.map (·.nm)).length := by
      rw [hat] at r1
      exact (List.getElem?_eq_some_iff.1 r1).1
    have := (List.getElem?_inj h1 hok.nodup).1 r1
    omega
theorem map_last {w : World} {P : Nat} {tb rb nb : Option Nat} {N : List NV} {rs : List RR} {st : List Ty} (h : PlanRep w P tb rb nb N rs st) (hok : StOk st) {ty : Ty} (hl : st.getLast? = some ty) : rs.map (fun x => ((x.ty : Int) == (st.length : Int) - 1)) = (relsOf st).map (fun r => r.ty == ty.nm) := by
  refine List.ext_getElem (by simp [h.len]) (fun j h1 h2 => ?_)
  rw [List.getElem_map, List.getElem_map]
  exact relOK_last hok hl (h.ok j (by simpa using h1) (by simpa using h2))
theorem rels_last {st : List Ty} (hok : StOk st) {ty : Ty} (hl : st.getLast? = some ty) : (relsOf st).filter (fun r => r.ty == ty.nm) = ty.rels := by
  have e := getLast_split hl
  have hty : ty ∈ st := by rw [e]; simp
  have h1 : relsOf st = relsOf st.dropLast ++ ty.rels := by
    have : relsOf st = relsOf (st.dropLast ++ [ty]) := congrArg relsOf e
    rw [this]
    simp [relsOf]
  rw [h1, List.filter_append]
  have h2 : (relsOf st.dropLast).filter (fun r => r.ty == ty.nm) = [] := by
    rw [List.filter_eq_nil_iff]
    intro r hr he
    obtain ⟨t, ht, hrt⟩ := mem_relsOf.1 hr
    have htm : t ∈ st := List.dropLast_subset _ ht
    have hnm : t.nm = ty.nm := by rw [← (hok.rels t htm).2.2 r hrt]; simpa using he
    have hnd := hok.nodup
    rw [e, List.map_append, List.nodup_append] at hnd
    exact hnd.2.2 t.nm (List.mem_map.2 ⟨t, ht, rfl⟩) ty.nm (by simp) hnm
  have h3 : ty.rels.filter (fun r => r.ty == ty.nm) = ty.rels := by
    rw [List.filter_eq_self]
    intro r hr
    simp [(hok.rels ty hty).2.2 r hr]
  rw [h2, h3, List.nil_append]
theorem count_last {w : World} {P : Nat} {tb rb nb : Option Nat} {N : List NV} {rs : List RR} {st : List Ty} (h : PlanRep w P tb rb nb N rs st) (hok : StOk st) {ty : Ty} (hl : st.getLast? = some ty) : rs.countP (fun x => ((x.ty : Int) == (st.length : Int) - 1)) = ty.rels.length := by
  have e := congrArg (List.countP id) (map_last h hok hl)
  rw [List.countP_map, List.countP_map] at e
  rw [← rels_last hok hl, ← List.countP_eq_length_filter]
  exact e
theorem found_last {w : World} {P : Nat} {tb rb nb : Option Nat} {N : List NV} {rs : List RR} {st : List Ty} (h : PlanRep w P tb rb nb N rs st) (hok : StOk st) {ty : Ty} (hl : st.getLast? = some ty) (n : List UInt8) : (∃ x ∈ rs, relAt ((st.length : Int) - 1) n x = true) ↔ n ∈ ty.rels.map (·.nm) := by
  rw [← rels_last hok hl, List.mem_map]
  constructor
  · rintro ⟨x, hx, he⟩
    obtain ⟨j, hj, rfl⟩ := List.getElem_of_mem hx
    have hj2 : j < (relsOf st).length := by rw [← h.len]; exact hj
    have hr := h.ok j hj hj2
    unfold relAt at he
    rw [relOK_last hok hl hr, Bool.and_eq_true] at he
    exact ⟨(relsOf st)[j], List.mem_filter.2 ⟨List.getElem_mem _, he.1⟩, by rw [← hr.2.1]; simpa using he.2⟩
  · rintro ⟨r, hr, rfl⟩
    obtain ⟨hr1, hr2⟩ := List.mem_filter.1 hr
    obtain ⟨j, hj, rfl⟩ := List.getElem_of_mem hr1
    have hj2 : j < rs.length := by rw [h.len]; exact hj
    have hr := h.ok j hj2 hj
    refine ⟨rs[j], List.getElem_mem _, ?_⟩
    unfold relAt
    rw [relOK_last hok hl hr, hr2, hr.2.1]
    simp
theorem firstI_ex {α : Type} {p : α → Bool} {l : List α} (h : ∃ x ∈ l, p x = true) : ∃ k : Nat, firstI p l = (k : Int) := by
  unfold firstI
  cases hf : l.findIdx? p with
  | some i => exact ⟨i, rfl⟩
  | none =>
    rw [List.findIdx?_eq_none_iff] at hf
    obtain ⟨x, hx, he⟩ := h
    rw [hf x hx] at he
    cases he
theorem firstI_nex {α : Type} {p : α → Bool} {l : List α} (h : ¬ ∃ x ∈ l, p x = true) : firstI p l = -1 := firstI_none (fun j hj => by
  cases hp : p l[j] with
  | false => rfl
  | true => exact absurd ⟨l[j], List.getElem_mem _, hp⟩ h)

theorem flat_len : ∀ (st : List Ty), (∀ ty ∈ st, ty.rels.length ≤ 6) → (relsOf st).length ≤ 6 * st.length
  | [], _ => by simp [relsOf]
  | t :: st, h => by
    have h1 := flat_len st (fun ty hty => h ty (by simp [hty]))
    have h2 := h t (by simp)
    simp only [relsOf, List.flatMap_cons, List.length_append, List.length_cons] at h1 ⊢
    omega
theorem relsOf_len {st : List Ty} (h : StOk st) : (relsOf st).length ≤ 36 := by
  have h1 := flat_len st (fun ty hty => (h.rels ty hty).1)
  have h2 := h.few
  omega

/-- one relation more -/
theorem PlanRep.addRel {w w' : World} {P : Nat} {tb rb nb : Option Nat} {N : List NV} {rs : List RR} {st : List Ty} {G cap : Nat} (h : PlanRep w P tb rb nb N rs st) {ty : Ty} (hl : st.getLast? = some ty) {r : Rl} {x : RR} (hx : RelOK (fun g => g < w.heap.size ∧ g ∉ planM P tb rb nb) w N st x r)
    (hc : w'.cell? ⟨P, 1, none⟩ = some (.slice (some ⟨G, 0, none⟩) (rs.length + 1) cap)) (hown : w'.ownsRow 0 59 5 (.slice (some ⟨G, 0, none⟩) (rs.length + 1) cap) (rs.length + 1) ((rs.map RR.cells).flatten ++ x.cells)) (hG : rb = some G ∨ w.heap.size ≤ G) (hGl : G < w'.heap.size)
    (hoth : ∀ i, i ≠ 1 → w'.cell? ⟨P, i, none⟩ = w.cell? ⟨P, i, none⟩) (hfr : ∀ i, w'.frozen? ⟨P, i, none⟩ = w.frozen? ⟨P, i, none⟩) (hs : w.heap.size ≤ w'.heap.size) (hb : ∀ k, k < w.heap.size → k ≠ P → rb ≠ some k → w'.heap[k]? = w.heap[k]?) :
    PlanRep w' P tb (some G) nb N (rs ++ [x]) (st.dropLast ++ [⟨ty.nm, ty.rels ++ [r]⟩]) ∧ ∀ g ∈ planM P tb (some G) nb, g ∈ planM P tb rb nb ∨ w.heap.size ≤ g := by
  obtain ⟨p1, p2, p3⟩ := planM_apart h.nodup
  have hlt := h.lt
  have hPl := hlt P planM_P
  obtain ⟨v1, a1, a2, a3⟩ := h.types
  have hkt : ∀ g, tb = some g → w'.heap[g]? = w.heap[g]? := fun g hg => hb g (hlt g (planM_t hg)) (p1 g hg).1 (p1 g hg).2.1
  have hkn : ∀ g, nb = some g → w'.heap[g]? = w.heap[g]? := fun g hg => hb g (hlt g (planM_n hg)) (p3 g hg) (fun e => (p2 g e).2 hg)
  have hR := relsOf_add hl r
  have hnm : (st.dropLast ++ [(⟨ty.nm, ty.rels ++ [r]⟩ : Ty)]).map (·.nm) = st.map (·.nm) := by
    have e : st.map (·.nm) = (st.dropLast ++ [ty]).map (·.nm) := congrArg (List.map (·.nm)) (getLast_split hl)
    rw [e]
    simp
  have hsub : ∀ g ∈ planM P tb (some G) nb, g ∈ planM P tb rb nb ∨ w.heap.size ≤ g := fun g hg => by
    rw [mem_planM] at hg ⊢
    rcases hg with e | e | e | e
    · exact .inl (.inl e)
    · exact .inl (.inr (.inl e))
    · cases e
      rcases hG with e | e
      · exact .inl (.inr (.inr (.inl e)))
      · exact .inr e
    · exact .inl (.inr (.inr (.inr e)))
  have htree : ∀ e i, Tree (fun g => g < w.heap.size ∧ g ∉ planM P tb rb nb) w N e i → Tree (fun g => g < w'.heap.size ∧ g ∉ planM P tb (some G) nb) w' N e i := fun e i ht => by
    refine Tree.keep (fun g hg => ⟨by omega, fun hm => ?_⟩) (fun g hg => hb g hg.1 (fun e => hg.2 (by rw [e]; exact planM_P)) (fun e => hg.2 (planM_r e))) (fun _ _ h => h) _ _ ht
    rcases hsub g hm with e | e
    · exact hg.2 e
    · omega
  refine ⟨⟨⟨v1, by rw [hoth 0 (by decide)]; exact a1, by rw [hnm]; exact owns_same a2 (fun g hg => hkt g (by rw [← a3]; exact hg)), a3⟩, ⟨_, hc, ?_, rfl⟩, h.nodes.same (hoth 2 (by decide)) (hfr 2) hkn, by rw [hoth 3 (by decide)]; exact h.c3, by rw [hoth 4 (by decide)]; exact h.c4, fun j => by rw [hfr]; exact h.frz j, ?_, ?_, by rw [hR]; simp [h.len], ?_⟩, hsub⟩
  · unfold RowRR
    rw [List.length_append, List.length_singleton, List.map_append, List.flatten_append]
    simpa using hown
  · refine planM_nodup (fun g hg => ⟨(p1 g hg).1, fun e => ?_, (p1 g hg).2.2⟩) (fun g hg => ?_) p3
    · cases e
      rcases hG with e | e
      · exact (p1 G hg).2.1 e
      · have := hlt G (planM_t hg); omega
    · cases hg
      rcases hG with e | e
      · exact p2 G e
      · exact ⟨by omega, fun e2 => by have := hlt G (planM_n e2); omega⟩
  · intro g hg
    rw [mem_planM] at hg
    rcases hg with e | e | e | e
    · omega
    · have := hlt g (planM_t e); omega
    · cases e; exact hGl
    · have := hlt g (planM_n e); omega
  · intro j h1 h2
    simp only [hR] at h2 ⊢
    have hlen := h.len
    by_cases hj : j < rs.length
    · rw [List.getElem_append_left hj, List.getElem_append_left (by omega)]
      obtain ⟨r1, r2, r3, r4, r5⟩ := h.ok j hj (by omega)
      exact ⟨by rw [hnm]; exact r1, r2, r3, r4, htree _ _ r5⟩
    · have e : j = rs.length := by simp at h1; omega
      subst e
      rw [List.getElem_append_right (Nat.le_refl _), List.getElem_append_right (by omega)]
      simp only [Nat.sub_self, hlen, List.getElem_singleton]
      obtain ⟨r1, r2, r3, r4, r5⟩ := hx
      exact ⟨by rw [hnm]; exact r1, r2, r3, r4, htree _ _ r5⟩

theorem rrel_fin {w w1 w2 w3 : World} {P : Nat} {tb rb nb nb' : Option Nat} {N N' : List NV} {rs : List RR} {st : List Ty} {len g3 cap3 : Nat} {o : Obj} {ty : Ty} {r : Rl} {x : RR} (hB : Below w.heap.size w w1) (hp1 : PlanRep w1 P tb rb nb N rs st) (hg : NGrow P nb N w1 w2 nb' N') (hl : st.getLast? = some ty) (hN : N'.length ≤ len)
    (hx : RelOK (fun g => g < w2.heap.size ∧ g ∉ planM P tb rb nb') w2 (N ++ N') st x r) (hgrow : ((w2.alloc o).drew).grownBy w3 rb) (hlt : g3 < w3.heap.size)
    (hown : w3.ownsRow 0 59 5 (.slice (some ⟨g3, 0, none⟩) (rs.length + 1) cap3) (rs.length + 1) ((rs.map RR.cells).flatten ++ x.cells)) (hat : rb = some g3 ∨ g3 = w2.heap.size + 1) (hc : (w3.setCell ⟨P, 1, none⟩ (.slice (some ⟨g3, 0, none⟩) (rs.length + 1) cap3)).cell? ⟨P, 1, none⟩ = some (.slice (some ⟨g3, 0, none⟩) (rs.length + 1) cap3)) :
    RLAns w P tb rb nb N len (0, st.dropLast ++ [⟨ty.nm, ty.rels ++ [r]⟩]) (.returned (.int .i64 0)) (w3.setCell ⟨P, 1, none⟩ (.slice (some ⟨g3, 0, none⟩) (rs.length + 1) cap3)) := by
  obtain ⟨hp2, hsub2, hbut2⟩ := hp1.grow hg
  have hP1 := hp2.lt P planM_P
  have hap := planM_apart hp2.nodup
  have hgP : g3 ≠ P := by
    rcases hat with e | e
    · exact (hap.2.1 g3 e).1
    · omega
  have hs0 : (w2.alloc o).drew.heap.size = w2.heap.size + 1 := by show (w2.alloc o).heap.size = _; simp
  have hs3 := hgrow.size
  have hsB := hB.size
  have hs2 := hbut2.size
  have hblk : ∀ k, k < w2.heap.size → rb ≠ some k → w3.heap[k]? = w2.heap[k]? := fun k hk ht => (hgrow.block k (by omega) (fun e => ht e.symm)).trans (Below.heap_alloc w2 _ k hk)
  have hPw3 : w3.heap[P]? = w2.heap[P]? := hblk P hP1 (fun e => (hap.2.1 P e).1 rfl)
  have hbig : ∀ k, k < w2.heap.size → k ≠ P → rb ≠ some k → (w3.setCell ⟨P, 1, none⟩ (.slice (some ⟨g3, 0, none⟩) (rs.length + 1) cap3)).heap[k]? = w2.heap[k]? := fun k hk hkP ht => (Below.heap_setCell _ _ _ _ hkP).trans (hblk k hk ht)
  obtain ⟨hA, hS⟩ := hp2.addRel hl hx hc (World.ownsRow.kept hown (setCell_grown w3 P 1 _) (.inr (fun e => hgP (by cases e; rfl)))) (orTo hat (fun e => by omega)) (by simp; exact hlt)
    (fun i hi => by rw [cell_set_ne hi]; exact World.cell?_of_block (w := w2) (a := ⟨P, i, none⟩) hPw3) (fun i => by rw [World.frozen?_setCell]; exact World.frozen?_of_block (w := w2) (a := ⟨P, i, none⟩) hPw3) (by simp; omega) hbig
  refine rlans_mk ⟨tb, some g3, nb', N', rs ++ [x], hA, hN, ⟨?_, ?_, ?_, by simp; omega, fun k hk hm => ?_⟩, fun g hg => ?_⟩
  · show w3.os = w.os; rw [hgrow.os]; exact hbut2.os.trans hB.os
  · show w3.tape = w.tape; rw [hgrow.tape]; exact hbut2.tape.trans hB.tape
  · show w3.output = w.output; rw [hgrow.output]; exact hbut2.output.trans hB.output
  · rw [hbig k (by omega) (fun e => hm (by rw [e]; exact planM_P)) (fun e => hm (planM_r e))]
    exact (hbut2.block k (by omega) hm).trans (hB.block k hk)
  · rcases hS g hg with e | e
    · rcases hsub2 g e with e | e
      · exact .inl e
      · right; omega
    · right; omega
end Go.Proofs.YtlgodpadcilcaaaDoor
namespace Go.Proofs.YtlgodpadcilcaaaDoor
open Go.ChangeShapes Go.WideShapes Go.ChangeAt Go.RowKit

/-- two relations are of one type -/
theorem relOK_ty {S T : Nat → Prop} {w : World} {N : List NV} {st : List Ty} {x y : RR} {r q : Rl} (hok : StOk st) (hx : RelOK S w N st x r) (hy : RelOK T w N st y q) : ((y.ty : Int) == (x.ty : Int)) = (q.ty == r.ty) := by
  rw [Bool.eq_iff_iff, beq_iff_eq, beq_iff_eq]
  have h1 := hx.1
  have h2 := hy.1
  constructor
  · intro e
    have e2 : y.ty = x.ty := by omega
    rw [e2, h1] at h2
    exact (Option.some.inj h2).symm
  · intro e
    rw [e, ← h1] at h2
    have hlt : y.ty < (st.map (·.nm)).length := by
      rw [h1] at h2
      exact (List.getElem?_eq_some_iff.1 h2).1
    have := (List.getElem?_inj hlt hok.nodup).1 h2
    omega
theorem any_ty {w : World} {P : Nat} {tb rb nb : Option Nat} {N : List NV} {rs : List RR} {st : List Ty} (h : PlanRep w P tb rb nb N rs st) (hok : StOk st) (a : Nat) (ha : a < rs.length) (ha' : a < (relsOf st).length) (n : List UInt8) : rs.any (relAt (rs[a].ty : Int) n) = (relsOf st).any (fun q => (q.ty == (relsOf st)[a].ty) && (q.nm == n)) := by
  have e : rs.map (relAt (rs[a].ty : Int) n) = (relsOf st).map (fun q => (q.ty == (relsOf st)[a].ty) && (q.nm == n)) := by
    refine List.ext_getElem (by simp [h.len]) (fun j h1 h2 => ?_)
    rw [List.getElem_map, List.getElem_map]
    have hr := h.ok j (by simpa using h1) (by simpa using h2)
    unfold relAt
    rw [relOK_ty hok (h.ok a ha ha') hr, hr.2.1]
  have e2 := congrArg (fun l => l.any id) e
  simp only [List.any_map, Function.id_comp] at e2
  exact e2
theorem any_nm {w : World} {P : Nat} {tb rb nb : Option Nat} {N : List NV} {rs : List RR} {st : List Ty} (h : PlanRep w P tb rb nb N rs st) (n : List UInt8) : rs.any (fun x => x.nm == n) = (relsOf st).any (fun q => q.nm == n) := by
  have e : rs.map (fun x => x.nm == n) = (relsOf st).map (fun q => q.nm == n) := by
    refine List.ext_getElem (by simp [h.len]) (fun j h1 h2 => ?_)
    rw [List.getElem_map, List.getElem_map]
    have hr := h.ok j (by simpa using h1) (by simpa using h2)
    rw [hr.2.1]
  have e2 := congrArg (fun l => l.any id) e
  simp only [List.any_map, Function.id_comp] at e2
  exact e2
theorem firstI_any {α : Type} {p : α → Bool} {l : List α} : (l.any p = true ∧ ∃ k : Nat, firstI p l = (k : Int)) ∨ (l.any p = false ∧ firstI p l = -1) := by
  cases hp : l.any p with
  | true =>
    rw [List.any_eq_true] at hp
    exact .inl ⟨rfl, firstI_ex hp⟩
  | false =>
    refine .inr ⟨rfl, firstI_nex (fun ⟨x, hx, he⟩ => ?_)⟩
    rw [List.any_eq_false] at hp
    exact hp x hx he

/-- the plan as unknown and hangs read it -/
structure PlanAt (w : World) (P : Nat) (N : List NV) (rs : List RR) : Prop where
  lt : P < w.heap.size
  c1 : ∃ G1 cap1, w.cell? ⟨P, 1, none⟩ = some (.slice (some ⟨G1, 0, none⟩) rs.length cap1) ∧ G1 < w.heap.size ∧ RowRR w (.slice (some ⟨G1, 0, none⟩) rs.length cap1) rs
  c2 : ∃ G2 cap2, w.cell? ⟨P, 2, none⟩ = some (.slice (some ⟨G2, 0, none⟩) N.length cap2) ∧ G2 < w.heap.size ∧ RowN w (.slice (some ⟨G2, 0, none⟩) N.length cap2) N
theorem PlanRep.at {w : World} {P : Nat} {tb rb nb : Option Nat} {N : List NV} {rs : List RR} {st : List Ty} (h : PlanRep w P tb rb nb N rs st) (h1 : 0 < rs.length) (h2 : 0 < N.length) : PlanAt w P N rs := by
  obtain ⟨vr, r1, r2, r3⟩ := h.rels
  obtain ⟨vn, n1, n2, n3⟩ := h.nodes.row
  refine ⟨h.lt P planM_P, ?_, ?_⟩
  · rcases r2.2 with ⟨_, h0⟩ | ⟨g, cap', cur, e, _⟩
    · omega
    · subst e
      exact ⟨g, cap', r1, h.lt g (planM_r (by rw [← r3]; rfl)), r2⟩
  · rcases n2.2 with ⟨_, h0⟩ | ⟨g, cap', cur, e, _⟩
    · omega
    · subst e
      exact ⟨g, cap', n1, h.lt g (planM_n (by rw [← n3]; rfl)), n2⟩
theorem PlanAt.below {w w' : World} {P : Nat} {N : List NV} {rs : List RR} (h : PlanAt w P N rs) (hb : Below w.heap.size w w') : PlanAt w' P N rs := by
  have hs := hb.size
  obtain ⟨G1, c1, a1, a2, a3⟩ := h.c1
  obtain ⟨G2, c2, b1, b2, b3⟩ := h.c2
  have hl := h.lt
  refine ⟨by omega, ⟨G1, c1, by rw [hb.cell (p := ⟨P, 1, none⟩) hl]; exact a1, by omega, owns_same a3 (fun g hg => by cases hg; exact hb.block G1 a2)⟩, ⟨G2, c2, by rw [hb.cell (p := ⟨P, 2, none⟩) hl]; exact b1, by omega, owns_same b3 (fun g hg => by cases hg; exact hb.block G2 b2)⟩⟩

/-- what a node's four cells are -/
theorem PlanAt.node {w : World} {P : Nat} {N : List NV} {rs : List RR} (h : PlanAt w P N rs) {i : Nat} {x : NV} (hx : N[i]? = some x) : ∃ G2 cap2, w.cell? ⟨P, 2, none⟩ = some (.slice (some ⟨G2, 0, none⟩) N.length cap2) ∧ i < N.length ∧ w.cell? ⟨G2, i * 4, none⟩ = some (.int .u8 x.sg) ∧ w.cell? ⟨G2, i * 4 + 1, none⟩ = some (.string ⟨x.a.toArray⟩) ∧ w.cell? ⟨G2, i * 4 + 2, none⟩ = some (.string ⟨x.b.toArray⟩) ∧ w.cell? ⟨G2, i * 4 + 3, none⟩ = some (.slice x.p x.l x.c) := by
  obtain ⟨G2, cap2, b1, b2, b3⟩ := h.c2
  obtain ⟨hi, rfl⟩ := List.getElem?_eq_some_iff.1 hx
  refine ⟨G2, cap2, b1, hi, ?_, ?_, ?_, ?_⟩
  · have := RowN.cell b3 i hi 0 (by decide); rw [Nat.add_zero] at this; rw [this]; rfl
  · rw [RowN.cell b3 i hi 1 (by decide)]; rfl
  · rw [RowN.cell b3 i hi 2 (by decide)]; rfl
  · rw [RowN.cell b3 i hi 3 (by decide)]; rfl

set_option maxRecDepth 100000 in
set_option maxHeartbeats 4000000 in
theorem unknown_self (P a i : Nat) (N : List NV) (rs : List RR) (w : World) (h : PlanAt w P N rs) (hx : N[i]? = some ⟨115, [], [], none, 0, 0⟩) :
    Calls Tryd.prog 17 #[.pointer (some ⟨P, 0, none⟩), .int .i64 (a : Int), .int .i64 (i : Int)] w fun e w' => e = .returned (.bool false) ∧ Below w.heap.size w w' := by
  obtain ⟨G2, cap2, b1, hi, d0, d1, d2, d3⟩ := h.node hx
  simp only at d0 d1 d2 d3
  have HB : Hid (∀ o, Below w.heap.size w (w.alloc o)) := fun o => (Below.refl _ _).alloc (Nat.le_refl _) _
  generalize N.length = nl at *
  go_enter Tryd.func17, Tryd.ntmps17
  go_wp2
  go_loop [11] (fun j => j = .int .i64 0) (fun _ => 0)
  case atStart => rfl
  case round =>
    subst hrel
    go_wp2
    go_ret
    exact ⟨rfl, HB.out _⟩

set_option maxRecDepth 100000 in
set_option maxHeartbeats 8000000 in
theorem unknown_name (P a i : Nat) (N : List NV) (rs : List RR) (x : List UInt8) (w : World) (h : PlanAt w P N rs) (ha : a < rs.length) (hl : rs.length ≤ 1000000) (hx : N[i]? = some ⟨110, x, [], none, 0, 0⟩) :
    Calls Tryd.prog 17 #[.pointer (some ⟨P, 0, none⟩), .int .i64 (a : Int), .int .i64 (i : Int)] w fun e w' => e = .returned (.bool (!rs.any (relAt (rs[a].ty : Int) x))) ∧ Below w.heap.size w w' := by
  obtain ⟨G2, cap2, b1, hi, d0, d1, d2, d3⟩ := h.node hx
  obtain ⟨G1, cap1, a1, a2, a3⟩ := h.c1
  simp only at d0 d1 d2 d3
  have c0 : w.cell? ⟨G1, a * 5, none⟩ = some (.int .i64 (rs[a].ty : Int)) := by
    have := RowRR.cell a3 a ha 0 (by decide); rw [Nat.add_zero] at this; rw [this]; rfl
  have hlt := h.lt
  obtain ⟨W, hW⟩ : ∃ W, w.alloc (.cells #[.int .u8 110, .string ⟨x.toArray⟩, .string ⟨#[]⟩, .slice none 0 0] 102) = W := ⟨_, rfl⟩
  have hb : Below w.heap.size w W := by rw [← hW]; exact (Below.refl _ _).alloc (Nat.le_refl _) _
  have hat := h.below hb
  have hRel : ∀ u, u.cell? ⟨P, 1, none⟩ = some (.slice (some ⟨G1, 0, none⟩) rs.length cap1) → RowRR u (.slice (some ⟨G1, 0, none⟩) rs.length cap1) rs → Calls Tryd.prog 40 #[.pointer (some ⟨P, 0, none⟩), .int .i64 (rs[a].ty : Int), .string ⟨x.toArray⟩] u fun e w' => e = .returned (.int .i64 (firstI (relAt (rs[a].ty : Int) x) rs)) ∧ w' = u := fun u h1 h2 => rRel_any P _ rs _ ⟨x.toArray⟩ u h1 h2 hl
  have HRel : Hid (∀ k, Calls Tryd.prog 40 #[.pointer (some ⟨P, 0, none⟩), .int .i64 (rs[a].ty : Int), .string ⟨x.toArray⟩] (W.drewN k) fun e w' => e = .returned (.int .i64 (firstI (relAt (rs[a].ty : Int) x) rs)) ∧ w' = W.drewN k) := fun k => hRel _ (by
      show W.cell? _ = _
      rw [hb.cell (p := ⟨P, 1, none⟩) hlt]; exact a1) (owns_same a3 (fun g hg => by cases hg; exact hb.block G1 a2))
  have c1' : W.cell? ⟨P, 1, none⟩ = some (.slice (some ⟨G1, 0, none⟩) rs.length cap1) := by rw [hb.cell (p := ⟨P, 1, none⟩) hlt]; exact a1
  have c0' : W.cell? ⟨G1, a * 5, none⟩ = some (.int .i64 (rs[a].ty : Int)) := by rw [hb.cell (p := ⟨G1, a * 5, none⟩) a2]; exact c0
  have e0 : W.cell? ⟨w.heap.size, 0, none⟩ = some (.int .u8 110) := by rw [← hW]; exact World.cell?_alloc_new ..
  have e1 : W.cell? ⟨w.heap.size, 1, none⟩ = some (.string ⟨x.toArray⟩) := by rw [← hW]; exact World.cell?_alloc_new ..
  have e3 : W.cell? ⟨w.heap.size, 3, none⟩ = some (.slice none 0 0) := by rw [← hW]; exact World.cell?_alloc_new ..
  have HB : Hid _ := hb
  have HW : Hid _ := hW
  clear hW
  have hfi := firstI_any (p := relAt (rs[a].ty : Int) x) (l := rs)
  generalize firstI (relAt (rs[a].ty : Int) x) rs = fi at *
  generalize rs.any (relAt (rs[a].ty : Int) x) = qa at *
  generalize rs[a].ty = tt at *
  clear hRel hat hb h a3 hx
  generalize N.length = nl at *
  generalize (⟨x.toArray⟩ : ByteArray) = X at *
  generalize rs.length = rl at *
  have hai : (a : Int) < (rl : Int) := by omega
  go_enter Tryd.func17, Tryd.ntmps17
  go_upto_region 3 with fail
  rw [HW.out]
  rcases hfi with ⟨rfl, k, rfl⟩ | ⟨rfl, rfl⟩
  · go_quiet ((go_at_call 40; refine Calls.quiet_of_same (HRel.out _)))
    go_wp2
    have hk0 : decide ((k : Int) < 0) = false := decide_eq_false (by omega)
    simp only [hk0]
    go_loop [11] (fun j => j = .int .i64 0) (fun _ => 0)
    case atStart => rfl
    case round =>
      subst hrel
      go_wp2
      go_ret
      exact ⟨rfl, HB.out.trans (below_drewN _ _ _)⟩
  · go_quiet ((go_at_call 40; refine Calls.quiet_of_same (HRel.out _)))
    go_wp2
    go_ret
    exact ⟨rfl, HB.out.trans (below_drewN _ _ _)⟩

set_option maxRecDepth 100000 in
set_option maxHeartbeats 8000000 in
theorem unknown_via (P a i : Nat) (N : List NV) (rs : List RR) (x t : List UInt8) (w : World) (h : PlanAt w P N rs) (ha : a < rs.length) (hl : rs.length ≤ 1000000) (hx : N[i]? = some ⟨46, x, t, none, 0, 0⟩) :
    Calls Tryd.prog 17 #[.pointer (some ⟨P, 0, none⟩), .int .i64 (a : Int), .int .i64 (i : Int)] w fun e w' => e = .returned (.bool (!rs.any (relAt (rs[a].ty : Int) x) || !rs.any (fun y => y.nm == t))) ∧ Below w.heap.size w w' := by
  obtain ⟨G2, cap2, b1, hi, d0, d1, d2, d3⟩ := h.node hx
  obtain ⟨G1, cap1, a1, a2, a3⟩ := h.c1
  simp only at d0 d1 d2 d3
  have c0 : w.cell? ⟨G1, a * 5, none⟩ = some (.int .i64 (rs[a].ty : Int)) := by
    have := RowRR.cell a3 a ha 0 (by decide); rw [Nat.add_zero] at this; rw [this]; rfl
  have hlt := h.lt
  obtain ⟨W, hW⟩ : ∃ W, w.alloc (.cells #[.int .u8 46, .string ⟨x.toArray⟩, .string ⟨t.toArray⟩, .slice none 0 0] 102) = W := ⟨_, rfl⟩
  have hb : Below w.heap.size w W := by rw [← hW]; exact (Below.refl _ _).alloc (Nat.le_refl _) _
  have hat := h.below hb
  have hRel : ∀ u, u.cell? ⟨P, 1, none⟩ = some (.slice (some ⟨G1, 0, none⟩) rs.length cap1) → RowRR u (.slice (some ⟨G1, 0, none⟩) rs.length cap1) rs → Calls Tryd.prog 40 #[.pointer (some ⟨P, 0, none⟩), .int .i64 (rs[a].ty : Int), .string ⟨x.toArray⟩] u fun e w' => e = .returned (.int .i64 (firstI (relAt (rs[a].ty : Int) x) rs)) ∧ w' = u := fun u h1 h2 => rRel_any P _ rs _ ⟨x.toArray⟩ u h1 h2 hl
  have HRel : Hid (∀ k, Calls Tryd.prog 40 #[.pointer (some ⟨P, 0, none⟩), .int .i64 (rs[a].ty : Int), .string ⟨x.toArray⟩] (W.drewN k) fun e w' => e = .returned (.int .i64 (firstI (relAt (rs[a].ty : Int) x) rs)) ∧ w' = W.drewN k) := fun k => hRel _ (by
      show W.cell? _ = _
      rw [hb.cell (p := ⟨P, 1, none⟩) hlt]; exact a1) (owns_same a3 (fun g hg => by cases hg; exact hb.block G1 a2))
  have c1' : W.cell? ⟨P, 1, none⟩ = some (.slice (some ⟨G1, 0, none⟩) rs.length cap1) := by rw [hb.cell (p := ⟨P, 1, none⟩) hlt]; exact a1
  have c0' : W.cell? ⟨G1, a * 5, none⟩ = some (.int .i64 (rs[a].ty : Int)) := by rw [hb.cell (p := ⟨G1, a * 5, none⟩) a2]; exact c0
  have e0 : W.cell? ⟨w.heap.size, 0, none⟩ = some (.int .u8 46) := by rw [← hW]; exact World.cell?_alloc_new ..
  have e1 : W.cell? ⟨w.heap.size, 1, none⟩ = some (.string ⟨x.toArray⟩) := by rw [← hW]; exact World.cell?_alloc_new ..
  have e2 : W.cell? ⟨w.heap.size, 2, none⟩ = some (.string ⟨t.toArray⟩) := by rw [← hW]; exact World.cell?_alloc_new ..
  have e3 : W.cell? ⟨w.heap.size, 3, none⟩ = some (.slice none 0 0) := by rw [← hW]; exact World.cell?_alloc_new ..
  have HC : Hid (∀ j (hj : j < rs.length), W.cell? ⟨G1, j * 5 + 1, none⟩ = some (.string ⟨rs[j].nm.toArray⟩)) := fun j hj => by
    rw [hb.cell (p := ⟨G1, j * 5 + 1, none⟩) a2, RowRR.cell a3 j hj 1 (by decide)]; rfl
  have HTk : Hid (∀ j (hj : j < rs.length), (rs.take (j + 1)).any (fun y => y.nm == t) = ((rs.take j).any (fun y => y.nm == t) || ((⟨rs[j].nm.toArray⟩ : ByteArray).toList == (⟨t.toArray⟩ : ByteArray).toList))) := fun j hj => by
    rw [List.take_succ_eq_append_getElem hj, List.any_append, ByteArray.toList_eq, ByteArray.toList_eq]; simp
  have HEn : Hid (∀ l, l = rs.length → (rs.take l).any (fun y => y.nm == t) = rs.any (fun y => y.nm == t)) := fun l hl => by rw [hl, List.take_length]
  have HB : Hid _ := hb
  have HW : Hid _ := hW
  clear hW
  have hfi := firstI_any (p := relAt (rs[a].ty : Int) x) (l := rs)
  generalize firstI (relAt (rs[a].ty : Int) x) rs = fi at *
  generalize rs.any (relAt (rs[a].ty : Int) x) = qa at *
  generalize rs[a].ty = tt at *
  generalize hqt : rs.any (fun y => y.nm == t) = qt at *
  clear hqt
  clear hRel hat hb h a3 hx
  generalize N.length = nl at *
  generalize (⟨x.toArray⟩ : ByteArray) = X at *
  generalize (⟨t.toArray⟩ : ByteArray) = T at *
  obtain ⟨rl, hrl⟩ : ∃ rl, rs.length = rl := ⟨_, rfl⟩
  have HRL : Hid (rs.length = rl) := hrl
  rw [hrl] at a1 hl ha c1'
  clear hrl
  have hai : (a : Int) < (rl : Int) := by omega
  go_enter Tryd.func17, Tryd.ntmps17
  go_upto_region 3 with fail
  rw [HW.out]
  rcases hfi with ⟨rfl, k, rfl⟩ | ⟨rfl, rfl⟩
  · go_quiet ((go_at_call 40; refine Calls.quiet_of_same (HRel.out _)))
    go_wp2
    have hk0 : decide ((k : Int) < 0) = false := decide_eq_false (by omega)
    simp only [hk0]
    go_loopw [9, 10] (fun s9 s10 wr => ∃ (j nq2 : Nat) (b : Bool), j ≤ rl ∧ s10 = .int .i64 (j : Int) ∧ s9 = .bool b ∧ wr = W.drewN nq2 ∧ Hid (b = (rs.take j).any (fun y => y.nm == t))) (fun _ s10 _ => rl - (intOf s10).toNat)
    case atStart => exact ⟨0, _, false, Nat.zero_le _, rfl, rfl, rfl, by show _ = _; simp⟩
    case round =>
      obtain ⟨j, nq2, b, hj, rfl, rfl, rfl, HBb⟩ := hrel
      by_cases hlt2 : j < rl
      · have hjx : j < rs.length := by have := HRL.out; omega
        have cj := HC.out j hjx
        have hst := HTk.out j hjx
        rw [← HBb.out] at hst
        have HST : Hid _ := hst
        clear hst HBb
        generalize (⟨rs[j].nm.toArray⟩ : ByteArray) = Y at *
        have hji : (j : Int) < (rl : Int) := by omega
        cases b with
        | true =>
          go_upto_region 11 with fail
          go_quiet (fail)
          go_wp2
          go_roundw
          case rel => exact ⟨j + 1, _, true, by omega, by go_num, rfl, rfl, by show _ = _; rw [HST.out]; rfl⟩
          case measure => simp [intOf]; omega
        | false =>
          go_upto_region 11 with fail
          go_quiet (fail)
          go_wp2
          go_roundw
          case rel => exact ⟨j + 1, _, _, by omega, by go_num, rfl, rfl, by show _ = _; rw [HST.out]; rfl⟩
          case measure => simp [intOf]; omega
      · have hjl : j = rl := by omega
        have hbq : b = qt := by rw [HBb.out]; exact HEn.out j (by rw [hjl]; exact HRL.out.symm)
        subst hbq
        clear HBb HC HTk HEn
        cases b with
        | true =>
          go_wp2
          go_loop [11] (fun j => j = .int .i64 0) (fun _ => 0)
          case atStart => rfl
          case round =>
            subst hrel
            go_wp2
            go_ret
            exact ⟨rfl, HB.out.trans (below_drewN _ _ _)⟩
        | false =>
          go_wp2
          go_ret
          exact ⟨rfl, HB.out.trans (below_drewN _ _ _)⟩
  · go_quiet ((go_at_call 40; refine Calls.quiet_of_same (HRel.out _)))
    go_wp2
    go_ret
    exact ⟨rfl, HB.out.trans (below_drewN _ _ _)⟩
end Go.Proofs.YtlgodpadcilcaaaDoor
namespace Go.Proofs.YtlgodpadcilcaaaDoor
open Go.ChangeShapes Go.WideShapes Go.ChangeAt Go.RowKit

/-- the single terms of an expression -/
def Exp.leaves : Exp → List Sing
  | ⟨.inl s⟩ => [s]
  | ⟨.inr (_, es)⟩ => leavesL es
where leavesL : List Exp → List Sing
  | [] => []
  | e :: r => Exp.leaves e ++ leavesL r
theorem flat_leaves : ∀ (e : Exp) (ag : Bool), (e.flat ag).map Prod.fst = e.leaves
  | ⟨.inl s⟩, ag => by simp [Exp.flat, Exp.leaves]
  | ⟨.inr (k, es)⟩, ag => by
    simp only [Exp.flat, Exp.leaves]
    exact flat_leavesL es ag k 0
where flat_leavesL : ∀ (es : List Exp) (ag : Bool) (k i : Nat), (Exp.flat.flatL ag k i es).map Prod.fst = Exp.leaves.leavesL es
  | [], ag, k, i => by simp [Exp.flat.flatL, Exp.leaves.leavesL]
  | e :: r, ag, k, i => by
    simp only [Exp.flat.flatL, Exp.leaves.leavesL, List.map_append]
    rw [flat_leaves e, flat_leavesL r]
theorem leavesL_any (F : Sing → Bool) : ∀ es : List Exp, (Exp.leaves.leavesL es).any F = es.any (fun e => e.leaves.any F)
  | [] => rfl
  | e :: r => by simp only [Exp.leaves.leavesL, List.any_append, List.any_cons, leavesL_any F r]
/-- what unknown looks for -/
def unkS (rs : List RR) (ta : Int) : Sing → Bool
  | none => false
  | some (x, none) => !rs.any (relAt ta x)
  | some (x, some t) => !rs.any (relAt ta x) || !rs.any (fun y => y.nm == t)

def UnkOK (n P a : Nat) (N : List NV) (rs : List RR) (ta : Int) : Prop := ∀ (e : Exp) (i : Nat) (w : World), e.sz ≤ n → PlanAt w P N rs → Tree (fun g => g < w.heap.size) w N e i →
  Calls Tryd.prog 17 #[.pointer (some ⟨P, 0, none⟩), .int .i64 (a : Int), .int .i64 (i : Int)] w fun e' w' => e' = .returned (.bool (e.leaves.any (unkS rs ta))) ∧ Below w.heap.size w w'

theorem Tree.keepB {w w' : World} {N : List NV} {e : Exp} {i : Nat} (h : Tree (fun g => g < w.heap.size) w N e i) (hb : Below w.heap.size w w') : Tree (fun g => g < w'.heap.size) w' N e i :=
  Tree.keep (fun _ hg => Nat.lt_of_lt_of_le hg hb.size) (fun g hg => hb.block g hg) (fun _ _ h => h) _ _ h

set_option maxRecDepth 100000 in
set_option maxHeartbeats 8000000 in
theorem unknown_join (n P a i : Nat) (N : List NV) (rs : List RR) (ta : Int) (ih : UnkOK n P a N rs ta) (k : Nat) (es : List Exp) (w : World) (hs : (Exp.join k es).sz ≤ n + 1) (hn : n ≤ 100000) (h : PlanAt w P N rs) (hT : Tree (fun g => g < w.heap.size) w N (.join k es) i) :
    Calls Tryd.prog 17 #[.pointer (some ⟨P, 0, none⟩), .int .i64 (a : Int), .int .i64 (i : Int)] w fun e' w' => e' = .returned (.bool ((Exp.join k es).leaves.any (unkS rs ta))) ∧ Below w.heap.size w w' := by
  have hT0 := hT
  simp only [Tree] at hT
  obtain ⟨g, c, ps, hx, hg, hk, hlen, hrange, hall⟩ := hT
  rw [Tree.all_iff _ _ hlen] at hall
  obtain ⟨G2, cap2, b1, hi, d0, d1, d2, d3⟩ := h.node hx
  simp only at d0 d1 d2 d3
  have hes : ∀ e ∈ es, e.sz ≤ n := fun e he => by have := Exp.szL_mem he; simp only [Exp.sz] at hs; omega
  have hel : es.length ≤ n := by have := Exp.szL_len es; simp only [Exp.sz] at hs; omega
  have hsg : sgn k = 124 ∨ sgn k = 38 ∨ sgn k = 45 := by rcases hk with rfl | rfl | ⟨rfl, _⟩ <;> simp [sgn]
  have HRes : Hid ((Exp.join k es).leaves.any (unkS rs ta) = es.any (fun e => e.leaves.any (unkS rs ta))) := by show _ = _; simp only [Exp.leaves]; exact leavesL_any _ es
  obtain ⟨sg, hsge⟩ : ∃ sg, sgn k = sg := ⟨_, rfl⟩
  rw [hsge] at d0 hsg
  clear hsge
  have hc5 : ¬ sg = 110 := by omega
  have hc6 : ¬ sg = 46 := by omega
  have hq5 : (sg == 110) = false := by rw [beq_eq_false_iff_ne]; exact hc5
  have hq6 : (sg == 46) = false := by rw [beq_eq_false_iff_ne]; exact hc6
  obtain ⟨W, hW⟩ : ∃ W, w.alloc (.cells #[.int .u8 sg, .string ⟨#[]⟩, .string ⟨#[]⟩, .slice (some ⟨g, 0, none⟩) es.length c] 102) = W := ⟨_, rfl⟩
  have hb : Below w.heap.size w W := by rw [← hW]; exact (Below.refl _ _).alloc (Nat.le_refl _) _
  have hWs : w.heap.size < W.heap.size := by rw [← hW]; simp
  have e3 : W.cell? ⟨w.heap.size, 3, none⟩ = some (.slice (some ⟨g, 0, none⟩) es.length c) := by rw [← hW]; exact World.cell?_alloc_new ..
  have HE3 : Hid (∀ wr, Below W.heap.size W wr → wr.cell? ⟨w.heap.size, 3, none⟩ = some (.slice (some ⟨g, 0, none⟩) es.length c)) := fun wr hbr => by
    rw [hbr.cell (p := ⟨w.heap.size, 3, none⟩) hWs]; exact e3
  have HP : Hid (∀ wr, Below W.heap.size W wr → ∀ j (hj : j < ps.length), wr.cell? ⟨g, j, none⟩ = some (.int .i64 (ps[j] : Int))) := fun wr hbr j hj => by
    have hbw : Below w.heap.size w wr := hb.trans (hbr.mono hb.size)
    rw [hbw.cell (p := ⟨g, j, none⟩) hg]
    have := hrange j (.int .i64 (ps[j] : Int)) (by rw [List.getElem?_map, List.getElem?_eq_getElem hj]; rfl)
    rw [Nat.zero_add] at this
    exact this
  have HI : Hid (∀ wr, Below W.heap.size W wr → ∀ j (hj : j < ps.length) (hj' : j < es.length), Calls Tryd.prog 17 #[.pointer (some ⟨P, 0, none⟩), .int .i64 (a : Int), .int .i64 (ps[j] : Int)] wr fun e' w' => e' = .returned (.bool (es[j].leaves.any (unkS rs ta))) ∧ Below wr.heap.size wr w') := fun wr hbr j hj hj' => by
    have hbw : Below w.heap.size w wr := hb.trans (hbr.mono hb.size)
    exact ih es[j] ps[j] wr (hes _ (List.getElem_mem _)) (h.below hbw) ((hall j hj' hj).keepB hbw)
  have HBW : Hid (∀ wr, Below W.heap.size W wr → Below w.heap.size w wr) := fun wr hbr => hb.trans (hbr.mono hb.size)
  have HW : Hid _ := hW
  have HLN : Hid (ps.length = es.length) := hlen
  clear hW hx hall hrange hT0 hes hk hs h ih hb e3 hsg
  obtain ⟨el, hle⟩ : ∃ el, es.length = el := ⟨_, rfl⟩
  have HEL : Hid (es.length = el) := hle
  rw [hle] at d3 HE3 hel HW
  clear hle
  generalize N.length = nl at *
  go_enter Tryd.func17, Tryd.ntmps17
  go_wp2
  rw [HW.out]
  go_loopw [11] (fun s11 wr => ∃ j : Nat, j ≤ el ∧ s11 = .int .i64 (j : Int) ∧ Hid (Below W.heap.size W wr) ∧ Hid ((es.take j).any (fun e => e.leaves.any (unkS rs ta)) = false)) (fun s11 _ => el - (intOf s11).toNat)
  case atStart => exact ⟨0, Nat.zero_le _, rfl, Below.refl _ _, by show _ = _; simp⟩
  case round =>
    obtain ⟨j, hj, rfl, HBr, HNo⟩ := hrel
    have e3 := HE3.out wr HBr.out
    by_cases hlt : j < el
    · have hje : j < es.length := by have := HEL.out; omega
      have hjp : j < ps.length := by have := HLN.out; omega
      have cp := HP.out wr HBr.out j hjp
      have hI := HI.out wr HBr.out j hjp hje
      have HTk : Hid ((es.take (j + 1)).any (fun e => e.leaves.any (unkS rs ta)) = es[j].leaves.any (unkS rs ta)) := by
        show _ = _
        rw [List.take_succ_eq_append_getElem hje, List.any_append, HNo.out]; simp
      have HYes : Hid (es[j].leaves.any (unkS rs ta) = true → es.any (fun e => e.leaves.any (unkS rs ta)) = true) := fun hy => List.any_eq_true.2 ⟨es[j], List.getElem_mem _, hy⟩
      generalize ps[j] = pj at *
      generalize es[j].leaves.any (unkS rs ta) = q at *
      clear HNo HP HI
      cases q with
      | true =>
        go_wp2_with (go_at_call 17; refine hI.mono ?_; rintro e w' ⟨rfl, hb2⟩)
        go_ret
        refine ⟨by rw [HRes.out, HYes.out (by simp)]; rfl, ?_⟩
        exact HBW.out _ (HBr.out.trans (hb2.mono HBr.out.size))
      | false =>
        go_wp2_with (go_at_call 17; refine hI.mono ?_; rintro e w' ⟨rfl, hb2⟩)
        go_roundw
        case rel => exact ⟨j + 1, by omega, by go_num, HBr.out.trans (hb2.mono HBr.out.size), HTk.out⟩
        case measure => simp [intOf]; omega
    · have hje : j = es.length := by have := HEL.out; omega
      have HF : Hid ((Exp.join k es).leaves.any (unkS rs ta) = false) := by
        show _ = _
        rw [HRes.out, ← HNo.out, hje, List.take_length]
      clear HNo HP HI HRes
      go_wp2
      go_ret
      exact ⟨by rw [HF.out]; rfl, HBW.out _ HBr.out⟩

theorem unknown_all (P a : Nat) (N : List NV) (rs : List RR) (ha : a < rs.length) (hl : rs.length ≤ 1000000) : ∀ n, n ≤ 100001 → UnkOK n P a N rs (rs[a].ty : Int)
  | 0, _ => fun e i w hs _ _ => absurd e.sz_pos (by omega)
  | n + 1, hn => fun e i w hs h hT => by
    cases e using Exp.kind with
    | leaf s =>
      cases s using Sing.kind with
      | self =>
        simp only [Tree] at hT
        exact unknown_self P a i N rs w h hT
      | name x =>
        simp only [Tree] at hT
        have := unknown_name P a i N rs x w h ha hl hT
        simpa [Exp.leaves, unkS] using this
      | via x t =>
        simp only [Tree] at hT
        have := unknown_via P a i N rs x t w h ha hl hT
        simpa [Exp.leaves, unkS] using this
    | join k es => exact unknown_join n P a i N rs _ (unknown_all P a N rs ha hl n (by omega)) k es w hs (by omega) h hT

/-- of relation a of the plan: does it name what there is not? -/
theorem unkS_know {w : World} {P : Nat} {tb rb nb : Option Nat} {N : List NV} {rs : List RR} {st : List Ty} (h : PlanRep w P tb rb nb N rs st) (hok : StOk st) (a : Nat) (ha : a < rs.length) (ha' : a < (relsOf st).length) : (relsOf st)[a].ex.leaves.any (unkS rs (rs[a].ty : Int)) = unkR (knowB (relsOf st)) (relsOf st)[a] := by
  have hS : ∀ s, unkS rs (rs[a].ty : Int) s = !knowB (relsOf st) (relsOf st)[a] s := fun s => by
    cases s using Sing.kind with
    | self => rfl
    | name x => simp only [unkS, knowB]; rw [any_ty h hok a ha ha']
    | via x t => simp only [unkS, knowB]; rw [any_ty h hok a ha ha', any_nm h, Bool.not_and]
  unfold unkR
  rw [← flat_leaves _ false, List.any_map]
  congr 1
  funext p
  exact hS p.1
end Go.Proofs.YtlgodpadcilcaaaDoor
