import Derived.Test.YtlgodpadcilcaaaDoorP14
import Derived.Test.YtlgodpadcilcaaaDoorP06
import Derived.Deep.RegionHeldLaw
namespace Go.Proofs.YtlgodpadcilcaaaDoor
open Go.ChangeShapes Go.WideShapes Go.ChangeAt Go.RowKit

/-- the blocks of a plan -/
def planM (P : Nat) (tb rb nb : Option Nat) : List Nat := P :: (tb.toList ++ (rb.toList ++ nb.toList))
/-- a relation of the reference's, against a relation -/
def RelOK (S : Nat → Prop) (w : World) (N : List NV) (st : List Ty) (x : RR) (r : Rl) : Prop :=
  (st.map (·.nm))[x.ty]? = some r.ty ∧ x.nm = r.nm ∧ x.set = r.set ∧ x.line = r.line ∧ Tree S w N r.ex x.top
/-- the reference's plan: types st, relations rs, nodes N -/
structure PlanRep (w : World) (P : Nat) (tb rb nb : Option Nat) (N : List NV) (rs : List RR) (st : List Ty) : Prop where
  types : ∃ v, w.cell? ⟨P, 0, none⟩ = some v ∧ w.ownsRow 0 9 1 v (st.map (·.nm)).length ((st.map (·.nm)).map strV) ∧ v.ownBlock = tb
  rels : ∃ v, w.cell? ⟨P, 1, none⟩ = some v ∧ RowRR w v rs ∧ v.ownBlock = rb
  nodes : NRep w P nb N
  c3 : w.cell? ⟨P, 3, none⟩ = some (.slice none 0 0)
  c4 : w.cell? ⟨P, 4, none⟩ = some (.slice none 0 0)
  frz : ∀ j, w.frozen? ⟨P, j, none⟩ = false
  nodup : (planM P tb rb nb).Nodup
  lt : ∀ g ∈ planM P tb rb nb, g < w.heap.size
  len : rs.length = (relsOf st).length
  ok : ∀ j (h : j < rs.length) (h' : j < (relsOf st).length), RelOK (fun g => g < w.heap.size ∧ g ∉ planM P tb rb nb) w N st rs[j] (relsOf st)[j]

theorem planM_P {P : Nat} {tb rb nb : Option Nat} : P ∈ planM P tb rb nb := List.mem_cons_self ..
theorem planM_t {P g : Nat} {tb rb nb : Option Nat} (h : tb = some g) : g ∈ planM P tb rb nb := by simp [planM, h]
theorem planM_r {P g : Nat} {tb rb nb : Option Nat} (h : rb = some g) : g ∈ planM P tb rb nb := by simp [planM, h]
theorem planM_n {P g : Nat} {tb rb nb : Option Nat} (h : nb = some g) : g ∈ planM P tb rb nb := by simp [planM, h]

theorem PlanRep.below {w w' : World} {P : Nat} {tb rb nb : Option Nat} {N : List NV} {rs : List RR} {st : List Ty} (h : PlanRep w P tb rb nb N rs st) (hb : Below w.heap.size w w') : PlanRep w' P tb rb nb N rs st := by
  have hs := hb.size
  have hP := h.lt P planM_P
  obtain ⟨v1, a1, a2, a3⟩ := h.types
  obtain ⟨v2, b1, b2, b3⟩ := h.rels
  refine ⟨⟨v1, by rw [hb.cell (p := ⟨P, 0, none⟩) hP]; exact a1, owns_same a2 (fun g hg => hb.block g (h.lt g (planM_t (by rw [← a3]; exact hg)))), a3⟩, ⟨v2, by rw [hb.cell (p := ⟨P, 1, none⟩) hP]; exact b1, owns_same b2 (fun g hg => hb.block g (h.lt g (planM_r (by rw [← b3]; exact hg)))), b3⟩, h.nodes.below hb,
    by rw [hb.cell (p := ⟨P, 3, none⟩) hP]; exact h.c3, by rw [hb.cell (p := ⟨P, 4, none⟩) hP]; exact h.c4, fun j => by rw [hb.frozen (p := ⟨P, j, none⟩) hP]; exact h.frz j, h.nodup, fun g hg => by have := h.lt g hg; omega, h.len, fun j h1 h2 => ?_⟩
  obtain ⟨r1, r2, r3, r4, r5⟩ := h.ok j h1 h2
  exact ⟨r1, r2, r3, r4, Tree.keep (fun g hg => ⟨by omega, hg.2⟩) (fun g hg => hb.block g hg.1) (fun _ _ h => h) _ _ r5⟩

/-- what a line of the reference's answers -/
def RLAns (w : World) (P : Nat) (tb rb nb : Option Nat) (N : List NV) (len : Nat) (r : Nat × List Ty) (e : Ending) (w' : World) : Prop :=
  e = .returned (.int .i64 (r.1 : Nat)) ∧ ButM (planM P tb rb nb) w w' ∧ (r.1 = 0 → ∃ tb' rb' nb' N' rs', PlanRep w' P tb' rb' nb' (N ++ N') rs' r.2 ∧ N'.length ≤ len ∧ ButM (planM P tb rb nb) w w' ∧ ∀ g ∈ planM P tb' rb' nb', g ∈ planM P tb rb nb ∨ w.heap.size ≤ g)
theorem RLAns.bad {w w' : World} {P : Nat} {tb rb nb : Option Nat} {N : List NV} {len : Nat} {n : Nat} {st : List Ty} (hn : n ≠ 0) (hb : ButM (planM P tb rb nb) w w') : RLAns w P tb rb nb N len (n, st) (.returned (.int .i64 (n : Nat))) w' := ⟨rfl, hb, fun h => absurd h hn⟩
theorem rlans_mk {w w' : World} {P : Nat} {tb rb nb : Option Nat} {N : List NV} {len : Nat} {st : List Ty} (h : ∃ tb' rb' nb' N' rs', PlanRep w' P tb' rb' nb' (N ++ N') rs' st ∧ N'.length ≤ len ∧ ButM (planM P tb rb nb) w w' ∧ ∀ g ∈ planM P tb' rb' nb', g ∈ planM P tb rb nb ∨ w.heap.size ≤ g) : RLAns w P tb rb nb N len (0, st) (.returned (.int .i64 0)) w' := by
  have h' := h
  obtain ⟨_, _, _, _, _, _, _, hb, _⟩ := h'
  exact ⟨rfl, hb, fun _ => h⟩
/-- the frame of a line, of its parts' -/
theorem line_but {w w1 w2 : World} {P : Nat} {tb rb nb : Option Nat} (hB : Below w.heap.size w w1) (h : ButM (P :: nb.toList) w1 w2) : ButM (planM P tb rb nb) w w2 :=
  ⟨h.os.trans hB.os, h.tape.trans hB.tape, h.output.trans hB.output, Nat.le_trans hB.size h.size, fun k hk hn => (h.block k (Nat.lt_of_lt_of_le hk hB.size) (fun hm => hn (by
    rcases List.mem_cons.1 hm with e | e
    · rw [e]; exact planM_P
    · exact planM_n (by simpa using e)))).trans (hB.block k hk)⟩
theorem RLAns.same {w w' : World} {P : Nat} {tb rb nb : Option Nat} {N : List NV} {rs : List RR} {len : Nat} {st : List Ty} (h : PlanRep w P tb rb nb N rs st) (hb : Below w.heap.size w w') : RLAns w P tb rb nb N len (0, st) (.returned (.int .i64 ((0 : Nat) : Int))) w' :=
  ⟨rfl, ButM.of_below hb, fun _ => ⟨tb, rb, nb, [], rs, by rw [List.append_nil]; exact h.below hb, by simp, ButM.of_below hb, fun g hg => .inl hg⟩⟩

theorem take2_eq (s : ByteArray) : (s.extract 0 2).data.toList = s.data.toList.take 2 := by
  rw [extract_list]; simp

set_option maxRecDepth 100000 in
set_option maxHeartbeats 4000000 in
theorem rline_blank (P : Nat) (tb rb nb : Option Nat) (N : List NV) (rs : List RR) (st : List Ty) (num len : Nat) (s : ByteArray) (w : World) (h : PlanRep w P tb rb nb N rs st) (hs : s.size ≤ 1000000) (hq : s.data.toList = [] ∨ s.data.toList.take 2 = [47, 47]) :
    Calls Tryd.prog 16 #[.pointer (some ⟨P, 0, none⟩), .string s, .int .i64 (num : Int)] w (RLAns w P tb rb nb N len (lineS st num s.data.toList)) := by
  have hL : lineS st num s.data.toList = (0, st) := by unfold lineS; rw [if_pos hq]
  rw [hL]
  have HA : Hid (RLAns w P tb rb nb N len (0, st) (.returned (.int .i64 0)) w) := RLAns.same h (Below.refl _ _)
  generalize RLAns w P tb rb nb N len (0, st) = R at *
  clear hL h
  by_cases h0 : s.data.toList = []
  · obtain rfl : s = ⟨#[]⟩ := by
      rcases s with ⟨⟨l⟩⟩
      simp at h0
      rw [h0]
    clear hq h0
    go_enter Tryd.func16, Tryd.ntmps16
    go_wp2
    try go_ret
    exact HA.out
  · have ht : s.data.toList.take 2 = [47, 47] := hq.resolve_left h0
    have hsz : 2 ≤ s.size := by
      have := congrArg List.length ht
      rw [List.length_take, size_list] at this
      simp at this; omega
    have q1 : (s.toList == []) = false := by rw [ByteArray.toList_eq, beq_eq_false_iff_ne]; exact h0
    have q2 : ((s.extract 0 2).toList == [47, 47]) = true := by rw [ByteArray.toList_eq, take2_eq s, ht]; rfl
    clear ht hq h0
    go_enter Tryd.func16, Tryd.ntmps16
    go_wp2
    try go_ret
    exact HA.out

theorem lineS_words {st : List Ty} {num : Nat} {t : List UInt8} (h : ¬ (t = [] ∨ t.take 2 = [47, 47])) {w0 : List UInt8} {ps : List (List UInt8)} (hs : splitL 32 t = w0 :: ps) :
    lineS st num t = if w0 = [116, 121, 112, 101] then typeS st ps else if w0 = [114, 101, 108] then relS st num false ps else if w0 = [115, 101, 116] then relS st num true ps else (2, st) := by
  unfold lineS
  rw [if_neg h, hs]
theorem blank_size {s : ByteArray} (h : ¬ (s.data.toList = [] ∨ s.data.toList.take 2 = [47, 47])) : (s.toList == []) = false ∧ ((s.extract 0 2).toList == [47, 47]) = false := by
  rw [not_or] at h
  exact ⟨by rw [ByteArray.toList_eq, beq_eq_false_iff_ne]; exact h.1, by rw [ByteArray.toList_eq, take2_eq, beq_eq_false_iff_ne]; exact h.2⟩

set_option maxRecDepth 100000 in
set_option maxHeartbeats 8000000 in
/-- no line of the three kinds, or nothing behind the first word -/
theorem rline_bad (P : Nat) (tb rb nb : Option Nat) (N : List NV) (st : List Ty) (num len : Nat) (s : ByteArray) (w : World) (hs : s.size ≤ 1000000) (hq : ¬ (s.data.toList = [] ∨ s.data.toList.take 2 = [47, 47])) (w0 : List UInt8) (ps : List (List UInt8)) (hsp : splitL 32 s.data.toList = w0 :: ps)
    (hbad : (w0 ≠ [116, 121, 112, 101] ∧ w0 ≠ [114, 101, 108] ∧ w0 ≠ [115, 101, 116]) ∨ ps = []) :
    Calls Tryd.prog 16 #[.pointer (some ⟨P, 0, none⟩), .string s, .int .i64 (num : Int)] w (RLAns w P tb rb nb N len (lineS st num s.data.toList)) := by
  have hL : lineS st num s.data.toList = (2, st) := by
    rw [lineS_words hq hsp]
    rcases hbad with ⟨h1, h2, h3⟩ | rfl
    · rw [if_neg h1, if_neg h2, if_neg h3]
    · split
      · rfl
      · split
        · rfl
        · split <;> rfl
  rw [hL]
  have HA : Hid (∀ w', ButM (planM P tb rb nb) w w' → RLAns w P tb rb nb N len (2, st) (.returned (.int .i64 2)) w') := fun w' hbq => RLAns.bad (by decide) hbq
  generalize RLAns w P tb rb nb N len (2, st) = R at *
  obtain ⟨q1, q2⟩ := blank_size hq
  have hX : Calls Tryd.prog 15 #[.string s, .int .u8 32] w _ := pieces_new s 32 w hs
  have hb3 : (w0 == [116, 121, 112, 101]) = false ∧ (w0 == [114, 101, 108]) = false ∧ (w0 == [115, 101, 116]) = false ∨ ps.length = 0 := by
    rcases hbad with ⟨h1, h2, h3⟩ | rfl
    · exact .inl ⟨by rw [beq_eq_false_iff_ne]; exact h1, by rw [beq_eq_false_iff_ne]; exact h2, by rw [beq_eq_false_iff_ne]; exact h3⟩
    · exact .inr rfl
  have hX2 : Calls Tryd.prog 15 #[.string s, .int .u8 32] w fun e w' => ∃ g cap, e = .returned (.slice (some ⟨g, 0, none⟩) (ps.length + 1) cap) ∧ w'.cell? ⟨g, 0, none⟩ = some (.string ⟨w0.toArray⟩) ∧ Below w.heap.size w w' := by
    refine hX.mono ?_
    rintro e w' ⟨g, cap, h1, h2, h3, h4, h5, h6⟩
    rw [hsp] at h1
    exact ⟨g, cap, h1, by have := h5 0 (by rw [hsp]; simp); rw [this]; simp [hsp, strV], h6⟩
  have e0 : w0 = (⟨w0.toArray⟩ : ByteArray).toList := by rw [ByteArray.toList_eq]
  rw [e0] at hb3
  clear hX hsp hbad hq hL e0
  generalize (⟨w0.toArray⟩ : ByteArray) = W0 at *
  generalize ps.length = n at *
  generalize ha : (W0.toList == [116, 121, 112, 101]) = a at *
  generalize hb : (W0.toList == [114, 101, 108]) = b at *
  generalize hc : (W0.toList == [115, 101, 116]) = c at *
  by_cases hsz : 2 ≤ s.size
  all_goals
    rcases hb3 with ⟨rfl, rfl, rfl⟩ | rfl
    · go_enter Tryd.func16, Tryd.ntmps16
      go_wp2_with (go_at_call 15; refine hX2.mono ?_; rintro e w' ⟨g, cap, rfl, hc0, hbl⟩)
      try go_ret
      exact HA.out _ ⟨hbl.os, hbl.tape, hbl.output, hbl.size, fun k hk _ => hbl.block k hk⟩
    · cases a <;> cases b <;> cases c
      all_goals go_enter Tryd.func16, Tryd.ntmps16
      all_goals go_wp2_with (go_at_call 15; refine hX2.mono ?_; rintro e w' ⟨g, cap, rfl, hc0, hbl⟩)
      all_goals (try go_ret)
      all_goals exact HA.out _ ⟨hbl.os, hbl.tape, hbl.output, hbl.size, fun k hk _ => hbl.block k hk⟩
end Go.Proofs.YtlgodpadcilcaaaDoor
namespace Go.Proofs.YtlgodpadcilcaaaDoor
open Go.ChangeShapes Go.WideShapes Go.ChangeAt Go.RowKit

theorem pieces_two (s : ByteArray) (w : World) (hs : s.size ≤ 1000000) (w0 n : List UInt8) (ex : List (List UInt8)) (hsp : splitL 32 s.data.toList = w0 :: n :: ex) :
    Calls Tryd.prog 15 #[.string s, .int .u8 32] w fun e w' => ∃ g cap, e = .returned (.slice (some ⟨g, 0, none⟩) (ex.length + 2) cap) ∧ ex.length + 2 ≤ cap ∧ w.heap.size ≤ g ∧ g < w'.heap.size ∧ w'.cell? ⟨g, 0, none⟩ = some (.string ⟨w0.toArray⟩) ∧ w'.cell? ⟨g, 1, none⟩ = some (.string ⟨n.toArray⟩) ∧ Hid (∀ i (h : i < (w0 :: n :: ex).length), w'.cell? ⟨g, i, none⟩ = some (strV (w0 :: n :: ex)[i])) ∧ Hid (Below w.heap.size w w') := by
  have hX : Calls Tryd.prog 15 #[.string s, .int .u8 32] w _ := pieces_new s 32 w hs
  refine hX.mono ?_
  rintro e w' ⟨g, cap, h1, h2, h3, h4, h5, h6⟩
  rw [hsp] at h1 h2
  have h7 : ∀ i (h : i < (w0 :: n :: ex).length), w'.cell? ⟨g, i, none⟩ = some (strV (w0 :: n :: ex)[i]) := fun i hi => by
    have := h5 i (by rw [hsp]; exact hi)
    rw [this]
    simp only [hsp]
  exact ⟨g, cap, h1, h2, h3, h4, h7 0 (by simp), h7 1 (by simp), h7, h6⟩

set_option maxRecDepth 100000 in
set_option maxHeartbeats 8000000 in
/-- no name behind the first word -/
theorem rline_noname (P : Nat) (tb rb nb : Option Nat) (N : List NV) (st : List Ty) (num len : Nat) (s : ByteArray) (w : World) (hs : s.size ≤ 1000000) (hq : ¬ (s.data.toList = [] ∨ s.data.toList.take 2 = [47, 47])) (w0 n : List UInt8) (ex : List (List UInt8)) (hsp : splitL 32 s.data.toList = w0 :: n :: ex)
    (hw : w0 = [116, 121, 112, 101] ∨ w0 = [114, 101, 108] ∨ w0 = [115, 101, 116]) (hn : nameL n = false) :
    Calls Tryd.prog 16 #[.pointer (some ⟨P, 0, none⟩), .string s, .int .i64 (num : Int)] w (RLAns w P tb rb nb N len (lineS st num s.data.toList)) := by
  have hR : ∀ b, relS st num b (n :: ex) = (2, st) := fun b => by
    unfold relS
    simp only [hn]
    cases st.getLast? <;> rfl
  have hL : lineS st num s.data.toList = (2, st) := by
    rw [lineS_words hq hsp, hR, hR]
    have hT : typeS st (n :: ex) = (2, st) := by
      unfold typeS
      cases ex with
      | nil => simp [hn]
      | cons a r => rfl
    rw [hT]
    rcases hw with rfl | rfl | rfl <;> rfl
  rw [hL]
  have HA : Hid (∀ w', ButM (planM P tb rb nb) w w' → RLAns w P tb rb nb N len (2, st) (.returned (.int .i64 2)) w') := fun w' hbq => RLAns.bad (by decide) hbq
  generalize RLAns w P tb rb nb N len (2, st) = R at *
  obtain ⟨q1, q2⟩ := blank_size hq
  have hX2 := pieces_two s w hs w0 n ex hsp
  have hz : n.length ≤ 1000000 := by
    have := splitL_mlen 32 s.data.toList n (by rw [hsp]; simp)
    rw [size_list] at this; omega
  have hsz : 2 ≤ s.size := by
    have := splitL_mlen 32 s.data.toList w0 (by rw [hsp]; simp)
    rw [size_list] at this
    rcases hw with rfl | rfl | rfl <;> (simp at this; omega)
  have hNm : ∀ u, Calls Tryd.prog 37 #[.string ⟨n.toArray⟩] u fun e w' => e = .returned (.bool false) ∧ w' = u := fun u => by
    have := rname_any ⟨n.toArray⟩ u (by show n.toArray.size ≤ _; simpa using hz)
    rw [show (⟨n.toArray⟩ : ByteArray).data.toList = n from rfl, hn] at this
    exact this
  clear hR hL hq hsp hn hz
  generalize (⟨n.toArray⟩ : ByteArray) = X at *
  generalize ex.length = m at *
  rcases hw with rfl | rfl | rfl
  all_goals go_enter Tryd.func16, Tryd.ntmps16
  all_goals go_wp2_with (first | (go_at_call 15; refine hX2.mono ?_; rintro e w' ⟨g, cap, rfl, hc1, hc2, hc3, hc4, hc5, hc6, hc7⟩) | (go_at_call 37; refine (hNm _).mono ?_; rintro e w' ⟨rfl, rfl⟩))
  all_goals (try go_ret)
  all_goals exact HA.out _ ⟨hc7.out.os, hc7.out.tape, hc7.out.output, hc7.out.size, fun k hk _ => hc7.out.block k hk⟩

theorem firstI_mem {n : List UInt8} {xs : List (List UInt8)} (h : n ∈ xs) : ∃ k : Nat, firstI (· == n) xs = (k : Int) := by
  unfold firstI
  cases hf : xs.findIdx? (· == n) with
  | some i => exact ⟨i, rfl⟩
  | none =>
    rw [List.findIdx?_eq_none_iff] at hf
    have := hf n h
    simp at this
theorem firstI_not {n : List UInt8} {xs : List (List UInt8)} (h : n ∉ xs) : firstI (· == n) xs = -1 := firstI_none (fun j hj => by
  rw [beq_eq_false_iff_ne]; exact fun e => h (e ▸ List.getElem_mem hj))

set_option maxRecDepth 100000 in
set_option maxHeartbeats 8000000 in
/-- a type's line that is wrong -/
theorem rline_typebad (P : Nat) (tb rb nb : Option Nat) (N : List NV) (rs : List RR) (st : List Ty) (num len : Nat) (s : ByteArray) (w : World) (h : PlanRep w P tb rb nb N rs st) (hok : StOk st) (hs : s.size ≤ 1000000) (hq : ¬ (s.data.toList = [] ∨ s.data.toList.take 2 = [47, 47])) (n : List UInt8) (ex : List (List UInt8)) (hsp : splitL 32 s.data.toList = [116, 121, 112, 101] :: n :: ex)
    (hn : nameL n = true) (hbad : ex ≠ [] ∨ n ∈ st.map (·.nm) ∨ st.length = 6) :
    Calls Tryd.prog 16 #[.pointer (some ⟨P, 0, none⟩), .string s, .int .i64 (num : Int)] w (RLAns w P tb rb nb N len (lineS st num s.data.toList)) := by
  have hL : lineS st num s.data.toList = typeS st (n :: ex) := by rw [lineS_words hq hsp, if_pos rfl]
  rw [hL]
  obtain ⟨q1, q2⟩ := blank_size hq
  have hX2 := pieces_two s w hs _ n ex hsp
  have hz : n.length ≤ 1000000 := by
    have := splitL_mlen 32 s.data.toList n (by rw [hsp]; simp)
    rw [size_list] at this; omega
  have hsz : 2 ≤ s.size := by
    have := splitL_mlen 32 s.data.toList [116, 121, 112, 101] (by rw [hsp]; simp)
    rw [size_list] at this
    simp at this; omega
  have hNm : ∀ u, Calls Tryd.prog 37 #[.string ⟨n.toArray⟩] u fun e w' => e = .returned (.bool true) ∧ w' = u := fun u => by
    have := rname_any ⟨n.toArray⟩ u (by show n.toArray.size ≤ _; simpa using hz)
    rw [show (⟨n.toArray⟩ : ByteArray).data.toList = n from rfl, hn] at this
    exact this
  have hfew := hok.few
  have HTy : Hid (∀ u, Below w.heap.size w u → Calls Tryd.prog 38 #[.pointer (some ⟨P, 0, none⟩), .string ⟨n.toArray⟩] u fun e w' => e = .returned (.int .i64 (firstI (· == n) (st.map (·.nm)))) ∧ w' = u) := fun u hb => by
    obtain ⟨v, a1, a2, a3⟩ := (h.below hb).types
    exact rType_any P v (st.map (·.nm)) ⟨n.toArray⟩ u a1 a2 (by simp; omega)
  have HC0 : Hid (∀ u, Below w.heap.size w u → ∃ a c, u.cell? ⟨P, 0, none⟩ = some (.slice a st.length c)) := fun u hb => by
    obtain ⟨v, a1, a2, a3⟩ := (h.below hb).types
    rcases a2.2 with ⟨e, h0⟩ | ⟨g, cap', cur, e, _⟩
    · simp only [List.length_map] at h0
      exact ⟨none, 0, by rw [a1, e, h0]⟩
    · exact ⟨some ⟨g, 0, none⟩, cap', by rw [a1, e]; simp⟩
  obtain ⟨fi, hfi⟩ : ∃ fi, firstI (· == n) (st.map (·.nm)) = fi := ⟨_, rfl⟩
  rw [hfi] at HTy
  have HF1 : Hid (n ∈ st.map (·.nm) → ∃ k : Nat, fi = (k : Int)) := fun hm => by rw [← hfi]; exact firstI_mem hm
  have HF2 : Hid (n ∉ st.map (·.nm) → fi = -1) := fun hm => by rw [← hfi]; exact firstI_not hm
  have HT : Hid (typeS st (n :: ex) = if ex ≠ [] then (2, st) else if n ∈ st.map (·.nm) then (3, st) else (1, st)) := by
    show _ = _
    cases ex with
    | cons a r => rfl
    | nil =>
      rw [if_neg (show ¬ (([] : List (List UInt8)) ≠ []) by simp)]
      show (if nameL n = false then (2, st) else if n ∈ st.map (·.nm) then (3, st) else if st.length = 6 then (1, st) else (0, st ++ [⟨n, []⟩])) = _
      rw [if_neg (by rw [hn]; simp)]
      by_cases hm : n ∈ st.map (·.nm)
      · rw [if_pos hm, if_pos hm]
      · rw [if_neg hm, if_neg hm, if_pos (by rcases hbad with h1 | h1 | h1; exact absurd rfl h1; exact absurd h1 hm; exact h1)]
  clear hL hq hsp hn hz h hok hfi
  generalize hXX : (⟨n.toArray⟩ : ByteArray) = X at *
  clear hXX
  obtain ⟨R, hR⟩ : ∃ R : Ending → World → Prop, R = RLAns w P tb rb nb N len (typeS st (n :: ex)) := ⟨_, rfl⟩
  rw [← hR]
  have HR : Hid _ := hR
  clear hR
  have hlen0 : ex ≠ [] → ex.length ≠ 0 := fun h0 h1 => h0 (List.eq_nil_of_length_eq_zero h1)
  go_enter Tryd.func16, Tryd.ntmps16
  go_wp2_with fail
  refine hX2.mono ?_
  clear hX2
  rintro e w1 ⟨g, cap, rfl, hc1, hc2, hc3, hc4, hc5, hc6, hc7⟩
  have hTy := HTy.out w1 hc7.out
  obtain ⟨ta, tc, hc0⟩ := HC0.out w1 hc7.out
  clear HTy HC0 hc6
  by_cases hex : ex = []
  · have hl0 : ex.length = 0 := by rw [hex]; rfl
    rw [hl0]
    rw [hl0] at hc1
    clear hlen0 hl0
    by_cases hm : n ∈ st.map (·.nm)
    · obtain ⟨k, rfl⟩ := HF1.out hm
      have HA : Hid (∀ w', ButM (planM P tb rb nb) w w' → R (.returned (.int .i64 3)) w') := fun w' hbq => by rw [HR.out, HT.out, if_neg (by simp [hex]), if_pos hm]; exact RLAns.bad (by decide) hbq
      clear HR HT HF1 HF2 hm hbad hex
      go_wp2_with (first | (go_at_call 37; refine (hNm _).mono ?_; rintro e w' ⟨rfl, rfl⟩) | (go_at_call 38; refine hTy.mono ?_; rintro e w' ⟨rfl, rfl⟩))
      try go_ret
      exact HA.out _ ⟨hc7.out.os, hc7.out.tape, hc7.out.output, hc7.out.size, fun k hk _ => hc7.out.block k hk⟩
    · obtain rfl := HF2.out hm
      have h6 : st.length = 6 := by rcases hbad with h1 | h1 | h1; exact absurd hex h1; exact absurd h1 hm; exact h1
      have HA : Hid (∀ w', ButM (planM P tb rb nb) w w' → R (.returned (.int .i64 1)) w') := fun w' hbq => by rw [HR.out, HT.out, if_neg (by simp [hex]), if_neg hm]; exact RLAns.bad (by decide) hbq
      rw [h6] at hc0
      clear HR HT HF1 HF2 hm hbad hex h6
      go_wp2_with (first | (go_at_call 37; refine (hNm _).mono ?_; rintro e w' ⟨rfl, rfl⟩) | (go_at_call 38; refine hTy.mono ?_; rintro e w' ⟨rfl, rfl⟩))
      try go_ret
      exact HA.out _ ⟨hc7.out.os, hc7.out.tape, hc7.out.output, hc7.out.size, fun k hk _ => hc7.out.block k hk⟩
  · have hl0 := hlen0 hex
    have HA : Hid (∀ w', ButM (planM P tb rb nb) w w' → R (.returned (.int .i64 2)) w') := fun w' hbq => by rw [HR.out, HT.out, if_pos hex]; exact RLAns.bad (by decide) hbq
    clear HR HT hlen0 HF1 HF2 hbad hex
    generalize ex.length = m at *
    have hq2 : ¬ ((m : Int) + 2 = 2) := by omega
    go_wp2_with (first | (go_at_call 37; refine (hNm _).mono ?_; rintro e w' ⟨rfl, rfl⟩) | (go_at_call 38; refine hTy.mono ?_; rintro e w' ⟨rfl, rfl⟩))
    try go_ret
    exact HA.out _ ⟨hc7.out.os, hc7.out.tape, hc7.out.output, hc7.out.size, fun k hk _ => hc7.out.block k hk⟩
end Go.Proofs.YtlgodpadcilcaaaDoor
namespace Go.Proofs.YtlgodpadcilcaaaDoor
open Go.ChangeShapes Go.WideShapes Go.ChangeAt Go.RowKit

theorem planM_apart {P : Nat} {tb rb nb : Option Nat} (h : (planM P tb rb nb).Nodup) : (∀ g, tb = some g → g ≠ P ∧ rb ≠ some g ∧ nb ≠ some g) ∧ (∀ g, rb = some g → g ≠ P ∧ nb ≠ some g) ∧ (∀ g, nb = some g → g ≠ P) := by
  unfold planM at h
  rw [List.nodup_cons, List.nodup_append, List.nodup_append] at h
  obtain ⟨h1, h2, ⟨h3, h4, h5⟩, h6⟩ := h
  simp only [List.mem_append, not_or] at h1
  refine ⟨fun g hg => ⟨fun e => h1.1 (by rw [hg, e]; simp), fun e => ?_, fun e => ?_⟩, fun g hg => ⟨fun e => h1.2.1 (by rw [hg, e]; simp), fun e => ?_⟩, fun g hg e => h1.2.2 (by rw [hg, e]; simp)⟩
  · exact h6 g (by rw [hg]; simp) g (List.mem_append_left _ (by rw [e]; simp)) rfl
  · exact h6 g (by rw [hg]; simp) g (List.mem_append_right _ (by rw [e]; simp)) rfl
  · exact h5 g (by rw [hg]; simp) g (by rw [e]; simp) rfl
theorem planM_nodup {P : Nat} {tb rb nb : Option Nat} (h1 : ∀ g, tb = some g → g ≠ P ∧ rb ≠ some g ∧ nb ≠ some g) (h2 : ∀ g, rb = some g → g ≠ P ∧ nb ≠ some g) (h3 : ∀ g, nb = some g → g ≠ P) : (planM P tb rb nb).Nodup := by
  unfold planM
  rw [List.nodup_cons, List.nodup_append, List.nodup_append]
  refine ⟨?_, by cases tb <;> simp, ⟨by cases rb <;> simp, by cases nb <;> simp, fun a ha b hb e => ?_⟩, fun a ha b hb e => ?_⟩
  · simp only [List.mem_append, not_or]
    exact ⟨fun hm => (h1 P (by simpa using hm)).1 rfl, fun hm => (h2 P (by simpa using hm)).1 rfl, fun hm => h3 P (by simpa using hm) rfl⟩
  · subst e
    exact (h2 a (by simpa using ha)).2 (by simpa using hb)
  · subst e
    rcases List.mem_append.1 hb with hb | hb
    · exact (h1 a (by simpa using ha)).2.1 (by simpa using hb)
    · exact (h1 a (by simpa using ha)).2.2 (by simpa using hb)
theorem mem_planM {P g : Nat} {tb rb nb : Option Nat} : g ∈ planM P tb rb nb ↔ g = P ∨ tb = some g ∨ rb = some g ∨ nb = some g := by
  simp [planM]

theorem NRep.same {w w' : World} {P : Nat} {nb : Option Nat} {N : List NV} (h : NRep w P nb N) (hc : w'.cell? ⟨P, 2, none⟩ = w.cell? ⟨P, 2, none⟩) (hf : w'.frozen? ⟨P, 2, none⟩ = w.frozen? ⟨P, 2, none⟩) (hb : ∀ g, nb = some g → w'.heap[g]? = w.heap[g]?) : NRep w' P nb N := by
  obtain ⟨v, h1, h2, h3⟩ := h.row
  exact ⟨⟨v, by rw [hc]; exact h1, owns_same h2 (fun g hg => hb g (by rw [← h3]; exact hg)), h3⟩, h.ne, by rw [hf]; exact h.frz⟩

/-- one type more -/
theorem PlanRep.addTy {w w' : World} {P : Nat} {tb rb nb : Option Nat} {N : List NV} {rs : List RR} {st : List Ty} {n : List UInt8} {G cap : Nat} (h : PlanRep w P tb rb nb N rs st)
    (hc : w'.cell? ⟨P, 0, none⟩ = some (.slice (some ⟨G, 0, none⟩) (st.length + 1) cap)) (hown : w'.ownsRow 0 9 1 (.slice (some ⟨G, 0, none⟩) (st.length + 1) cap) (st.length + 1) ((st.map (·.nm)).map strV ++ [strV n])) (hG : tb = some G ∨ w.heap.size ≤ G) (hGl : G < w'.heap.size)
    (hoth : ∀ i, i ≠ 0 → w'.cell? ⟨P, i, none⟩ = w.cell? ⟨P, i, none⟩) (hfr : ∀ i, w'.frozen? ⟨P, i, none⟩ = w.frozen? ⟨P, i, none⟩) (hs : w.heap.size ≤ w'.heap.size) (hb : ∀ k, k < w.heap.size → k ≠ P → tb ≠ some k → w'.heap[k]? = w.heap[k]?) :
    PlanRep w' P (some G) rb nb N rs (st ++ [⟨n, []⟩]) ∧ ∀ g ∈ planM P (some G) rb nb, g ∈ planM P tb rb nb ∨ w.heap.size ≤ g := by
  obtain ⟨p1, p2, p3⟩ := planM_apart h.nodup
  have hlt := h.lt
  have hPl := hlt P planM_P
  obtain ⟨v2, b1, b2, b3⟩ := h.rels
  have hkr : ∀ g, rb = some g → w'.heap[g]? = w.heap[g]? := fun g hg => hb g (hlt g (planM_r hg)) (p2 g hg).1 (fun e => (p1 g e).2.1 hg)
  have hkn : ∀ g, nb = some g → w'.heap[g]? = w.heap[g]? := fun g hg => hb g (hlt g (planM_n hg)) (p3 g hg) (fun e => (p1 g e).2.2 hg)
  have hR : relsOf (st ++ [⟨n, []⟩]) = relsOf st := by simp [relsOf]
  have hsub : ∀ g ∈ planM P (some G) rb nb, g ∈ planM P tb rb nb ∨ w.heap.size ≤ g := fun g hg => by
    rw [mem_planM] at hg ⊢
    rcases hg with e | e | e | e
    · exact .inl (.inl e)
    · cases e
      rcases hG with e | e
      · exact .inl (.inr (.inl e))
      · exact .inr e
    · exact .inl (.inr (.inr (.inl e)))
    · exact .inl (.inr (.inr (.inr e)))
  refine ⟨⟨⟨_, hc, ?_, rfl⟩, ⟨v2, by rw [hoth 1 (by decide)]; exact b1, owns_same b2 (fun g hg => hkr g (by rw [← b3]; exact hg)), b3⟩, h.nodes.same (hoth 2 (by decide)) (hfr 2) hkn, by rw [hoth 3 (by decide)]; exact h.c3, by rw [hoth 4 (by decide)]; exact h.c4, fun j => by rw [hfr]; exact h.frz j, ?_, ?_, by rw [hR]; exact h.len, ?_⟩, hsub⟩
  · have e1 : ((st ++ [(⟨n, []⟩ : Ty)]).map (·.nm)).length = st.length + 1 := by simp
    rw [e1, List.map_append, List.map_append]
    exact hown
  · refine planM_nodup (fun g hg => ?_) p2 p3
    cases hg
    rcases hG with e | e
    · exact p1 G e
    · exact ⟨by omega, fun e2 => by have := hlt G (planM_r e2); omega, fun e2 => by have := hlt G (planM_n e2); omega⟩
  · intro g hg
    rw [mem_planM] at hg
    rcases hg with e | e | e | e
    · omega
    · cases e; exact hGl
    · have := hlt g (planM_r e); omega
    · have := hlt g (planM_n e); omega
  · intro j h1 h2
    simp only [hR] at h2 ⊢
    obtain ⟨r1, r2, r3, r4, r5⟩ := h.ok j h1 h2
    refine ⟨?_, r2, r3, r4, Tree.keep (fun g hg => ⟨by omega, fun hm => ?_⟩) (fun g hg => hb g hg.1 (fun e => hg.2 (by rw [e]; exact planM_P)) (fun e => hg.2 (planM_t e))) (fun _ _ h => h) _ _ r5⟩
    · rw [List.map_append, List.getElem?_append_left (List.getElem?_eq_some_iff.1 r1).1]; exact r1
    · rcases hsub g hm with e | e
      · exact hg.2 e
      · omega

theorem rtype_fin {w w1 w3 : World} {P : Nat} {tb rb nb : Option Nat} {N : List NV} {rs : List RR} {st : List Ty} {n : List UInt8} {len g3 cap3 : Nat} {o : Obj} (hp1 : PlanRep w1 P tb rb nb N rs st) (hB : Below w.heap.size w w1) (hgrow : ((w1.alloc o).drew).grownBy w3 tb) (hlt : g3 < w3.heap.size)
    (hown : w3.ownsRow 0 9 1 (.slice (some ⟨g3, 0, none⟩) (st.length + 1) cap3) (st.length + 1) ((st.map (·.nm)).map strV ++ [strV n])) (hat : tb = some g3 ∨ g3 = w1.heap.size + 1) (hc : (w3.setCell ⟨P, 0, none⟩ (.slice (some ⟨g3, 0, none⟩) (st.length + 1) cap3)).cell? ⟨P, 0, none⟩ = some (.slice (some ⟨g3, 0, none⟩) (st.length + 1) cap3)) :
    RLAns w P tb rb nb N len (0, st ++ [⟨n, []⟩]) (.returned (.int .i64 0)) (w3.setCell ⟨P, 0, none⟩ (.slice (some ⟨g3, 0, none⟩) (st.length + 1) cap3)) := by
  have hP1 := hp1.lt P planM_P
  have hap := planM_apart hp1.nodup
  have hgP : g3 ≠ P := by
    rcases hat with e | e
    · exact (hap.1 g3 e).1
    · omega
  have hs0 : (w1.alloc o).drew.heap.size = w1.heap.size + 1 := by show (w1.alloc o).heap.size = _; simp
  have hs3 := hgrow.size
  have hsB := hB.size
  have hblk : ∀ k, k < w1.heap.size → tb ≠ some k → w3.heap[k]? = w1.heap[k]? := fun k hk ht => (hgrow.block k (by omega) (fun e => ht e.symm)).trans (Below.heap_alloc w1 _ k hk)
  have hPw3 : w3.heap[P]? = w1.heap[P]? := hblk P hP1 (fun e => (hap.1 P e).1 rfl)
  have hbig : ∀ k, k < w1.heap.size → k ≠ P → tb ≠ some k → (w3.setCell ⟨P, 0, none⟩ (.slice (some ⟨g3, 0, none⟩) (st.length + 1) cap3)).heap[k]? = w1.heap[k]? := fun k hk hkP ht => (Below.heap_setCell _ _ _ _ hkP).trans (hblk k hk ht)
  obtain ⟨hA, hS⟩ := hp1.addTy (n := n) hc (World.ownsRow.kept hown (setCell_grown w3 P 0 _) (.inr (fun e => hgP (by cases e; rfl)))) (orTo hat (fun e => by omega)) (by simp; exact hlt)
    (fun i hi => by rw [cell_set_ne hi]; exact World.cell?_of_block (w := w1) (a := ⟨P, i, none⟩) hPw3) (fun i => by rw [World.frozen?_setCell]; exact World.frozen?_of_block (w := w1) (a := ⟨P, i, none⟩) hPw3) (by simp; omega) hbig
  refine rlans_mk ⟨some g3, rb, nb, [], rs, by rw [List.append_nil]; exact hA, by simp, ⟨?_, ?_, ?_, by simp; omega, fun k hk hm => ?_⟩, fun g hg => orTo (hS g hg) (fun e => by omega)⟩
  · show w3.os = w.os; rw [hgrow.os]; exact hB.os
  · show w3.tape = w.tape; rw [hgrow.tape]; exact hB.tape
  · show w3.output = w.output; rw [hgrow.output]; exact hB.output
  · rw [hbig k (by omega) (fun e => hm (by rw [e]; exact planM_P)) (fun e => hm (planM_t e))]; exact hB.block k hk

set_option maxRecDepth 100000 in
set_option maxHeartbeats 8000000 in
/-- one type more -/
theorem rline_typeok (P : Nat) (tb rb nb : Option Nat) (N : List NV) (rs : List RR) (st : List Ty) (num len : Nat) (s : ByteArray) (w : World) (h : PlanRep w P tb rb nb N rs st) (hok : StOk st) (hs : s.size ≤ 1000000) (hq : ¬ (s.data.toList = [] ∨ s.data.toList.take 2 = [47, 47])) (n : List UInt8) (hsp : splitL 32 s.data.toList = [[116, 121, 112, 101], n])
    (hn : nameL n = true) (hm : n ∉ st.map (·.nm)) (h6 : st.length ≠ 6) :
    Calls Tryd.prog 16 #[.pointer (some ⟨P, 0, none⟩), .string s, .int .i64 (num : Int)] w (RLAns w P tb rb nb N len (lineS st num s.data.toList)) := by
  obtain ⟨i0, hi, hz0, hz1, hz2⟩ := info_parts info9
  have hL : lineS st num s.data.toList = (0, st ++ [⟨n, []⟩]) := by
    rw [lineS_words hq hsp, if_pos rfl]
    show (if nameL n = false then (2, st) else if n ∈ st.map (·.nm) then (3, st) else if st.length = 6 then (1, st) else (0, st ++ [⟨n, []⟩])) = _
    rw [if_neg (by rw [hn]; simp), if_neg hm, if_neg h6]
  rw [hL]
  obtain ⟨q1, q2⟩ := blank_size hq
  have hX2 := pieces_two s w hs _ n [] hsp
  have hz : n.length ≤ 1000000 := by
    have := splitL_mlen 32 s.data.toList n (by rw [hsp]; simp)
    rw [size_list] at this; omega
  have hsz : 2 ≤ s.size := by
    have := splitL_mlen 32 s.data.toList [116, 121, 112, 101] (by rw [hsp]; simp)
    rw [size_list] at this
    simp at this; omega
  have hNm : ∀ u, Calls Tryd.prog 37 #[.string ⟨n.toArray⟩] u fun e w' => e = .returned (.bool true) ∧ w' = u := fun u => by
    have := rname_any ⟨n.toArray⟩ u (by show n.toArray.size ≤ _; simpa using hz)
    rw [show (⟨n.toArray⟩ : ByteArray).data.toList = n from rfl, hn] at this
    exact this
  have hfew := hok.few
  have HTy : Hid (∀ u, Below w.heap.size w u → Calls Tryd.prog 38 #[.pointer (some ⟨P, 0, none⟩), .string ⟨n.toArray⟩] u fun e w' => e = .returned (.int .i64 (-1)) ∧ w' = u) := fun u hb => by
    obtain ⟨v, a1, a2, a3⟩ := (h.below hb).types
    have := rType_any P v (st.map (·.nm)) ⟨n.toArray⟩ u a1 a2 (by simp; omega)
    rw [show (⟨n.toArray⟩ : ByteArray).data.toList = n from rfl, firstI_not hm] at this
    exact this
  have HPR : Hid _ := h
  obtain ⟨R, hR⟩ : ∃ R : Ending → World → Prop, R = RLAns w P tb rb nb N len (0, st ++ [⟨n, []⟩]) := ⟨_, rfl⟩
  rw [← hR]
  have HR : Hid _ := hR
  simp only [List.length_nil, Nat.zero_add] at hX2
  clear hL hq hsp hn hz h hok hR hm
  go_enter Tryd.func16, Tryd.ntmps16
  go_wp2_with fail
  refine hX2.mono ?_
  clear hX2
  rintro e w1 ⟨g, cap, rfl, hc1, hc2, hc3, hc4, hc5, hc6, hc7⟩
  have hTy := HTy.out w1 hc7.out
  have hp1 := HPR.out.below hc7.out
  obtain ⟨v, a1, a2, a3⟩ := hp1.types
  obtain ⟨ta, tc, rfl⟩ : ∃ a c, v = .slice a st.length c := by
    rcases a2.2 with ⟨e, h0⟩ | ⟨g, cap', cur, e, _⟩
    · simp only [List.length_map] at h0
      exact ⟨none, 0, by rw [e, h0]⟩
    · exact ⟨some ⟨g, 0, none⟩, cap', by rw [e]; simp⟩
  simp only [List.length_map] at a2
  have hP1 : P < w1.heap.size := hp1.lt P planM_P
  have hfP := hp1.frz 0
  have hvP : (Value.slice ta st.length tc).ownBlock ≠ some P := fun e => (planM_apart hp1.nodup).1 P (by rw [← a3]; exact e) |>.1 rfl
  have hown1 : ((w1.alloc (.cells #[.string ⟨n.toArray⟩] 9)).drew).ownsRow 0 9 1 (.slice ta st.length tc) st.length ((st.map (·.nm)).map strV) := a2.alloc _
  have hnews : ∀ j u, [Value.string ⟨n.toArray⟩][j]? = some u → ((w1.alloc (.cells #[.string ⟨n.toArray⟩] 9)).drew).cell? ((⟨w1.heap.size, 0, none⟩ : Addr).add j) = some u :=
    World.news_of_block (w := (w1.alloc (.cells #[.string ⟨n.toArray⟩] 9)).drew) (cs := #[.string ⟨n.toArray⟩]) (t := 9) (fr := (0, 0)) (heap_alloc_new w1 _)
  have hone : ∀ u ∈ [Value.string ⟨n.toArray⟩], u.oneCell' = true := fun u hu => by simp at hu; subst hu; rfl
  have HG : Hid (∀ w2 : World, ((w1.alloc (.cells #[.string ⟨n.toArray⟩] 9)).drew).grownBy w2 (Value.slice ta st.length tc).ownBlock → w2.heap[P]? = w1.heap[P]?) := fun w2 hg => by
    refine (hg.block P ?_ (fun e => hvP e.symm)).trans (Below.heap_alloc _ _ _ hP1)
    show P < (w1.alloc _).heap.size
    simp; omega
  have HP1 : Hid _ := hp1
  have HB1 : Hid _ := hc7.out
  have HA3 : Hid _ := a3
  clear HTy hc6 hc7 a2 hp1 a3
  have hlen6 : ¬ ((st.length : Int) = 6) := by omega
  go_upto_region 17 with (first | (go_at_call 37; refine (hNm _).mono ?_; rintro e w' ⟨rfl, hw⟩; subst w') | (go_at_call 38; refine hTy.mono ?_; rintro e w' ⟨rfl, hw⟩; subst w'))
  go_region_law (refine step_append_lies _ rfl (.tmp 84) (.tmp 88) 35 rfl 0 9 i0 _ 1 16 Tryd.underlying35 hi hz0 hz1 hz2 rfl (by decide) (.slice ta st.length tc) st.length ((st.map (·.nm)).map strV) (by simp [Act.eval]) hown1 ⟨w1.heap.size, 0, none⟩ 1 1 [.string ⟨n.toArray⟩] (by simp [Act.eval]) rfl hnews hone (by decide) (by unfold maxLen; omega) (by omega) (Nat.zero_le _) (w1.heap.size + 1) (by simp) ?_; intro g3 cap3 w3 hown2 hgrow2 hat2 hlt2; have hPc : w3.cell? ⟨P, 0, none⟩ = some (.slice ta st.length tc) := (World.cell?_of_block (w := w1) (a := ⟨P, 0, none⟩) (HG.out w3 hgrow2)).trans a1; have hPf : w3.frozen? ⟨P, 0, none⟩ = false := (World.frozen?_of_block (w := w1) (a := ⟨P, 0, none⟩) (HG.out w3 hgrow2)).trans hfP)
  all_goals have HSet : Hid ((w3.setCell ⟨P, 0, none⟩ (.slice (some ⟨g3, 0, none⟩) (st.length + 1) cap3)).cell? ⟨P, 0, none⟩ = some (.slice (some ⟨g3, 0, none⟩) (st.length + 1) cap3)) := World.cell?_setCell_same' _ _ _ (by rw [hPc]; rfl)
  all_goals rw [HA3.out] at hgrow2 hat2
  all_goals go_wp2
  all_goals (try go_ret)
  all_goals rw [HR.out]
  all_goals exact rtype_fin HP1.out HB1.out hgrow2 hlt2 hown2 hat2 HSet.out
end Go.Proofs.YtlgodpadcilcaaaDoor
