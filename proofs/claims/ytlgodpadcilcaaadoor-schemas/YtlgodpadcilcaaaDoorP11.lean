import Derived.Test.YtlgodpadcilcaaaDoorP10
namespace Go.Proofs.YtlgodpadcilcaaaDoor
open Go.ChangeShapes Go.WideShapes Go.ChangeAt Go.RowKit

theorem elemS : Tryd.prog.underlying 35 = some (.slice (Tryd.prog.elem 35)) := by kernel_rfl
theorem sizeS (u : World) : (sizeOf (Tryd.prog.elem 35)).run Tryd.prog u = .ok 1 u := by
  have e : Tryd.prog.elem 35 = 9 := by kernel_rfl
  obtain ⟨i0, hi, hz0, hz1, hz2⟩ := info_parts info9
  rw [e]
  simp [sizeOf, typeInfo, hi, hz1]
/-- parts[1:] -/
theorem slice_one (b o m c : Nat) (hc : m + 1 ≤ c) : ∃ o' c', (o' = o + 1 ∨ m = 0) ∧ m ≤ c' ∧ ∀ u : World, (Instr.slice 35 (.slice (some ⟨b, o, none⟩) (m + 1) c) (some (.int .i64 1)) none none).run Tryd.prog u = .ok (.slice (some ⟨b, o', none⟩) m c') u := by
  by_cases h1 : c = 1
  · refine ⟨o, 0, .inr (by omega), by omega, fun u => ?_⟩
    have hm : m = 0 := by omega
    subst hm
    subst h1
    rw [run_slice_l u 35 (some ⟨b, o, none⟩) (0 + 1) 1 elemS .i64 1 (by decide) (by decide), sizeS]
    simp [sliced]
  · refine ⟨o + 1, c - 1, .inl rfl, by omega, fun u => ?_⟩
    rw [run_slice_l u 35 (some ⟨b, o, none⟩) (m + 1) c elemS .i64 1 (by decide) (by omega), sizeS]
    simp [sliced, h1, Addr.add_mid]

theorem range_mid4 {W : World} {B : Nat} (x1 x2 x3 x4 : Value) {c0 c1 c2 c3 c4 c5 c6 : Value} (h : W.rangeAt B 0 [c0, c1, c2, c3, c4, c5, c6]) :
    ((((W.setCell ⟨B, 1, none⟩ x1).setCell ⟨B, 2, none⟩ x2).setCell ⟨B, 3, none⟩ x3).setCell ⟨B, 4, none⟩ x4).rangeAt B 0 [c0, x1, x2, x3, x4, c5, c6] := by
  have hs : ∀ j, j < 7 → ∃ v, W.cell? ⟨B, j, none⟩ = some v := fun j hj => by
    have := h j ([c0, c1, c2, c3, c4, c5, c6][j]'(by simpa using hj)) (List.getElem?_eq_getElem _)
    rw [Nat.zero_add] at this
    exact ⟨_, this⟩
  have ss : ∀ (V : World) (i j : Nat) (x : Value), (V.cell? ⟨B, j, none⟩).isSome = true → ((V.setCell ⟨B, i, none⟩ x).cell? ⟨B, j, none⟩).isSome = true := fun V i j x hV => by
    by_cases e : j = i
    · subst e; rw [World.cell?_setCell_same' _ _ _ hV]; rfl
    · rw [cell_set_ne e]; exact hV
  have h7 : ∀ j, j < 7 → (W.cell? ⟨B, j, none⟩).isSome = true := fun j hj => by obtain ⟨v, hv⟩ := hs j hj; rw [hv]; rfl
  intro j v hv
  rw [Nat.zero_add]
  match j, hv with
  | 0, hv =>
    have := h 0 c0 rfl
    simp at hv; subst hv
    rw [cell_set_ne (by decide), cell_set_ne (by decide), cell_set_ne (by decide), cell_set_ne (by decide)]
    exact this
  | 1, hv =>
    simp at hv; subst hv
    rw [cell_set_ne (by decide), cell_set_ne (by decide), cell_set_ne (by decide), World.cell?_setCell_same' _ _ _ (h7 1 (by decide))]
  | 2, hv =>
    simp at hv; subst hv
    rw [cell_set_ne (by decide), cell_set_ne (by decide), World.cell?_setCell_same' _ _ _ (ss _ _ _ _ (h7 2 (by decide)))]
  | 3, hv =>
    simp at hv; subst hv
    rw [cell_set_ne (by decide), World.cell?_setCell_same' _ _ _ (ss _ _ _ _ (ss _ _ _ _ (h7 3 (by decide))))]
  | 4, hv =>
    simp at hv; subst hv
    rw [World.cell?_setCell_same' _ _ _ (ss _ _ _ _ (ss _ _ _ _ (ss _ _ _ _ (h7 4 (by decide)))))]
  | 5, hv =>
    have := h 5 c5 rfl
    simp at hv; subst hv
    rw [cell_set_ne (by decide), cell_set_ne (by decide), cell_set_ne (by decide), cell_set_ne (by decide)]
    exact this
  | 6, hv =>
    have := h 6 c6 rfl
    simp at hv; subst hv
    rw [cell_set_ne (by decide), cell_set_ne (by decide), cell_set_ne (by decide), cell_set_ne (by decide)]
    exact this
  | j + 7, hv => simp at hv
theorem heap_mid4 {W : World} {B : Nat} {x1 x2 x3 x4 : Value} {k : Nat} (h : k ≠ B) :
    ((((W.setCell ⟨B, 1, none⟩ x1).setCell ⟨B, 2, none⟩ x2).setCell ⟨B, 3, none⟩ x3).setCell ⟨B, 4, none⟩ x4).heap[k]? = W.heap[k]? := by
  rw [Below.heap_setCell _ _ _ _ h, Below.heap_setCell _ _ _ _ h, Below.heap_setCell _ _ _ _ h, Below.heap_setCell _ _ _ _ h]

def relMain (st : List Ty) (ty : Ty) (num : Nat) (set : Bool) (n : List UInt8) (ex : List (List UInt8)) : Nat × List Ty :=
  match wholeL ex with
  | none => (2, st)
  | some e => if n ∈ ty.rels.map (·.nm) then (3, st) else if ty.rels.length = 6 then (1, st) else (0, st.dropLast ++ [⟨ty.nm, ty.rels ++ [⟨ty.nm, n, set, e, num⟩]⟩])

set_option maxHeartbeats 4000000 in
set_option maxRecDepth 100000 in
theorem relLine_main (Rd S : Nat) (rbT : Option Nat) (A B : List Zt) (z : Zt) (st : List Ty) (n : List UInt8) (ex : List (List UInt8)) (b o c num : Nat) (set : Bool) (w : World) (h : PRep w Rd S rbT (A ++ z :: B) st) (hok : StOk st) (hlast : st.getLast? = some z.ty)
    (hq : w.cell? ⟨Rd, 1, none⟩ = some (.pointer (some ⟨z.tv.blk, 0, none⟩))) (hcap : ex.length + 1 ≤ c) (hcells : ∀ i (hi : i < (n :: ex).length), w.cell? ⟨b, o + i, none⟩ = some (strV (n :: ex)[i])) (hl : ex.length ≤ 1000000) (hz : ∀ x ∈ ex, x.length ≤ 1000000) (hn : nameL n = true) :
    Calls Tryd.prog 25 #[.pointer (some ⟨Rd, 0, none⟩), .slice (some ⟨b, o, none⟩) (ex.length + 1) c, .agg (saidV set num)] w fun e w' => LAns Rd S rbT (A ++ z :: B) w (relMain st z.ty num set n ex) e w' := by
  have hc0 : w.cell? ⟨b, o, none⟩ = some (strV n) := hcells 0 (by simp)
  have hbw : b < w.heap.size := World.block_lt_of_cell? w ⟨b, o, none⟩ hc0
  have hzm : z ∈ A ++ z :: B := by simp
  have hRd := h.lt Rd mem_Rd
  obtain ⟨w0, hw0⟩ : ∃ w0, w0 = w.alloc (.cells (saidV set num) 76) := ⟨_, rfl⟩
  have hal0 : Below w.heap.size w w0 := by rw [hw0]; exact (Below.refl _ _).alloc (Nat.le_refl _) _
  have hs0 : w0.heap.size = w.heap.size + 1 := by rw [hw0]; simp
  have hV0 : w0.rangeAt w.heap.size 0 (saidV set num).toList := by rw [hw0]; exact range_new _ _ _
  have hVf : ∀ j, w0.frozen? ⟨w.heap.size, j, none⟩ = false := fun j => by rw [hw0]; exact World.frozen?_alloc_new _ _ _ _
  have hcell1 : ∀ i (hi : i < ex.length), w0.cell? ⟨b, o + 1 + i, none⟩ = some (strV ex[i]) := fun i hi => by
    rw [hal0.cell (p := ⟨b, o + 1 + i, none⟩) hbw]
    have := hcells (i + 1) (by simp; omega)
    rw [show o + 1 + i = o + (i + 1) by omega]
    simpa using this
  obtain ⟨o', c', ho', hc', hsl⟩ := slice_one b o ex.length c hcap
  have hS1 : Strs w0.heap.size w0 (.slice (some ⟨b, o', none⟩) ex.length c') ex := by
    refine ⟨b, o', c', rfl, hc', by omega, fun i hi => ?_⟩
    rcases ho' with rfl | e
    · exact hcell1 i hi
    · omega
  have h0 := h.below hal0
  have r1 : w0.cell? ⟨Rd, 1, none⟩ = some (.pointer (some ⟨z.tv.blk, 0, none⟩)) := by rw [hal0.cell (p := ⟨Rd, 1, none⟩) hRd]; exact hq
  have c1 : w0.cell? ⟨b, o, none⟩ = some (.string ⟨n.toArray⟩) := by rw [hal0.cell (p := ⟨b, o, none⟩) hbw]; exact hc0
  have hN := fun u => isName_any ⟨n.toArray⟩ u
  have en : (⟨n.toArray⟩ : ByteArray).data.toList = n := rfl
  rw [en, hn] at hN
  clear en
  have hm : (((ex.length : Nat) : Int) + 1 == 0) = false := by rw [beq_eq_false_iff_ne]; omega
  have hX := parseExpr_any w0.heap.size _ ex w0 (Nat.le_refl _) hl hz hS1
  have HRM : Hid (relMain st z.ty num set n ex = match wholeL ex with | none => (2, st) | some e => if n ∈ z.ty.rels.map (·.nm) then (3, st) else if z.ty.rels.length = 6 then (1, st) else (0, st.dropLast ++ [⟨z.ty.nm, z.ty.rels ++ [⟨z.ty.nm, n, set, e, num⟩]⟩])) := rfl
  generalize relMain st z.ty num set n ex = res at *
  clear hcells hc0 hcell1 hS1 ho'
  generalize ex.length = m at *
  unfold saidV at *
  go_enter Tryd.func25, Tryd.ntmps25
  go_upto_region 1 with fail
  rw [← hw0]
  clear hw0
  go_upto_region 3 with (go_at_call 45; refine (hN _).mono ?_; rintro e w' ⟨rfl, rfl⟩)
  generalize hpv : Value.slice (some ⟨b, o, none⟩) (m + 1) c = pv at hsl ⊢
  go_wp2_with fail
  refine hX.mono ?_
  clear hX hsl
  subst hpv
  rintro e w1 ⟨⟨k, b3, c3, p3, l3, cap3, rfl, hE3⟩, hb1⟩
  have hs1 := hb1.size
  have hb01 : Below w.heap.size w w1 := hal0.trans (hb1.mono (by omega))
  obtain ⟨C4, hC4⟩ : ∃ C4 : Array Value, C4 = #[.int .i64 k, .string b3, .string c3, .slice p3 l3 cap3] := ⟨_, rfl⟩
  obtain ⟨w2, hw2⟩ : ∃ w2, w2 = w1.alloc (.cells C4 74) := ⟨_, rfl⟩
  have hal2 : Below w1.heap.size w1 w2 := by rw [hw2]; exact (Below.refl _ _).alloc (Nat.le_refl _) _
  have hs2 : w2.heap.size = w1.heap.size + 1 := by rw [hw2]; simp
  have hD2 : w2.rangeAt w1.heap.size 0 C4.toList := by rw [hw2]; exact range_new _ _ _
  have hb02 : Below w.heap.size w w2 := hb01.trans (hal2.mono (by omega))
  have hV2 := range_below (range_below hV0 hb1 (by omega)) hal2 (by omega)
  have hVf2 : ∀ j, w2.frozen? ⟨w.heap.size, j, none⟩ = false := fun j => by
    rw [hal2.frozen (p := ⟨w.heap.size, j, none⟩) (by show w.heap.size < _; omega), hb1.frozen (p := ⟨w.heap.size, j, none⟩) (by show w.heap.size < _; omega)]; exact hVf j
  have hE2 : ∀ x, wholeL ex = some x → ERep (fun g => w.heap.size < g ∧ g < w1.heap.size) w2 x (ExpV k b3 c3 p3 l3 cap3) := fun x hx => (hE3 x hx).mono (fun g hg => ⟨by have := hg.1; omega, hg.2⟩) (fun g hg => hal2.block g hg.2)
  have h2 := h.below hb02
  have hr2 : w2.cell? ⟨Rd, 1, none⟩ = some (.pointer (some ⟨z.tv.blk, 0, none⟩)) := by rw [hb02.cell (p := ⟨Rd, 1, none⟩) hRd]; exact hq
  have hc2 : w2.cell? ⟨b, o, none⟩ = some (.string ⟨n.toArray⟩) := by rw [hal2.cell (p := ⟨b, o, none⟩) (by show b < _; omega), hb1.cell (p := ⟨b, o, none⟩) (by show b < _; omega)]; exact c1
  have eV : (ExpV k b3 c3 p3 l3 cap3).toArray = #[.int .i64 k, .string b3, .string c3, .slice p3 l3 cap3] := rfl
  rw [eV]
  clear eV hE3 hV0 hVf r1 c1
  generalize hqq : (wholeL ex).isSome = qq at *
  have HQ : Hid ((wholeL ex).isSome = qq) := hqq
  clear hqq
  go_upto_region 4 with fail
  rw [← hC4, ← hw2]
  clear hw2
  subst hC4
  cases hx : wholeL ex with
  | none =>
    have hq2 : qq = false := by rw [← HQ.out, hx]; rfl
    subst hq2
    have HR : Hid (res = (2, st)) := by show _ = _; rw [HRM.out, hx]
    clear HRM hx HQ hE2
    go_wp2
    go_ret
    rw [HR.out]
    exact LAns.same h hb02
  | some ee =>
    have hq2 : qq = true := by rw [← HQ.out, hx]; rfl
    subst hq2
    have hEx := hE2 ee hx
    have hres : res = if n ∈ z.ty.rels.map (·.nm) then (3, st) else if z.ty.rels.length = 6 then (1, st) else (0, st.dropLast ++ [⟨z.ty.nm, z.ty.rels ++ [⟨z.ty.nm, n, set, ee, num⟩]⟩]) := by rw [HRM.out, hx]
    clear HRM hE2 HQ hx
    have hzk2 := h2.zok z hzm
    have hdr : Below w2.heap.size w2 w2.drew := (Below.refl _ _).drew
    have hH := HasR_any z.tv.blk z.es ⟨n.toArray⟩ w2.drew ((h2.below hdr).zok z hzm).own.list
    have hD : decide ((⟨n.toArray⟩ : ByteArray).data.toList ∈ z.es.map (·.key)) = decide (n ∈ z.ty.rels.map (·.nm)) := decide_eq_decide.2 (hzk2.keys n)
    rw [hD] at hH
    clear hD
    by_cases hin : n ∈ z.ty.rels.map (·.nm)
    · have HR : Hid (res = (3, st)) := by show _ = _; rw [hres, if_pos hin]
      rw [decide_eq_true hin] at hH
      clear hres
      go_upto_region 6 with fail
      go_region_with (go_at_call 49; refine hH.mono ?_; rintro e w3 ⟨rfl, hb3⟩)
      all_goals go_wp2
      all_goals go_ret
      all_goals rw [HR.out]
      all_goals exact LAns.same h (hb02.trans ((hdr.trans hb3).mono hb02.size))
    · rw [if_neg hin] at hres
      rw [decide_eq_false hin] at hH
      go_upto_region 6 with fail
      go_region_with (go_at_call 49; refine hH.mono ?_; rintro e w3 ⟨rfl, hb3⟩)
      all_goals
        have hb23 : Below w2.heap.size w2 w3 := hdr.trans hb3
        have hs3 := hb23.size
        have hb03 : Below w.heap.size w w3 := hb02.trans (hb23.mono hb02.size)
        have h3 := h.below hb03
        have hzk3 := h3.zok z hzm
        have hLn := LenR_any z.tv.blk z.es w3 hzk3.own.list
        rw [hzk3.count] at hLn
        have hV3 := range_below hV2 hb23 (by omega)
        have hVf3 : ∀ j, w3.frozen? ⟨w.heap.size, j, none⟩ = false := fun j => by
          rw [hb23.frozen (p := ⟨w.heap.size, j, none⟩) (by show w.heap.size < _; omega)]; exact hVf2 j
        have hD3 := range_below hD2 hb23 (by omega)
        have hr3 : w3.cell? ⟨Rd, 1, none⟩ = some (.pointer (some ⟨z.tv.blk, 0, none⟩)) := by rw [hb03.cell (p := ⟨Rd, 1, none⟩) hRd]; exact hq
        have hc3 : w3.cell? ⟨b, o, none⟩ = some (.string ⟨n.toArray⟩) := by rw [hb23.cell (p := ⟨b, o, none⟩) (by show b < _; omega)]; exact hc2
        have hrl := (hok.rels z.ty (by rw [getLast_split hlast]; simp)).1
        by_cases h6 : z.ty.rels.length = 6
        · have HR : Hid (res = (1, st)) := by show _ = _; rw [hres, if_pos h6]
          rw [h6] at hLn
          clear hres hV3 hD3 hV2 hD2
          go_wp2_with (go_at_call 50; refine hLn.mono ?_; rintro e w' ⟨rfl, hw'⟩; subst hw')
          go_ret
          rw [HR.out]
          exact LAns.same h hb03
        · have HR : Hid (res = (0, st.dropLast ++ [⟨z.ty.nm, z.ty.rels ++ [⟨z.ty.nm, n, set, ee, num⟩]⟩])) := by show _ = _; rw [hres, if_neg h6]
          have hq6 : (((z.ty.rels.length : Nat) : Int) == 6) = false := by rw [beq_eq_false_iff_ne]; omega
          have hcnt := hzk3.count
          clear hres hV2 hD2
          have t0 : w3.cell? ⟨w.heap.size, 0, none⟩ = some (.bool set) := hV3 0 _ rfl
          have t1 : w3.cell? ⟨w.heap.size, 1, none⟩ = some (.int .i64 0) := hV3 1 _ rfl
          have t2 : w3.cell? ⟨w.heap.size, 2, none⟩ = some (.string ⟨#[]⟩) := hV3 2 _ rfl
          have t3 : w3.cell? ⟨w.heap.size, 3, none⟩ = some (.string ⟨#[]⟩) := hV3 3 _ rfl
          have t4 : w3.cell? ⟨w.heap.size, 4, none⟩ = some (.slice none 0 0) := hV3 4 _ rfl
          have d0 : w3.cell? ⟨w1.heap.size, 0, none⟩ = some (.int .i64 k) := hD3 0 _ rfl
          have d1 : w3.cell? ⟨w1.heap.size, 1, none⟩ = some (.string b3) := hD3 1 _ rfl
          have d2 : w3.cell? ⟨w1.heap.size, 2, none⟩ = some (.string c3) := hD3 2 _ rfl
          have d3 : w3.cell? ⟨w1.heap.size, 3, none⟩ = some (.slice p3 l3 cap3) := hD3 3 _ rfl
          have HV3 : Hid _ := hV3
          clear hV3 hD3
          generalize hrn : z.ty.rels.length = rl at *
          go_upto_region 11 with (go_at_call 50; refine hLn.mono ?_; rintro e w' ⟨rfl, hw'⟩; subst hw')
          have hV4 := range_mid4 (.int .i64 k) (.string b3) (.string c3) (.slice p3 l3 cap3) (show w'.rangeAt w.heap.size 0 [.bool set, .int .i64 0, .string ⟨#[]⟩, .string ⟨#[]⟩, .slice none 0 0, .int .i64 0, .int .i64 (num : Int)] from HV3.out)
          have hb4 : Below w.heap.size w ((((w'.setCell ⟨w.heap.size, 1, none⟩ (.int .i64 k)).setCell ⟨w.heap.size, 2, none⟩ (.string b3)).setCell ⟨w.heap.size, 3, none⟩ (.string c3)).setCell ⟨w.heap.size, 4, none⟩ (.slice p3 l3 cap3)) := (((hb03.setCell (p := ⟨w.heap.size, 1, none⟩) (Nat.le_refl _) _).setCell (p := ⟨w.heap.size, 2, none⟩) (Nat.le_refl _) _).setCell (p := ⟨w.heap.size, 3, none⟩) (Nat.le_refl _) _).setCell (p := ⟨w.heap.size, 4, none⟩) (Nat.le_refl _) _
          have hk4 : ∀ g, g ≠ w.heap.size → ((((w'.setCell ⟨w.heap.size, 1, none⟩ (.int .i64 k)).setCell ⟨w.heap.size, 2, none⟩ (.string b3)).setCell ⟨w.heap.size, 3, none⟩ (.string c3)).setCell ⟨w.heap.size, 4, none⟩ (.slice p3 l3 cap3)).heap[g]? = w'.heap[g]? := fun g hg => heap_mid4 hg
          have hs4 : ((((w'.setCell ⟨w.heap.size, 1, none⟩ (.int .i64 k)).setCell ⟨w.heap.size, 2, none⟩ (.string b3)).setCell ⟨w.heap.size, 3, none⟩ (.string c3)).setCell ⟨w.heap.size, 4, none⟩ (.slice p3 l3 cap3)).heap.size = w'.heap.size := by simp
          generalize ((((w'.setCell ⟨w.heap.size, 1, none⟩ (.int .i64 k)).setCell ⟨w.heap.size, 2, none⟩ (.string b3)).setCell ⟨w.heap.size, 3, none⟩ (.string c3)).setCell ⟨w.heap.size, 4, none⟩ (.slice p3 l3 cap3)) = W4 at *
          have x0 : W4.cell? ⟨w.heap.size, 0, none⟩ = some (.bool set) := hV4 0 _ rfl
          have x1 : W4.cell? ⟨w.heap.size, 1, none⟩ = some (.int .i64 k) := hV4 1 _ rfl
          have x2 : W4.cell? ⟨w.heap.size, 2, none⟩ = some (.string b3) := hV4 2 _ rfl
          have x3 : W4.cell? ⟨w.heap.size, 3, none⟩ = some (.string c3) := hV4 3 _ rfl
          have x4 : W4.cell? ⟨w.heap.size, 4, none⟩ = some (.slice p3 l3 cap3) := hV4 4 _ rfl
          have x5 : W4.cell? ⟨w.heap.size, 5, none⟩ = some (.int .i64 0) := hV4 5 _ rfl
          have x6 : W4.cell? ⟨w.heap.size, 6, none⟩ = some (.int .i64 (num : Int)) := hV4 6 _ rfl
          have hr4 : W4.cell? ⟨Rd, 1, none⟩ = some (.pointer (some ⟨z.tv.blk, 0, none⟩)) := by rw [hb4.cell (p := ⟨Rd, 1, none⟩) hRd]; exact hq
          have hc4 : W4.cell? ⟨b, o, none⟩ = some (.string ⟨n.toArray⟩) := by rw [World.cell?_of_block (w := w') (a := ⟨b, o, none⟩) (hk4 b (by omega))]; exact hc3
          have hb4d : Below w.heap.size w W4.drew := hb4.drew
          have h4 := h.below hb4d
          have hzk4 := h4.zok z hzm
          have hPut := PutR_new z.tv.blk z.rb z.es ⟨n, set, k, b3, c3, p3, l3, cap3, 0, (num : Int)⟩ W4.drew hzk4.own (fun hm => hin ((hzk4.keys n).1 hm)) (by omega)
          have hERp : ERep (fun g => g < W4.drew.heap.size ∧ g ∉ allBlocks Rd S rbT (A ++ z :: B)) W4.drew ee (ExpV k b3 c3 p3 l3 cap3) := hEx.mono (fun g hg => ⟨by show g < W4.heap.size; omega, fun hm => by have := h.lt g hm; omega⟩) (fun g hg => (hk4 g (by omega)).trans (hb23.block g (by omega)))
          unfold strV at hPut
          simp only [] at hPut
          have HH4 : Hid _ := h4
          have HEp : Hid _ := hERp
          have HK4 : Hid _ := hk4
          clear hV4 hk4 h4 hzk4 hERp hLn t0 t1 t2 t3 t4 d0 d1 d2 d3 HV3
          go_region_with (go_at_call 36; refine hPut.mono ?_; rintro e w5 ⟨⟨v5, rfl⟩, hput⟩)
          all_goals go_wp2
          all_goals go_ret
          all_goals rw [HR.out]
          all_goals
            obtain ⟨zs', hp', hm', hbm⟩ := PRep.addRel (r := ⟨z.ty.nm, n, set, ee, num⟩) HH4.out hlast hr4 ⟨rfl, rfl, rfl, HEp.out⟩ hput
            have hz5 := hbm.size
            have hz4 := hb4d.size
            refine ⟨rfl, ⟨hbm.os.trans hb4d.os, hbm.tape.trans hb4d.tape, hbm.output.trans hb4d.output, by omega, fun q hq' hqM => (hbm.block q (by omega) hqM).trans (hb4d.block q hq')⟩, rbT, zs', hp', fun g hg => orTo (hm' g hg) (fun e => by omega)⟩
end Go.Proofs.YtlgodpadcilcaaaDoor
