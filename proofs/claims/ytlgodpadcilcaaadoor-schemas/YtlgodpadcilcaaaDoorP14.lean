import Derived.Test.YtlgodpadcilcaaaDoorP13
namespace Go.Proofs.YtlgodpadcilcaaaDoor
open Go.ChangeShapes Go.WideShapes Go.ChangeAt Go.RowKit


theorem exprL_and {l : List (List UInt8)} {x : Exp} {r : List (List UInt8)} (he : termL l = some (x, [38] :: r)) : exprL l = match manyL [38] ([38] :: r) with
    | none => none
    | some (es, r') => if 4 = 5 ∧ es.length ≠ 1 then none else some (.join 4 (x :: es), r') := by
  have h := exprL_eq l
  rw [he] at h
  exact h

set_option maxRecDepth 100000 in
set_option maxHeartbeats 8000000 in
theorem rexpr_and (f : Nat) (hT : RTermOK f) (P : Nat) (nb : Option Nat) (N : List NV) (v : Value) (xs : List (List UInt8)) (i : Nat) (w : World) (h : NRep w P nb N) (hW : WordsR w (P :: nb.toList) v xs) (hi : i ≤ xs.length) (hf : xs.length - i ≤ f) (hl : xs.length ≤ 1000000) (hN : N.length + xs.length - i ≤ 1000000) (hz : ∀ x ∈ xs, x.length ≤ 1000000)
    (x : Exp) (r : List (List UInt8)) (he : termL (xs.drop i) = some (x, [38] :: r)) :
    Calls Tryd.prog 39 #[.pointer (some ⟨P, 0, none⟩), v, .int .i64 (i : Int)] w (RAns P nb N w xs i (exprL (xs.drop i))) := by
  obtain ⟨i0, hi0, hz0, hz1, hz2⟩ := info_parts infoI
  have hX := hT P nb N v xs i w h hW hi hf hl hN hz
  rw [he] at hX
  have HTL : Hid (exprL (xs.drop i) = _) := exprL_and he
  have hW0 := hW
  obtain ⟨b, o, c, rfl, hc, hb, hbM, hcell⟩ := hW
  have hX2 : Calls Tryd.prog 62 #[.pointer (some ⟨P, 0, none⟩), .slice (some ⟨b, o, none⟩) xs.length c, .int .i64 (i : Int)] w fun e w' => ∃ top k nb' N', e = .returned (.tuple #[.int .i64 ((top : Nat) : Int), .int .i64 ((k : Nat) : Int)]) ∧ k ≤ xs.length ∧ i < k ∧ [38] :: r = xs.drop k ∧ NGrow P nb N w w' nb' N' ∧ i + N'.length ≤ k ∧ Tree (fun g => w.heap.size ≤ g ∧ g < w'.heap.size ∧ g ∉ P :: nb'.toList) w' (N ++ N') x top := hX
  have HNone : Hid (∀ e w', exprL (xs.drop i) = none → (∃ k : Int, e = .returned (.tuple #[.int .i64 (-1), .int .i64 k])) → ButM (P :: nb.toList) w w' → RAns P nb N w xs i (exprL (xs.drop i)) e w') := fun e w' h0 hk hbq => by rw [h0]; exact ⟨hk, hbq⟩
  have HSome : Hid (∀ w' y k nb' N' top, exprL (xs.drop i) = some (y, xs.drop k) → k ≤ xs.length → i < k → NGrow P nb N w w' nb' N' → i + N'.length ≤ k → Tree (fun g => w.heap.size ≤ g ∧ g < w'.heap.size ∧ g ∉ P :: nb'.toList) w' (N ++ N') y top → RAns P nb N w xs i (exprL (xs.drop i)) (.returned (.tuple #[.int .i64 ((top : Nat) : Int), .int .i64 ((k : Nat) : Int)])) w') := fun w' y k nb' N' top h0 h1 h2 h3 h4 h5 => by
    rw [h0]
    exact ⟨top, k, nb', N', rfl, h1, h2, rfl, h3, h4, h5⟩
  have HWd : Hid (∀ nb' N' wr, NGrow P nb N w wr nb' N' → WordsR wr (P :: nb'.toList) (.slice (some ⟨b, o, none⟩) xs.length c) xs) := fun nb' N' wr hg => hW0.grow hg
  have HCell : Hid (∀ nb' N' wr, NGrow P nb N w wr nb' N' → ∀ j (h : j < xs.length), wr.cell? ⟨b, o + j, none⟩ = some (.string ⟨xs[j].toArray⟩)) := fun nb' N' wr hg j hj => by
    rw [World.cell?_of_block (w := w) (a := ⟨b, o + j, none⟩) (hg.but.block b hb hbM)]; exact hcell j hj
  have HZ : Hid (∀ x ∈ xs, x.length ≤ 1000000) := hz
  clear hX he hW0 hbM hcell h hz
  generalize RAns P nb N w xs i (exprL (xs.drop i)) = R at *
  go_enter Tryd.func39, Tryd.ntmps39
  go_wp2_with fail
  refine hX2.mono ?_
  clear hX2
  rintro e w1 ⟨top, k0, nb1, N1, rfl, hk0, hik0, hrest, hg1, hn1, hT1⟩
  have hk1 : k0 < xs.length := by
    have := congrArg List.length hrest
    simp at this; omega
  have hxk : xs[k0] = [38] := by
    have e := List.drop_eq_getElem_cons hk1
    rw [e] at hrest
    exact (List.cons.inj hrest).1.symm
  have c1 : w1.cell? ⟨b, o + k0, none⟩ = some (.string ⟨#[38]⟩) := by rw [HCell.out _ _ _ hg1 k0 hk1, hxk]
  have HRL := RLoop.one hg1 hn1 hT1
  have HRL1 : Hid _ := HRL
  have HM0 : Hid (manyL [38] ([38] :: r) = match manyL [38] (xs.drop k0) with | none => none | some (es', r') => some ([] ++ es', r')) := by
    show _ = _
    rw [← hrest]
    cases manyL [38] ([38] :: r) with
    | none => rfl
    | some q => rfl
  have HXK : Hid (xs[k0] = [38]) := hxk
  clear HRL hg1 hT1 hrest hxk
  unfold intV at HRL1
  obtain ⟨n, hnx⟩ : ∃ n, xs.length = n := ⟨_, rfl⟩
  have HNX : Hid (xs.length = n) := hnx
  have hk1n : k0 < n := by omega
  rw [hnx] at hc hi hf hl hN hk0 ⊢
  clear hnx
  go_wp2
  have hq0 : decide ((top : Int) < 0) = false := decide_eq_false (by omega)
  have hq1 : decide (n ≤ k0) = false := decide_eq_false (by omega)
  simp only [hq0, hq1, Bool.or_self]
  go_loopw [9, 11] (fun s9 s11 wr => ∃ (k G cap pl : Nat) (ps : List Nat) (es : List Exp) (nb' : Option Nat) (N' : List NV), s9 = .int .i64 (k : Int) ∧ s11 = .slice (some ⟨G, 0, none⟩) pl cap ∧ k ≤ n ∧ k0 ≤ k ∧ pl ≤ k + 1 ∧ es.length < pl ∧ pl ≤ es.length + 1 ∧ Hid (pl = ps.length) ∧ i + N'.length + es.length ≤ k ∧ (1 ≤ es.length ∨ k = k0) ∧ Hid (RLoop P nb N w wr i k nb' N' G cap ps (x :: es)) ∧ Hid (manyL [38] ([38] :: r) = match manyL [38] (xs.drop k) with | none => none | some (es', r') => some (es ++ es', r'))) (fun s9 _ _ => n - (intOf s9).toNat)
  case atStart =>
    refine ⟨k0, w1.heap.size, 1, 1, [top], [], nb1, N1, rfl, rfl, hk0, Nat.le_refl _, by omega, by simp, by simp, rfl, by simpa using hn1, .inr rfl, ?_, HM0.out⟩
    exact HRL1.out
  case round =>
    obtain ⟨k, G, cap, pl, ps, es, nb', N', rfl, rfl, hkn, hkk, hpl, hple, hple2, HPL, hcnt, hone, HRL, HM⟩ := hrel
    have hnx := HNX.out
    have exitT : Hid (k = n ∨ (∃ h : k < xs.length, xs[k] ≠ [38])) → Hid (1 ≤ es.length ∧ exprL (xs.drop i) = if 4 = 5 ∧ es.length ≠ 1 then none else some (.join 4 (x :: es), xs.drop k)) := fun hx => by
      have hone' : 1 ≤ es.length := by
        rcases hone with h1 | h1
        · exact h1
        · rcases hx.out with h2 | ⟨h2, h3⟩
          · omega
          · subst h1; exact absurd HXK.out h3
      refine ⟨hone', ?_⟩
      have hm : manyL [38] (xs.drop k) = some ([], xs.drop k) := by
        rcases hx.out with h2 | ⟨h2, h3⟩
        · rw [h2, ← hnx, List.drop_length, manyL_nil]
        · rw [List.drop_eq_getElem_cons h2, manyL_other _ _ _ h3]
      rw [HTL.out, HM.out, hm]
      simp
    have HEx : Hid _ := exitT
    clear exitT
    have hNd : N.length + N'.length ≤ 1000000 := by omega
    obtain ⟨m, hm⟩ : ∃ m, (N ++ N').length = m := ⟨_, rfl⟩
    have HNode : Hid (∀ w2, w2 = wr → Calls Tryd.prog 63 #[.pointer (some ⟨P, 0, none⟩), .agg #[.int .u8 (((⟨#[38]⟩ : ByteArray)[0]'(by decide)).toNat : Int), .string ⟨#[]⟩, .string ⟨#[]⟩, .slice (some ⟨G, 0, none⟩) pl cap]] w2 fun e w' => e = .returned (.int .i64 (m : Nat)) ∧ ∃ nb'', NGrow P nb' (N ++ N') w2 w' nb'' [⟨sgn 4, [], [], some ⟨G, 0, none⟩, pl, cap⟩]) := fun w2 hw2 => by
      subst hw2
      have e : (((⟨#[38]⟩ : ByteArray)[0]'(by decide)).toNat : Int) = sgn 4 := by decide
      rw [e, ← hm]
      exact node_grow P nb' (N ++ N') ⟨sgn 4, [], [], some ⟨G, 0, none⟩, pl, cap⟩ _ HRL.out.grow.rep (by simp; omega)
    have HFin : Hid (∀ w' nb'', (4 = 3 ∨ 4 = 4 ∨ (4 = 5 ∧ es.length = 1)) → 1 ≤ es.length → exprL (xs.drop i) = some (.join 4 (x :: es), xs.drop k) → NGrow P nb' (N ++ N') wr w' nb'' [⟨sgn 4, [], [], some ⟨G, 0, none⟩, pl, cap⟩] → R (.returned (.tuple #[.int .i64 (m : Nat), .int .i64 ((k : Nat) : Int)])) w') := fun w' nb'' hkk3 h1 h2 hg => by
      rw [HPL.out] at hg
      rw [← hm]
      obtain ⟨a1, a2⟩ := HRL.out.join (kk := 4) (orTo hkk3 (fun h => orTo h (fun h => ⟨h.1, by simp; omega⟩))) hg
      exact HSome.out w' _ k nb'' _ _ h2 (by omega) (by omega) a1 (by simp; omega) a2
    clear hm
    by_cases hklt : k < n
    · have hkx : k < xs.length := by omega
      have c2 := HCell.out _ _ _ HRL.out.grow k hkx
      by_cases hq : xs[k] = [38]
      · rw [hq] at c2
        have hY := hT P nb' (N ++ N') (.slice (some ⟨b, o, none⟩) n c) xs (k + 1) wr HRL.out.grow.rep (by have := HWd.out _ _ _ HRL.out.grow; rw [hnx] at this; exact this) (by omega) (by omega) (by omega) (by simp; omega) HZ.out
        have e1 : (((k + 1 : Nat) : Int)) = (k : Int) + 1 := by omega
        rw [e1] at hY
        clear e1
        have hdk := List.drop_eq_getElem_cons hkx
        rw [hq] at hdk
        cases het : termL (xs.drop (k + 1)) with
        | none =>
          rw [het] at hY
          have hY2 : Calls Tryd.prog 62 #[.pointer (some ⟨P, 0, none⟩), .slice (some ⟨b, o, none⟩) n c, .int .i64 ((k : Int) + 1)] wr fun e w' => (∃ k : Int, e = .returned (.tuple #[.int .i64 (-1), .int .i64 k])) ∧ ButM (P :: nb'.toList) wr w' := hY
          have HNo : Hid (exprL (xs.drop i) = none) := by
            show _ = _
            rw [HTL.out, HM.out, hdk, manyL_none _ _ het]
          have HGr : Hid (NGrow P nb N w wr nb' N') := HRL.out.grow
          clear hY hq hdk het HM HTL HEx HNode HFin HRL
          go_wp2_with (go_at_call 62; refine hY2.mono ?_; rintro e w' ⟨⟨kz, rfl⟩, hbm⟩)
          try go_ret2
          exact HNone.out _ _ HNo.out ⟨_, rfl⟩ (HGr.out.thenBut ⟨hbm.os, hbm.tape, hbm.output, hbm.size, hbm.block⟩)
        | some q =>
          obtain ⟨y, r2⟩ := q
          rw [het] at hY
          have hY2 : Calls Tryd.prog 62 #[.pointer (some ⟨P, 0, none⟩), .slice (some ⟨b, o, none⟩) n c, .int .i64 ((k : Int) + 1)] wr fun e w' => ∃ top k2 nb'' N'', e = .returned (.tuple #[.int .i64 ((top : Nat) : Int), .int .i64 ((k2 : Nat) : Int)]) ∧ k2 ≤ xs.length ∧ k + 1 < k2 ∧ r2 = xs.drop k2 ∧ NGrow P nb' (N ++ N') wr w' nb'' N'' ∧ k + 1 + N''.length ≤ k2 ∧ Tree (fun g => wr.heap.size ≤ g ∧ g < w'.heap.size ∧ g ∉ P :: nb''.toList) w' (N ++ N' ++ N'') y top := hY
          have HM2 : Hid (manyL [38] ([38] :: r) = match manyL [38] r2 with | none => none | some (es', r') => some ((es ++ [y]) ++ es', r')) := by
            show _ = _
            rw [HM.out, hdk, manyL_some _ _ het]
            cases manyL [38] r2 with
            | none => rfl
            | some q => simp
          clear hY hq hdk het HM HTL HEx HNode HFin
          go_wp2_with fail
          refine hY2.mono ?_
          clear hY2
          rintro e w2 ⟨top2, k2, nb2, N2, rfl, hk2, hkk2, hr2, hg2, hn2, hT2⟩
          have hGl := HRL.out.row.lt G rfl
          have hs2 := hg2.but.size
          have hown2 : (w2.alloc (.cells #[.int .i64 (top2 : Int)] 3)).ownsRow w.heap.size 3 1 (.slice (some ⟨G, 0, none⟩) pl cap) pl (ps.map intV) := by
            have h0 := HRL.out.row
            rw [← HPL.out] at h0
            exact World.ownsRow.alloc (owns_same h0 (fun g hg => by cases hg; exact hg2.but.block G hGl.2 HRL.out.gm)) _
          have HG2 : Hid _ := hg2
          have HT2 : Hid _ := hT2
          have HR2 : Hid (r2 = xs.drop k2) := hr2
          clear hg2 hT2 hr2
          go_wp2_with (at_builtin; refine wpList_append_lies _ rfl _ _ 60 rfl w.heap.size 3 i0 _ 1 8 Tryd.underlying60 hi0 hz0 hz1 hz2 rfl (by decide) _ _ _ rfl hown2 ⟨w2.heap.size, 0, none⟩ 1 1 [.int .i64 (top2 : Int)] rfl rfl ?_ (fun x hx => by simp at hx; subst hx; rfl) (by decide) (by unfold maxLen; omega) (by omega) (by simp; omega) (w2.heap.size + 1) (by simp) ?_; (exact World.news_of_block (cs := #[.int .i64 (top2 : Int)]) (t := 3) (fr := (0, 0)) (heap_alloc_new w2 _)); intro g3 cap3 w3 hown3 hgrow3 hat3 hlt3)
          go_roundw
          case rel =>
            have hst := HRL.out.step HG2.out hn2 HT2.out (G' := g3) (cap' := cap3) (w3 := w3) (by rw [← HPL.out]; exact hown3) ((ButM.of_below ((Below.refl _ _).alloc (Nat.le_refl _) _)).trans (ButM.of_grown hgrow3)) (by
              rcases hat3 with e | e
              · left; cases e; rfl
              · right; omega)
            have hcn := hst.cnt
            simp only [List.length_cons, List.length_append, List.length_nil] at hcn
            refine ⟨k2, g3, cap3, pl + 1, ps ++ [top2], es ++ [y], nb2, N' ++ N2, rfl, rfl, by omega, by omega, by omega, by simp; omega, by simp; omega, by show _ = _; rw [HPL.out]; simp, by simp; omega, .inl (by simp), hst, ?_⟩
            rw [← HR2.out]
            exact HM2.out
          case measure => simp [intOf]; omega
      · have hqb : ((⟨xs[k].toArray⟩ : ByteArray).toList == [38]) = false := by rw [ByteArray.toList_eq, beq_eq_false_iff_ne]; exact hq
        obtain ⟨ho1, HEE⟩ := (HEx.out (.inr ⟨hkx, hq⟩)).out
        have HE2 : Hid _ := HEE
        clear HEE hq HM HTL HEx HRL
        generalize (⟨xs[k].toArray⟩ : ByteArray) = X at *
        have HE3 : Hid (exprL (xs.drop i) = some (.join 4 (x :: es), xs.drop k)) := by show _ = _; rw [HE2.out, if_neg (by simp)]
        have hNo := HNode.out _ rfl
        go_wp2_with (go_at_call 63; refine hNo.mono ?_; rintro e w' ⟨rfl, nb'', hg⟩)
        try go_ret2
        exact HFin.out _ _ (by simp) ho1 HE3.out hg
    · obtain rfl : k = n := by omega
      obtain ⟨ho1, HEE⟩ := (HEx.out (.inl rfl)).out
      have HE2 : Hid _ := HEE
      clear HEE HM HTL HEx HRL
      have HE3 : Hid (exprL (xs.drop i) = some (.join 4 (x :: es), xs.drop k)) := by show _ = _; rw [HE2.out, if_neg (by simp)]
      have hNo := HNode.out _ rfl
      go_wp2_with (go_at_call 63; refine hNo.mono ?_; rintro e w' ⟨rfl, nb'', hg⟩)
      try go_ret2
      exact HFin.out _ _ (by simp) ho1 HE3.out hg
end Go.Proofs.YtlgodpadcilcaaaDoor
namespace Go.Proofs.YtlgodpadcilcaaaDoor
open Go.ChangeShapes Go.WideShapes Go.ChangeAt Go.RowKit


theorem exprL_less {l : List (List UInt8)} {x : Exp} {r : List (List UInt8)} (he : termL l = some (x, [45] :: r)) : exprL l = match manyL [45] ([45] :: r) with
    | none => none
    | some (es, r') => if 5 = 5 ∧ es.length ≠ 1 then none else some (.join 5 (x :: es), r') := by
  have h := exprL_eq l
  rw [he] at h
  exact h

set_option maxRecDepth 100000 in
set_option maxHeartbeats 8000000 in
theorem rexpr_less (f : Nat) (hT : RTermOK f) (P : Nat) (nb : Option Nat) (N : List NV) (v : Value) (xs : List (List UInt8)) (i : Nat) (w : World) (h : NRep w P nb N) (hW : WordsR w (P :: nb.toList) v xs) (hi : i ≤ xs.length) (hf : xs.length - i ≤ f) (hl : xs.length ≤ 1000000) (hN : N.length + xs.length - i ≤ 1000000) (hz : ∀ x ∈ xs, x.length ≤ 1000000)
    (x : Exp) (r : List (List UInt8)) (he : termL (xs.drop i) = some (x, [45] :: r)) :
    Calls Tryd.prog 39 #[.pointer (some ⟨P, 0, none⟩), v, .int .i64 (i : Int)] w (RAns P nb N w xs i (exprL (xs.drop i))) := by
  obtain ⟨i0, hi0, hz0, hz1, hz2⟩ := info_parts infoI
  have hX := hT P nb N v xs i w h hW hi hf hl hN hz
  rw [he] at hX
  have HTL : Hid (exprL (xs.drop i) = _) := exprL_less he
  have hW0 := hW
  obtain ⟨b, o, c, rfl, hc, hb, hbM, hcell⟩ := hW
  have hX2 : Calls Tryd.prog 62 #[.pointer (some ⟨P, 0, none⟩), .slice (some ⟨b, o, none⟩) xs.length c, .int .i64 (i : Int)] w fun e w' => ∃ top k nb' N', e = .returned (.tuple #[.int .i64 ((top : Nat) : Int), .int .i64 ((k : Nat) : Int)]) ∧ k ≤ xs.length ∧ i < k ∧ [45] :: r = xs.drop k ∧ NGrow P nb N w w' nb' N' ∧ i + N'.length ≤ k ∧ Tree (fun g => w.heap.size ≤ g ∧ g < w'.heap.size ∧ g ∉ P :: nb'.toList) w' (N ++ N') x top := hX
  have HNone : Hid (∀ e w', exprL (xs.drop i) = none → (∃ k : Int, e = .returned (.tuple #[.int .i64 (-1), .int .i64 k])) → ButM (P :: nb.toList) w w' → RAns P nb N w xs i (exprL (xs.drop i)) e w') := fun e w' h0 hk hbq => by rw [h0]; exact ⟨hk, hbq⟩
  have HSome : Hid (∀ w' y k nb' N' top, exprL (xs.drop i) = some (y, xs.drop k) → k ≤ xs.length → i < k → NGrow P nb N w w' nb' N' → i + N'.length ≤ k → Tree (fun g => w.heap.size ≤ g ∧ g < w'.heap.size ∧ g ∉ P :: nb'.toList) w' (N ++ N') y top → RAns P nb N w xs i (exprL (xs.drop i)) (.returned (.tuple #[.int .i64 ((top : Nat) : Int), .int .i64 ((k : Nat) : Int)])) w') := fun w' y k nb' N' top h0 h1 h2 h3 h4 h5 => by
    rw [h0]
    exact ⟨top, k, nb', N', rfl, h1, h2, rfl, h3, h4, h5⟩
  have HWd : Hid (∀ nb' N' wr, NGrow P nb N w wr nb' N' → WordsR wr (P :: nb'.toList) (.slice (some ⟨b, o, none⟩) xs.length c) xs) := fun nb' N' wr hg => hW0.grow hg
  have HCell : Hid (∀ nb' N' wr, NGrow P nb N w wr nb' N' → ∀ j (h : j < xs.length), wr.cell? ⟨b, o + j, none⟩ = some (.string ⟨xs[j].toArray⟩)) := fun nb' N' wr hg j hj => by
    rw [World.cell?_of_block (w := w) (a := ⟨b, o + j, none⟩) (hg.but.block b hb hbM)]; exact hcell j hj
  have HZ : Hid (∀ x ∈ xs, x.length ≤ 1000000) := hz
  clear hX he hW0 hbM hcell h hz
  generalize RAns P nb N w xs i (exprL (xs.drop i)) = R at *
  go_enter Tryd.func39, Tryd.ntmps39
  go_wp2_with fail
  refine hX2.mono ?_
  clear hX2
  rintro e w1 ⟨top, k0, nb1, N1, rfl, hk0, hik0, hrest, hg1, hn1, hT1⟩
  have hk1 : k0 < xs.length := by
    have := congrArg List.length hrest
    simp at this; omega
  have hxk : xs[k0] = [45] := by
    have e := List.drop_eq_getElem_cons hk1
    rw [e] at hrest
    exact (List.cons.inj hrest).1.symm
  have c1 : w1.cell? ⟨b, o + k0, none⟩ = some (.string ⟨#[45]⟩) := by rw [HCell.out _ _ _ hg1 k0 hk1, hxk]
  have HRL := RLoop.one hg1 hn1 hT1
  have HRL1 : Hid _ := HRL
  have HM0 : Hid (manyL [45] ([45] :: r) = match manyL [45] (xs.drop k0) with | none => none | some (es', r') => some ([] ++ es', r')) := by
    show _ = _
    rw [← hrest]
    cases manyL [45] ([45] :: r) with
    | none => rfl
    | some q => rfl
  have HXK : Hid (xs[k0] = [45]) := hxk
  clear HRL hg1 hT1 hrest hxk
  unfold intV at HRL1
  obtain ⟨n, hnx⟩ : ∃ n, xs.length = n := ⟨_, rfl⟩
  have HNX : Hid (xs.length = n) := hnx
  have hk1n : k0 < n := by omega
  rw [hnx] at hc hi hf hl hN hk0 ⊢
  clear hnx
  go_wp2
  have hq0 : decide ((top : Int) < 0) = false := decide_eq_false (by omega)
  have hq1 : decide (n ≤ k0) = false := decide_eq_false (by omega)
  simp only [hq0, hq1, Bool.or_self]
  go_loopw [9, 11] (fun s9 s11 wr => ∃ (k G cap pl : Nat) (ps : List Nat) (es : List Exp) (nb' : Option Nat) (N' : List NV), s9 = .int .i64 (k : Int) ∧ s11 = .slice (some ⟨G, 0, none⟩) pl cap ∧ k ≤ n ∧ k0 ≤ k ∧ pl ≤ k + 1 ∧ es.length < pl ∧ pl ≤ es.length + 1 ∧ Hid (pl = ps.length) ∧ i + N'.length + es.length ≤ k ∧ (1 ≤ es.length ∨ k = k0) ∧ Hid (RLoop P nb N w wr i k nb' N' G cap ps (x :: es)) ∧ Hid (manyL [45] ([45] :: r) = match manyL [45] (xs.drop k) with | none => none | some (es', r') => some (es ++ es', r'))) (fun s9 _ _ => n - (intOf s9).toNat)
  case atStart =>
    refine ⟨k0, w1.heap.size, 1, 1, [top], [], nb1, N1, rfl, rfl, hk0, Nat.le_refl _, by omega, by simp, by simp, rfl, by simpa using hn1, .inr rfl, ?_, HM0.out⟩
    exact HRL1.out
  case round =>
    obtain ⟨k, G, cap, pl, ps, es, nb', N', rfl, rfl, hkn, hkk, hpl, hple, hple2, HPL, hcnt, hone, HRL, HM⟩ := hrel
    have hnx := HNX.out
    have exitT : Hid (k = n ∨ (∃ h : k < xs.length, xs[k] ≠ [45])) → Hid (1 ≤ es.length ∧ exprL (xs.drop i) = if 5 = 5 ∧ es.length ≠ 1 then none else some (.join 5 (x :: es), xs.drop k)) := fun hx => by
      have hone' : 1 ≤ es.length := by
        rcases hone with h1 | h1
        · exact h1
        · rcases hx.out with h2 | ⟨h2, h3⟩
          · omega
          · subst h1; exact absurd HXK.out h3
      refine ⟨hone', ?_⟩
      have hm : manyL [45] (xs.drop k) = some ([], xs.drop k) := by
        rcases hx.out with h2 | ⟨h2, h3⟩
        · rw [h2, ← hnx, List.drop_length, manyL_nil]
        · rw [List.drop_eq_getElem_cons h2, manyL_other _ _ _ h3]
      rw [HTL.out, HM.out, hm]
      simp
    have HEx : Hid _ := exitT
    clear exitT
    have hNd : N.length + N'.length ≤ 1000000 := by omega
    obtain ⟨m, hm⟩ : ∃ m, (N ++ N').length = m := ⟨_, rfl⟩
    have HNode : Hid (∀ w2, w2 = wr → Calls Tryd.prog 63 #[.pointer (some ⟨P, 0, none⟩), .agg #[.int .u8 (((⟨#[45]⟩ : ByteArray)[0]'(by decide)).toNat : Int), .string ⟨#[]⟩, .string ⟨#[]⟩, .slice (some ⟨G, 0, none⟩) pl cap]] w2 fun e w' => e = .returned (.int .i64 (m : Nat)) ∧ ∃ nb'', NGrow P nb' (N ++ N') w2 w' nb'' [⟨sgn 5, [], [], some ⟨G, 0, none⟩, pl, cap⟩]) := fun w2 hw2 => by
      subst hw2
      have e : (((⟨#[45]⟩ : ByteArray)[0]'(by decide)).toNat : Int) = sgn 5 := by decide
      rw [e, ← hm]
      exact node_grow P nb' (N ++ N') ⟨sgn 5, [], [], some ⟨G, 0, none⟩, pl, cap⟩ _ HRL.out.grow.rep (by simp; omega)
    have HFin : Hid (∀ w' nb'', (5 = 3 ∨ 5 = 4 ∨ (5 = 5 ∧ es.length = 1)) → 1 ≤ es.length → exprL (xs.drop i) = some (.join 5 (x :: es), xs.drop k) → NGrow P nb' (N ++ N') wr w' nb'' [⟨sgn 5, [], [], some ⟨G, 0, none⟩, pl, cap⟩] → R (.returned (.tuple #[.int .i64 (m : Nat), .int .i64 ((k : Nat) : Int)])) w') := fun w' nb'' hkk3 h1 h2 hg => by
      rw [HPL.out] at hg
      rw [← hm]
      obtain ⟨a1, a2⟩ := HRL.out.join (kk := 5) (orTo hkk3 (fun h => orTo h (fun h => ⟨h.1, by simp; omega⟩))) hg
      exact HSome.out w' _ k nb'' _ _ h2 (by omega) (by omega) a1 (by simp; omega) a2
    clear hm
    by_cases hklt : k < n
    · have hkx : k < xs.length := by omega
      have c2 := HCell.out _ _ _ HRL.out.grow k hkx
      by_cases hq : xs[k] = [45]
      · rw [hq] at c2
        have hY := hT P nb' (N ++ N') (.slice (some ⟨b, o, none⟩) n c) xs (k + 1) wr HRL.out.grow.rep (by have := HWd.out _ _ _ HRL.out.grow; rw [hnx] at this; exact this) (by omega) (by omega) (by omega) (by simp; omega) HZ.out
        have e1 : (((k + 1 : Nat) : Int)) = (k : Int) + 1 := by omega
        rw [e1] at hY
        clear e1
        have hdk := List.drop_eq_getElem_cons hkx
        rw [hq] at hdk
        cases het : termL (xs.drop (k + 1)) with
        | none =>
          rw [het] at hY
          have hY2 : Calls Tryd.prog 62 #[.pointer (some ⟨P, 0, none⟩), .slice (some ⟨b, o, none⟩) n c, .int .i64 ((k : Int) + 1)] wr fun e w' => (∃ k : Int, e = .returned (.tuple #[.int .i64 (-1), .int .i64 k])) ∧ ButM (P :: nb'.toList) wr w' := hY
          have HNo : Hid (exprL (xs.drop i) = none) := by
            show _ = _
            rw [HTL.out, HM.out, hdk, manyL_none _ _ het]
          have HGr : Hid (NGrow P nb N w wr nb' N') := HRL.out.grow
          clear hY hq hdk het HM HTL HEx HNode HFin HRL
          go_wp2_with (go_at_call 62; refine hY2.mono ?_; rintro e w' ⟨⟨kz, rfl⟩, hbm⟩)
          try go_ret2
          exact HNone.out _ _ HNo.out ⟨_, rfl⟩ (HGr.out.thenBut ⟨hbm.os, hbm.tape, hbm.output, hbm.size, hbm.block⟩)
        | some q =>
          obtain ⟨y, r2⟩ := q
          rw [het] at hY
          have hY2 : Calls Tryd.prog 62 #[.pointer (some ⟨P, 0, none⟩), .slice (some ⟨b, o, none⟩) n c, .int .i64 ((k : Int) + 1)] wr fun e w' => ∃ top k2 nb'' N'', e = .returned (.tuple #[.int .i64 ((top : Nat) : Int), .int .i64 ((k2 : Nat) : Int)]) ∧ k2 ≤ xs.length ∧ k + 1 < k2 ∧ r2 = xs.drop k2 ∧ NGrow P nb' (N ++ N') wr w' nb'' N'' ∧ k + 1 + N''.length ≤ k2 ∧ Tree (fun g => wr.heap.size ≤ g ∧ g < w'.heap.size ∧ g ∉ P :: nb''.toList) w' (N ++ N' ++ N'') y top := hY
          have HM2 : Hid (manyL [45] ([45] :: r) = match manyL [45] r2 with | none => none | some (es', r') => some ((es ++ [y]) ++ es', r')) := by
            show _ = _
            rw [HM.out, hdk, manyL_some _ _ het]
            cases manyL [45] r2 with
            | none => rfl
            | some q => simp
          clear hY hq hdk het HM HTL HEx HNode HFin
          go_wp2_with fail
          refine hY2.mono ?_
          clear hY2
          rintro e w2 ⟨top2, k2, nb2, N2, rfl, hk2, hkk2, hr2, hg2, hn2, hT2⟩
          have hGl := HRL.out.row.lt G rfl
          have hs2 := hg2.but.size
          have hown2 : (w2.alloc (.cells #[.int .i64 (top2 : Int)] 3)).ownsRow w.heap.size 3 1 (.slice (some ⟨G, 0, none⟩) pl cap) pl (ps.map intV) := by
            have h0 := HRL.out.row
            rw [← HPL.out] at h0
            exact World.ownsRow.alloc (owns_same h0 (fun g hg => by cases hg; exact hg2.but.block G hGl.2 HRL.out.gm)) _
          have HG2 : Hid _ := hg2
          have HT2 : Hid _ := hT2
          have HR2 : Hid (r2 = xs.drop k2) := hr2
          clear hg2 hT2 hr2
          go_wp2_with (at_builtin; refine wpList_append_lies _ rfl _ _ 60 rfl w.heap.size 3 i0 _ 1 8 Tryd.underlying60 hi0 hz0 hz1 hz2 rfl (by decide) _ _ _ rfl hown2 ⟨w2.heap.size, 0, none⟩ 1 1 [.int .i64 (top2 : Int)] rfl rfl ?_ (fun x hx => by simp at hx; subst hx; rfl) (by decide) (by unfold maxLen; omega) (by omega) (by simp; omega) (w2.heap.size + 1) (by simp) ?_; (exact World.news_of_block (cs := #[.int .i64 (top2 : Int)]) (t := 3) (fr := (0, 0)) (heap_alloc_new w2 _)); intro g3 cap3 w3 hown3 hgrow3 hat3 hlt3)
          go_roundw
          case rel =>
            have hst := HRL.out.step HG2.out hn2 HT2.out (G' := g3) (cap' := cap3) (w3 := w3) (by rw [← HPL.out]; exact hown3) ((ButM.of_below ((Below.refl _ _).alloc (Nat.le_refl _) _)).trans (ButM.of_grown hgrow3)) (by
              rcases hat3 with e | e
              · left; cases e; rfl
              · right; omega)
            have hcn := hst.cnt
            simp only [List.length_cons, List.length_append, List.length_nil] at hcn
            refine ⟨k2, g3, cap3, pl + 1, ps ++ [top2], es ++ [y], nb2, N' ++ N2, rfl, rfl, by omega, by omega, by omega, by simp; omega, by simp; omega, by show _ = _; rw [HPL.out]; simp, by simp; omega, .inl (by simp), hst, ?_⟩
            rw [← HR2.out]
            exact HM2.out
          case measure => simp [intOf]; omega
      · have hqb : ((⟨xs[k].toArray⟩ : ByteArray).toList == [45]) = false := by rw [ByteArray.toList_eq, beq_eq_false_iff_ne]; exact hq
        obtain ⟨ho1, HEE⟩ := (HEx.out (.inr ⟨hkx, hq⟩)).out
        have HE2 : Hid _ := HEE
        have HGr : Hid (ButM (P :: nb.toList) w wr) := HRL.out.grow.but
        clear HEE hq HM HTL HEx HRL
        generalize (⟨xs[k].toArray⟩ : ByteArray) = X at *
        by_cases hp2 : 2 < pl
        · have HE3 : Hid (exprL (xs.drop i) = none) := by show _ = _; rw [HE2.out, if_pos ⟨rfl, by omega⟩]
          go_wp2
          try go_ret2
          exact HNone.out _ _ HE3.out ⟨_, rfl⟩ ⟨HGr.out.os, HGr.out.tape, HGr.out.output, HGr.out.size, HGr.out.block⟩
        · have HL1 : Hid (es.length = 1) := by show _ = _; omega
          have HE3 : Hid (exprL (xs.drop i) = some (.join 5 (x :: es), xs.drop k)) := by show _ = _; rw [HE2.out, if_neg (by omega)]
          have hNo := HNode.out _ rfl
          go_wp2_with (go_at_call 63; refine hNo.mono ?_; rintro e w' ⟨rfl, nb'', hg⟩)
          try go_ret2
          exact HFin.out _ _ (.inr (.inr ⟨by simp, HL1.out⟩)) ho1 HE3.out hg
    · obtain rfl : k = n := by omega
      obtain ⟨ho1, HEE⟩ := (HEx.out (.inl rfl)).out
      have HE2 : Hid _ := HEE
      have HGr : Hid (ButM (P :: nb.toList) w wr) := HRL.out.grow.but
      clear HEE HM HTL HEx HRL
      by_cases hp2 : 2 < pl
      · have HE3 : Hid (exprL (xs.drop i) = none) := by show _ = _; rw [HE2.out, if_pos ⟨rfl, by omega⟩]
        go_wp2
        try go_ret2
        exact HNone.out _ _ HE3.out ⟨_, rfl⟩ ⟨HGr.out.os, HGr.out.tape, HGr.out.output, HGr.out.size, HGr.out.block⟩
      · have HL1 : Hid (es.length = 1) := by show _ = _; omega
        have HE3 : Hid (exprL (xs.drop i) = some (.join 5 (x :: es), xs.drop k)) := by show _ = _; rw [HE2.out, if_neg (by omega)]
        have hNo := HNode.out _ rfl
        go_wp2_with (go_at_call 63; refine hNo.mono ?_; rintro e w' ⟨rfl, nb'', hg⟩)
        try go_ret2
        exact HFin.out _ _ (.inr (.inr ⟨by simp, HL1.out⟩)) ho1 HE3.out hg
end Go.Proofs.YtlgodpadcilcaaaDoor
namespace Go.Proofs.YtlgodpadcilcaaaDoor
open Go.ChangeShapes Go.WideShapes Go.ChangeAt Go.RowKit

set_option maxRecDepth 100000 in
set_option maxHeartbeats 8000000 in
theorem rexpr_none (f : Nat) (hT : RTermOK f) (P : Nat) (nb : Option Nat) (N : List NV) (v : Value) (xs : List (List UInt8)) (i : Nat) (w : World) (h : NRep w P nb N) (hW : WordsR w (P :: nb.toList) v xs) (hi : i ≤ xs.length) (hf : xs.length - i ≤ f) (hl : xs.length ≤ 1000000) (hN : N.length + xs.length - i ≤ 1000000) (hz : ∀ x ∈ xs, x.length ≤ 1000000)
    (he : termL (xs.drop i) = none) :
    Calls Tryd.prog 39 #[.pointer (some ⟨P, 0, none⟩), v, .int .i64 (i : Int)] w (RAns P nb N w xs i (exprL (xs.drop i))) := by
  have hX := hT P nb N v xs i w h hW hi hf hl hN hz
  have hTL := exprL_eq (xs.drop i)
  rw [he] at hX hTL
  rw [hTL]
  obtain ⟨b, o, c, rfl, hc, hb, hbM, hcell⟩ := hW
  have hX2 : Calls Tryd.prog 62 #[.pointer (some ⟨P, 0, none⟩), .slice (some ⟨b, o, none⟩) xs.length c, .int .i64 (i : Int)] w fun e w' => (∃ k : Int, e = .returned (.tuple #[.int .i64 (-1), .int .i64 k])) ∧ ButM (P :: nb.toList) w w' := hX
  show Calls Tryd.prog 39 _ w fun e w' => (∃ k : Int, e = .returned (.tuple #[.int .i64 (-1), .int .i64 k])) ∧ ButM (P :: nb.toList) w w'
  clear hX hcell hTL he hbM h hz
  generalize xs.length = n at *
  go_enter Tryd.func39, Tryd.ntmps39
  go_wp2_with (go_at_call 62; refine hX2.mono ?_; rintro e w' ⟨⟨k, rfl⟩, hbm⟩)
  try go_ret2
  exact ⟨⟨_, rfl⟩, ⟨hbm.os, hbm.tape, hbm.output, hbm.size, hbm.block⟩⟩

set_option maxRecDepth 100000 in
set_option maxHeartbeats 8000000 in
theorem rexpr_one (f : Nat) (hT : RTermOK f) (P : Nat) (nb : Option Nat) (N : List NV) (v : Value) (xs : List (List UInt8)) (i : Nat) (w : World) (h : NRep w P nb N) (hW : WordsR w (P :: nb.toList) v xs) (hi : i ≤ xs.length) (hf : xs.length - i ≤ f) (hl : xs.length ≤ 1000000) (hN : N.length + xs.length - i ≤ 1000000) (hz : ∀ x ∈ xs, x.length ≤ 1000000)
    (x : Exp) (r : List (List UInt8)) (he : termL (xs.drop i) = some (x, r)) (hr : ∀ m r', r = m :: r' → m ≠ [124] ∧ m ≠ [38] ∧ m ≠ [45]) :
    Calls Tryd.prog 39 #[.pointer (some ⟨P, 0, none⟩), v, .int .i64 (i : Int)] w (RAns P nb N w xs i (exprL (xs.drop i))) := by
  have hX := hT P nb N v xs i w h hW hi hf hl hN hz
  have hTL : exprL (xs.drop i) = some (x, r) := by
    rw [exprL_eq, he]
    cases r with
    | nil => rfl
    | cons m r' =>
      obtain ⟨h1, h2, h3⟩ := hr m r' rfl
      have hm : markL m = none := by unfold markL; rw [if_neg h1, if_neg h2, if_neg h3]
      simp only [hm]
  rw [he] at hX
  rw [hTL]
  obtain ⟨b, o, c, rfl, hc, hb, hbM, hcell⟩ := hW
  have hX2 : Calls Tryd.prog 62 #[.pointer (some ⟨P, 0, none⟩), .slice (some ⟨b, o, none⟩) xs.length c, .int .i64 (i : Int)] w fun e w' => ∃ top k nb' N', e = .returned (.tuple #[.int .i64 ((top : Nat) : Int), .int .i64 ((k : Nat) : Int)]) ∧ k ≤ xs.length ∧ i < k ∧ r = xs.drop k ∧ NGrow P nb N w w' nb' N' ∧ i + N'.length ≤ k ∧ Tree (fun g => w.heap.size ≤ g ∧ g < w'.heap.size ∧ g ∉ P :: nb'.toList) w' (N ++ N') x top := hX
  have HCell : Hid (∀ nb' N' wr, NGrow P nb N w wr nb' N' → ∀ j (h : j < xs.length), wr.cell? ⟨b, o + j, none⟩ = some (.string ⟨xs[j].toArray⟩)) := fun nb' N' wr hg j hj => by
    rw [World.cell?_of_block (w := w) (a := ⟨b, o + j, none⟩) (hg.but.block b hb hbM)]; exact hcell j hj
  have HR : Hid _ := hr
  have HA : Hid (∀ e w', (∃ top k nb' N', e = .returned (.tuple #[.int .i64 ((top : Nat) : Int), .int .i64 ((k : Nat) : Int)]) ∧ k ≤ xs.length ∧ i < k ∧ r = xs.drop k ∧ NGrow P nb N w w' nb' N' ∧ i + N'.length ≤ k ∧ Tree (fun g => w.heap.size ≤ g ∧ g < w'.heap.size ∧ g ∉ P :: nb'.toList) w' (N ++ N') x top) → RAns P nb N w xs i (some (x, r)) e w') := fun e w' hh => hh
  generalize RAns P nb N w xs i (some (x, r)) = R at *
  clear hX hcell hTL he hbM h hz hr
  go_enter Tryd.func39, Tryd.ntmps39
  go_wp2_with fail
  refine hX2.mono ?_
  clear hX2
  rintro e w' ⟨top, k, nb', N', rfl, hk, hik, hrest, hg, hn, hTr⟩
  have hFin := HA.out _ w' ⟨top, k, nb', N', rfl, hk, hik, hrest, hg, hn, hTr⟩
  have HFin : Hid _ := hFin
  clear hFin
  by_cases hkl : k < xs.length
  · have c1 := HCell.out _ _ _ hg k hkl
    obtain ⟨h1, h2, h3⟩ := HR.out xs[k] (xs.drop (k + 1)) (by rw [hrest]; exact List.drop_eq_getElem_cons hkl)
    have q1 : ((⟨xs[k].toArray⟩ : ByteArray).toList == [124]) = false := by rw [ByteArray.toList_eq, beq_eq_false_iff_ne]; exact h1
    have q2 : ((⟨xs[k].toArray⟩ : ByteArray).toList == [38]) = false := by rw [ByteArray.toList_eq, beq_eq_false_iff_ne]; exact h2
    have q3 : ((⟨xs[k].toArray⟩ : ByteArray).toList == [45]) = false := by rw [ByteArray.toList_eq, beq_eq_false_iff_ne]; exact h3
    clear h1 h2 h3 HCell HR HA hrest hg hn hTr
    generalize (⟨xs[k].toArray⟩ : ByteArray) = X at *
    generalize xs.length = n at *
    go_wp2
    try go_ret2
    exact HFin.out
  · clear HCell HR HA hrest hg hn hTr
    generalize xs.length = n at *
    go_wp2
    try go_ret2
    exact HFin.out

theorem rexpr_any (f : Nat) (hT : RTermOK f) : RExprOK f := by
  intro P nb N v xs i w h hW hi hf hl hN hz
  cases he : termL (xs.drop i) with
  | none => exact rexpr_none f hT P nb N v xs i w h hW hi hf hl hN hz he
  | some q =>
    obtain ⟨x, r⟩ := q
    by_cases h1 : ∃ r', r = [124] :: r'
    · obtain ⟨r', rfl⟩ := h1
      exact rexpr_or f hT P nb N v xs i w h hW hi hf hl hN hz x r' he
    · by_cases h2 : ∃ r', r = [38] :: r'
      · obtain ⟨r', rfl⟩ := h2
        exact rexpr_and f hT P nb N v xs i w h hW hi hf hl hN hz x r' he
      · by_cases h3 : ∃ r', r = [45] :: r'
        · obtain ⟨r', rfl⟩ := h3
          exact rexpr_less f hT P nb N v xs i w h hW hi hf hl hN hz x r' he
        · exact rexpr_one f hT P nb N v xs i w h hW hi hf hl hN hz x r he (fun m r' e => ⟨fun e2 => h1 ⟨r', by rw [e, e2]⟩, fun e2 => h2 ⟨r', by rw [e, e2]⟩, fun e2 => h3 ⟨r', by rw [e, e2]⟩⟩)
theorem rterm_all : ∀ f, RTermOK f
  | 0 => rterm_zero
  | f + 1 => rterm_any f (rexpr_any f (rterm_all f))
theorem rexpr_all (f : Nat) : RExprOK f := rexpr_any f (rterm_all f)
end Go.Proofs.YtlgodpadcilcaaaDoor
