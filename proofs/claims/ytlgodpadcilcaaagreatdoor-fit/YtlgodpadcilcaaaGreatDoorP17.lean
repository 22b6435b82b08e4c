import Derived.Test.YtlgodpadcilcaaaGreatDoorP10
namespace Go.Proofs.YtlgodpadcilcaaaGreatDoor
open Go.ChangeShapes Go.WideShapes Go.ChangeAt Go.RowKit

theorem infoRR_rel : (Tryz.prog.info? 69).map (fun i => (i.zero, i.size, i.bytes)) = some (some (.agg #[.int .i64 0, .string ⟨#[]⟩, .bool false, .int .i64 0, .int .i64 0]), 5, 48) := by kernel_rfl

set_option maxRecDepth 100000 in
set_option maxHeartbeats 16000000 in
/-- a relation's line that is one -/
theorem rline_rel (P : Nat) (tb rb nb : Option Nat) (N : List NV) (rs : List RR) (st : List Ty) (num : Nat) (s : ByteArray) (w : World) (h : PlanRep w P tb rb nb N rs st) (hok : StOk st) (hs : s.size ≤ 100000) (hN : N.length + s.size ≤ 900000) (hq : ¬ (s.data.toList = [] ∨ s.data.toList.take 2 = [47, 47])) (n : List UInt8) (ex : List (List UInt8)) (hsp : splitL 32 s.data.toList = [114, 101, 108] :: n :: ex)
    (hn : nameL n = true) (x : Exp) (hwh : wholeL ex = some x) (ty : Ty) (hty : st.getLast? = some ty) :
    Calls Tryz.prog 20 #[.pointer (some ⟨P, 0, none⟩), .string s, .int .i64 (num : Int)] w (RLAns w P tb rb nb N (s.size + 1) (lineS st num s.data.toList)) := by
  obtain ⟨i0, hi, hz0, hz1, hz2⟩ := info_parts infoRR_rel
  have hL : lineS st num s.data.toList = if n ∈ ty.rels.map (·.nm) then (3, st) else if ty.rels.length = 6 then (1, st) else (0, st.dropLast ++ [⟨ty.nm, ty.rels ++ [⟨ty.nm, n, false, x, num⟩]⟩]) := by
    rw [lineS_words hq hsp]
    show relS st num false (n :: ex) = _
    unfold relS
    simp only [hty, hn, hwh]
    rw [if_neg (by simp)]
  obtain ⟨q1, q2⟩ := blank_size hq
  have hX2 := pieces_two s w (by omega) _ n ex hsp
  have hz : ∀ y ∈ [114, 101, 108] :: n :: ex, y.length ≤ 1000000 := fun y hy => by
    have := splitL_mlen 32 s.data.toList y (by rw [hsp]; exact hy)
    rw [size_list] at this; omega
  have hcnt : ex.length + 2 ≤ s.size + 1 := by
    have := splitL_count 32 s.data.toList
    rw [hsp, size_list] at this
    simpa using this
  have hsz : 2 ≤ s.size := by
    have := splitL_mlen 32 s.data.toList [114, 101, 108] (by rw [hsp]; simp)
    rw [size_list] at this
    simp at this; omega
  have hNm : ∀ u, Calls Tryz.prog 51 #[.string ⟨n.toArray⟩] u fun e w' => e = .returned (.bool true) ∧ w' = u := fun u => by
    have := rname_any ⟨n.toArray⟩ u (by show n.toArray.size ≤ _; simpa using hz n (by simp))
    rw [show (⟨n.toArray⟩ : ByteArray).data.toList = n from rfl, hn] at this
    exact this
  obtain ⟨hst0, hlast⟩ := last_at hty
  have hfew := hok.few
  have hrs : rs.length ≤ 36 := by
    rw [h.len]
    exact relsOf_len hok
  have HEx : Hid (∀ w1 g cap, Below w.heap.size w w1 → w.heap.size ≤ g → g < w1.heap.size → ex.length + 2 ≤ cap → (∀ i (h : i < ([114, 101, 108] :: n :: ex).length), w1.cell? ⟨g, i, none⟩ = some (strV ([114, 101, 108] :: n :: ex)[i])) →
      Calls Tryz.prog 52 #[.pointer (some ⟨P, 0, none⟩), .slice (some ⟨g, 0, none⟩) (ex.length + 2) cap, .int .i64 2] w1 fun e w2 => ∃ top nb' N', e = .returned (.tuple #[.int .i64 ((top : Nat) : Int), .int .i64 ((ex.length : Int) + 2)]) ∧ Hid (NGrow P nb N w1 w2 nb' N') ∧ Hid (N'.length ≤ s.size + 1) ∧ Hid (Tree (fun g => w1.heap.size ≤ g ∧ g < w2.heap.size ∧ g ∉ P :: nb'.toList) w2 (N ++ N') x top) ∧ w2.cell? ⟨g, 0, none⟩ = some (.string ⟨#[114, 101, 108]⟩) ∧ w2.cell? ⟨g, 1, none⟩ = some (.string ⟨n.toArray⟩) ∧ g < w2.heap.size ∧ Hid (g ∉ planM P tb rb nb')) := fun w1 g cap hB h1 h2 h3 h4 => by
    obtain ⟨hr, hW⟩ := words_line h hB h1 h2 (xs := [114, 101, 108] :: n :: ex) h3 h4
    have hE := rexpr_all (ex.length + 2) P nb N _ ([114, 101, 108] :: n :: ex) 2 w1 hr hW (by simp) (by simp) (by simp; omega) (by simp; omega) hz
    have e2 : ((2 : Nat) : Int) = 2 := rfl
    rw [e2] at hE
    refine hE.mono ?_
    intro e w' hA
    have ed : ([114, 101, 108] :: n :: ex).drop 2 = ex := rfl
    rw [ed] at hA
    have hex : exprL ex = some (x, []) := by
      unfold wholeL at hwh
      split at hwh
      · rename_i y hy; cases hwh; exact hy
      · cases hwh
    rw [hex] at hA
    obtain ⟨top, k, nb', N', e1, hk, hik, hrest, hg, hn2, hT⟩ := hA
    have hkl : k = ex.length + 2 := by
      have h0 := congrArg List.length hrest
      simp at h0 hk
      omega
    have hgm : g ∉ P :: nb.toList := fun hm => by
      rcases List.mem_cons.1 hm with e | hm
      · have := h.lt P planM_P; omega
      · have := h.lt g (planM_n (by simpa using hm)); omega
    have hgb := hg.but.block g h2 hgm
    have hgs := hg.but.size
    refine ⟨top, nb', N', by rw [e1, hkl]; simp, hg, ?_, hT, ?_, ?_, by omega, fun hm => ?_⟩
    · show _ ≤ _; omega
    · rw [World.cell?_of_block (w := w1) (a := ⟨g, 0, none⟩) hgb]; exact h4 0 (by simp)
    · rw [World.cell?_of_block (w := w1) (a := ⟨g, 1, none⟩) hgb]; exact h4 1 (by simp)
    · rcases ((h.below hB).grow hg).2.1 g hm with e | e
      · have := h.lt g e; omega
      · omega
  obtain ⟨R, hR⟩ : ∃ R : Ending → World → Prop, R = RLAns w P tb rb nb N (s.size + 1) (lineS st num s.data.toList) := ⟨_, rfl⟩
  rw [← hR]
  have HR : Hid (R = RLAns w P tb rb nb N (s.size + 1) (if n ∈ ty.rels.map (·.nm) then (3, st) else if ty.rels.length = 6 then (1, st) else (0, st.dropLast ++ [⟨ty.nm, ty.rels ++ [⟨ty.nm, n, false, x, num⟩]⟩]))) := by
    show _ = _; rw [hR, hL]
  have HPR : Hid _ := h
  have HOK : Hid _ := hok
  have HTY : Hid _ := hty
  have HLA : Hid _ := hlast
  clear hR hL hq hsp hn hz h hwh hok hty hlast
  generalize hXX : (⟨n.toArray⟩ : ByteArray) = X at *
  have HX : Hid ((⟨n.toArray⟩ : ByteArray) = X) := hXX
  clear hXX
  obtain ⟨m, hm⟩ : ∃ m, ex.length = m := ⟨_, rfl⟩
  rw [hm] at hX2 hcnt HEx
  clear hm
  go_enter Tryz.func20, Tryz.ntmps20
  go_wp2_with fail
  refine hX2.mono ?_
  clear hX2
  rintro e w1 ⟨g, cap, rfl, hc1, hc2, hc3, hc4, hc5, hc6, hc7⟩
  have hE := HEx.out w1 g cap hc7.out hc2 hc3 hc1 hc6.out
  clear HEx hc6
  go_wp2_with (go_at_call 51; refine (hNm _).mono ?_; rintro e w' ⟨rfl, hw⟩; subst w')
  refine hE.mono ?_
  clear hE
  rintro e w2 ⟨top, nb', N', rfl, HG, HNl, HT, d0, d1, dg, HgM⟩
  obtain ⟨hp2, hsub2, hbut2⟩ := (HPR.out.below hc7.out).grow HG.out
  have HP2 : Hid _ := hp2
  obtain ⟨vt, t1, t2, t3⟩ := hp2.types
  obtain ⟨ta, tc, rfl⟩ : ∃ a c, vt = .slice a st.length c := by
    rcases t2.2 with ⟨e, h0⟩ | ⟨g, cap', cur, e, _⟩
    · simp only [List.length_map] at h0
      omega
    · exact ⟨some ⟨g, 0, none⟩, cap', by rw [e]; simp⟩
  obtain ⟨vr, r1, r2, r3⟩ := hp2.rels
  have hRel := rRel_any P vr rs ((st.length : Int) - 1) X w2 r1 r2 (by omega)
  have hfz := hp2.frz 1
  have hPw : P < w2.heap.size := hp2.lt P planM_P
  have hvP : vr.ownBlock ≠ some P := fun e => (planM_apart hp2.nodup).2.1 P (by rw [← r3]; exact e) |>.1 rfl
  have hcell : ∀ G cap, vr = .slice (some ⟨G, 0, none⟩) rs.length cap → ∀ j (hj : j < rs.length), w2.cell? ⟨G, j * 5, none⟩ = some (.int .i64 (rs[j].ty : Int)) := fun G cap hv j hj => by
    rw [hv] at r2
    have := RowRR.cell r2 j hj 0 (by decide); rw [Nat.add_zero] at this; rw [this]; rfl
  obtain ⟨ra, rc, rfl, hform⟩ : ∃ a c, vr = .slice a rs.length c ∧ ∀ q, a = some q → ∃ g, q = ⟨g, 0, none⟩ := by
    rcases r2.2 with ⟨e, h0⟩ | ⟨g, cap', cur, e, _⟩
    · rw [h0]; exact ⟨_, _, e, fun q hq => by cases hq⟩
    · exact ⟨_, _, e, fun q hq => by cases hq; exact ⟨g, rfl⟩⟩
  have hnil : ra = none → rs.length = 0 := fun e => by
    rcases r2.2 with ⟨_, h0⟩ | ⟨g, cap', cur, e2, _⟩
    · exact h0
    · rw [e] at e2; cases e2
  obtain ⟨fi, hfi⟩ : ∃ fi, firstI (relAt ((st.length : Int) - 1) X.data.toList) rs = fi := ⟨_, rfl⟩
  rw [hfi] at hRel
  have hXn : X.data.toList = n := by rw [← HX.out]
  have HF1 : Hid (n ∈ ty.rels.map (·.nm) → ∃ k : Nat, fi = (k : Int)) := fun hm => by rw [← hfi, hXn]; exact firstI_ex ((found_last hp2 HOK.out HTY.out n).2 hm)
  have HF2 : Hid (n ∉ ty.rels.map (·.nm) → fi = -1) := fun hm => by rw [← hfi, hXn]; exact firstI_nex (fun hx => hm ((found_last hp2 HOK.out HTY.out n).1 hx))
  have HCn : Hid (rs.countP (fun x => ((x.ty : Int) == (st.length : Int) - 1)) = ty.rels.length) := count_last hp2 HOK.out HTY.out
  have HC : Hid _ := hcell
  have HR2 : Hid _ := r2
  have HR3 : Hid _ := r3
  have HB1 : Hid _ := hc7.out
  have HBM : Hid (ButM (planM P tb rb nb) w w2) := line_but HB1.out HG.out.but
  obtain ⟨nr, hnr⟩ : ∃ nr, rs.length = nr := ⟨_, rfl⟩
  have HNR : Hid (rs.length = nr) := hnr
  rw [hnr] at r1 hrs hnil
  clear hcell hp2 hsub2 hbut2 t2 t3 r2 r3 hfi hXn hc7
  clear hnr
  have hl6 : st.length ≤ 6 := hfew
  have hb1 : decide ((m : Int) + 2 < 2) = false := decide_eq_false (by omega)
  have hb2 : decide ((top : Int) < 0) = false := decide_eq_false (by omega)
  have hb3 : ((st.length : Int) == 0) = false := by rw [beq_eq_false_iff_ne]; omega
  have hst1 : ¬ ((st.length : Int) = 0) := by omega
  go_wp2_with (go_at_call 26; refine hRel.mono ?_; rintro e w' ⟨rfl, hw⟩; subst w')
  go_loop [14, 15] (fun c i => ∃ k cn : Nat, k ≤ nr ∧ i = .int .i64 (k : Int) ∧ c = .int .i64 (cn : Int) ∧ cn ≤ k ∧ Hid (cn = (rs.take k).countP (fun x => ((x.ty : Int) == (st.length : Int) - 1)))) (fun _ i => nr - (intOf i).toNat)
  case atStart => exact ⟨0, 0, Nat.zero_le _, rfl, rfl, Nat.le_refl _, by show _ = _; simp⟩
  case round =>
    obtain ⟨k, cn, hk, rfl, rfl, hcn, HCN⟩ := hrel
    by_cases hlt : k < nr
    · have hkx : k < rs.length := by have := HNR.out; omega
      obtain ⟨G, rfl⟩ : ∃ g, ra = some ⟨g, 0, none⟩ := by
        cases ra with
        | none => have := hnil rfl; omega
        | some a => obtain ⟨g, rfl⟩ := hform a rfl; exact ⟨g, rfl⟩
      have c1 := HC.out G rc rfl k hkx
      have HT2 : Hid (rs.take (k + 1) = rs.take k ++ [rs[k]]) := List.take_succ_eq_append_getElem hkx
      cases hq1 : ((rs[k].ty : Int) == (st.length : Int) - 1) with
      | true =>
        have HN2 : Hid (cn + 1 = (rs.take (k + 1)).countP (fun x => ((x.ty : Int) == (st.length : Int) - 1))) := by
          show _ = _; rw [HT2.out, List.countP_append, ← HCN.out]; simp [hq1]
        clear HT2 HCN
        generalize rs[k].ty = tt at *
        go_wp2
        go_round
        case rel => exact ⟨k + 1, cn + 1, by omega, by go_num, by go_num, by omega, HN2.out⟩
        case measure => simp [intOf]; omega
      | false =>
        have HN2 : Hid (cn = (rs.take (k + 1)).countP (fun x => ((x.ty : Int) == (st.length : Int) - 1))) := by
          show _ = _; rw [HT2.out, List.countP_append, ← HCN.out]; simp [hq1]
        clear HT2 HCN
        generalize rs[k].ty = tt at *
        go_wp2
        go_round
        case rel => exact ⟨k + 1, cn, by omega, by go_num, by go_num, by omega, HN2.out⟩
        case measure => simp [intOf]; omega
    · have hkk : k = nr := by omega
      have HK : Hid (cn = ty.rels.length) := by
        show _ = _
        rw [HCN.out, hkk, ← HNR.out, List.take_length, HCn.out]
      subst hkk
      by_cases hm : n ∈ ty.rels.map (·.nm)
      · obtain ⟨kf, rfl⟩ := HF1.out hm
        have HA : Hid (∀ w', ButM (planM P tb rb nb) w w' → R (.returned (.int .i64 3)) w') := fun w' hbq => by rw [HR.out, if_pos hm]; exact RLAns.bad (by decide) hbq
        clear HF1 HF2 hm HR HC HR2 HR3 HCN HK
        go_wp2
        try go_ret
        exact HA.out _ ⟨HBM.out.os, HBM.out.tape, HBM.out.output, HBM.out.size, HBM.out.block⟩
      · obtain rfl := HF2.out hm
        by_cases h6 : cn = 6
        · have HA : Hid (∀ w', ButM (planM P tb rb nb) w w' → R (.returned (.int .i64 1)) w') := fun w' hbq => by rw [HR.out, if_neg hm, if_pos (by rw [← HK.out]; exact h6)]; exact RLAns.bad (by decide) hbq
          subst h6
          clear HF1 HF2 hm HR HC HR2 HR3 HCN HK
          go_wp2
          try go_ret
          exact HA.out _ ⟨HBM.out.os, HBM.out.tape, HBM.out.output, HBM.out.size, HBM.out.block⟩
        · have HA : Hid (R = RLAns w P tb rb nb N (s.size + 1) (0, st.dropLast ++ [⟨ty.nm, ty.rels ++ [⟨ty.nm, n, false, x, num⟩]⟩])) := by
            show _ = _; rw [HR.out, if_neg hm, if_neg (by rw [← HK.out]; exact h6)]
          have h6' : ¬ ((cn : Int) = 6) := by omega
          clear HF1 HF2 hm HR HC HCN HK
          obtain ⟨C5, hC5⟩ : ∃ C5 : Array Value, C5 = #[.int .i64 ((st.length : Int) - 1), .string X, .bool false, .int .i64 (top : Int), .int .i64 (num : Int)] := ⟨_, rfl⟩
          have hr2 := HR2.out
          unfold RowRR at hr2
          rw [HNR.out] at hr2
          have hown1 : ((w2.alloc (.cells C5 69)).drew).ownsRow 0 69 5 (.slice ra k rc) k (rs.map RR.cells).flatten := hr2.alloc _
          have hnews : ∀ j u, C5.toList[j]? = some u → ((w2.alloc (.cells C5 69)).drew).cell? ((⟨w2.heap.size, 0, none⟩ : Addr).add j) = some u :=
            World.news_of_block (w := (w2.alloc (.cells C5 69)).drew) (cs := C5) (t := 69) (fr := (0, 0)) (heap_alloc_new w2 _)
          have hone : ∀ u ∈ C5.toList, u.oneCell' = true := fun u hu => by rw [hC5] at hu; simp at hu; rcases hu with rfl | rfl | rfl | rfl | rfl <;> rfl
          have HGP : Hid (∀ w3 : World, ((w2.alloc (.cells C5 69)).drew).grownBy w3 (Value.slice ra k rc).ownBlock → w3.heap[P]? = w2.heap[P]?) := fun w3 hg => by
            refine (hg.block P ?_ (fun e => hvP (by rw [HNR.out]; exact e.symm))).trans (Below.heap_alloc _ _ _ hPw)
            show P < (w2.alloc _).heap.size
            simp; omega
          have hC5x : C5.toList = (⟨st.length - 1, n, false, top, num⟩ : RR).cells := by
            rw [hC5]
            have e1 : ((st.length - 1 : Nat) : Int) = (st.length : Int) - 1 := by omega
            simp only [RR.cells, strV, HX.out, e1]
          have HCX : Hid _ := hC5x
          have HR3' : Hid ((Value.slice ra k rc).ownBlock = rb) := by show _ = _; rw [← HNR.out]; exact HR3.out
          have HFIN : Hid (∀ w3 g3 cap3, ((w2.alloc (.cells C5 69)).drew).grownBy w3 rb → g3 < w3.heap.size → w3.ownsRow 0 69 5 (.slice (some ⟨g3, 0, none⟩) (k + 1) cap3) (k + 1) ((rs.map RR.cells).flatten ++ C5.toList) → (rb = some g3 ∨ g3 = w2.heap.size + 1) → (w3.setCell ⟨P, 1, none⟩ (.slice (some ⟨g3, 0, none⟩) (k + 1) cap3)).cell? ⟨P, 1, none⟩ = some (.slice (some ⟨g3, 0, none⟩) (k + 1) cap3) → R (.returned (.int .i64 0)) (w3.setCell ⟨P, 1, none⟩ (.slice (some ⟨g3, 0, none⟩) (k + 1) cap3))) := fun w3 g3 cap3 h1 h2 h3 h4 h5 => by
            rw [HCX.out] at h3
            rw [HA.out]
            have hp1 := HPR.out.below HB1.out
            have hx : RelOK (fun g => g < w2.heap.size ∧ g ∉ planM P tb rb nb') w2 (N ++ N') st ⟨st.length - 1, n, false, top, num⟩ ⟨ty.nm, n, false, x, num⟩ := by
              refine ⟨HLA.out, rfl, rfl, rfl, Tree.keep (fun g hg => ⟨hg.2.1, fun hm => ?_⟩) (fun _ _ => rfl) (fun _ _ h => h) _ _ HT.out⟩
              rw [mem_planM] at hm
              rcases hm with e | e | e | e
              · exact hg.2.2 (by rw [e]; exact List.mem_cons_self ..)
              · have := hp1.lt g (planM_t e); omega
              · have := hp1.lt g (planM_r e); omega
              · exact hg.2.2 (List.mem_cons_of_mem _ (by simpa using e))
            have e := HNR.out
            subst e
            exact rrel_fin HB1.out hp1 HG.out HTY.out HNl.out hx h1 h2 h3 h4 h5
          clear hr2 HR2 hC5x
          subst hC5
          have hm1 : (1 : Int) < (m : Int) + 2 := by omega
          have hm0 : (0 : Int) < (m : Int) + 2 := by omega
          go_upto_region 34 with fail
          go_region_law (refine step_append_lies _ rfl (.tmp 155) (.tmp 167) 60 rfl 0 69 i0 _ 5 48 Tryz.underlying60 hi hz0 hz1 hz2 rfl (by decide) (.slice ra k rc) k (rs.map RR.cells).flatten (by simp [Act.eval]) hown1 ⟨w2.heap.size, 0, none⟩ 1 1 _ (by simp [Act.eval]) rfl hnews hone (by decide) (by unfold maxLen; omega) (by omega) (Nat.zero_le _) (w2.heap.size + 1) (by simp) ?_; intro g3 cap3 w3 hown2 hgrow2 hat2 hlt2; have hPc : w3.cell? ⟨P, 1, none⟩ = some (.slice ra k rc) := (World.cell?_of_block (w := w2) (a := ⟨P, 1, none⟩) (HGP.out w3 hgrow2)).trans r1; have hPf : w3.frozen? ⟨P, 1, none⟩ = false := (World.frozen?_of_block (w := w2) (a := ⟨P, 1, none⟩) (HGP.out w3 hgrow2)).trans hfz)
          all_goals have HSet : Hid ((w3.setCell ⟨P, 1, none⟩ (.slice (some ⟨g3, 0, none⟩) (k + 1) cap3)).cell? ⟨P, 1, none⟩ = some (.slice (some ⟨g3, 0, none⟩) (k + 1) cap3)) := World.cell?_setCell_same' _ _ _ (by rw [hPc]; rfl)
          all_goals rw [HR3'.out] at hgrow2 hat2
          all_goals go_wp2
          all_goals (try go_ret)
          all_goals exact HFIN.out _ _ _ hgrow2 hlt2 hown2 hat2 HSet.out
end Go.Proofs.YtlgodpadcilcaaaGreatDoor
