import Derived.Test.YtlgodpadcilcaaaGreatDoorP22
namespace Go.Proofs.YtlgodpadcilcaaaGreatDoor
open Go.ChangeShapes Go.WideShapes Go.ChangeAt Go.RowKit Go.Shelf

theorem owns_base {w : World} {B t sz n : Nat} {v : Value} {xs : List Value} (h : w.ownsRow B t sz v n xs) : w.ownsRow 0 t sz v n xs := by
  refine ⟨h.1, ?_⟩
  rcases h.2 with h0 | ⟨g, cap, cur, e, h4, h5⟩
  · exact .inl h0
  · exact .inr ⟨g, cap, cur, e, Nat.zero_le _, h5⟩
theorem owns_keep {w w' : World} {B t sz n : Nat} {v : Value} {xs : List Value} (h : w.ownsRow B t sz v n xs) (hb : ∀ g, v.ownBlock = some g → w'.heap[g]? = w.heap[g]?) : w'.ownsRow B t sz v n xs := by
  refine ⟨h.1, ?_⟩
  rcases h.2 with h0 | ⟨g, cap, cur, rfl, h4, h5, h6⟩
  · exact .inl h0
  · exact .inr ⟨g, cap, cur, rfl, h4, by rw [hb g rfl]; exact h5, h6⟩
theorem TabC.mat {w : World} {b : Nat} {c : Array Value} {X : Nat → Nat → Bool} (h : w.heap[b]? = some (.cells c 104)) (hT : TabC c X) : Mat w b X :=
  ⟨fun i j hi hj => by
    have e : w.cell? ⟨b, i * 36 + j, none⟩ = c[i * 36 + j]? := by simp [World.cell?, h]
    rw [e]; exact hT.2 i j hi hj, fun k => by simp [World.frozen?, h], c, h, hT.1⟩
theorem TabC.one {c : Array Value} {X : Nat → Nat → Bool} (h : TabC c X) : c.all (·.oneCell') = true := by
  rw [Array.all_eq_true]
  intro i hi
  obtain ⟨b, hb⟩ := h.bool c[i] (by simp)
  rw [hb]; rfl
theorem zero_there {w : World} {b : Nat} (h : w.heap[b]? = some (.cells Tryz.zeroCells104 104)) : w.there b 0 1296 := fun j hj => by
  have hs := zeroArr_size
  generalize Tryz.zeroCells104 = c at *
  rw [Nat.zero_add]
  have e : w.cell? ⟨b, j, none⟩ = c[j]? := by simp [World.cell?, h]
  exact ⟨by rw [e, Array.getElem?_eq_getElem (by omega)]; rfl, by simp [World.frozen?, h]⟩

theorem Mat.ofCells {w : World} {b : Nat} {c : Array Value} {X : Nat → Nat → Bool} (hT : TabC c X) (hb : ∃ c', w.heap[b]? = some (.cells c' 104) ∧ c'.size = 1296) (hr : w.rangeAt b 0 c.toList) : Mat w b X := by
  obtain ⟨c', h1, h2⟩ := hb
  refine ⟨fun i j hi hj => ?_, fun k => by simp [World.frozen?, h1], c', h1, h2⟩
  have := hr (i * 36 + j) (.bool (X i j)) (by simpa using hT.2 i j hi hj)
  rw [Nat.zero_add] at this
  exact this
/-- two tables laid into two new blocks -/
theorem two_tabs {w W : World} {c1 c2 : Array Value} {X A : Nat → Nat → Bool} (hW : (w.alloc (.cells Tryz.zeroCells104 104)).alloc (.cells Tryz.zeroCells104 104) = W) (hT1 : TabC c1 X) (hT2 : TabC c2 A) :
    W.there w.heap.size 0 c1.size ∧ (W.setCells w.heap.size 0 c1.toList).there (w.heap.size + 1) 0 c2.size ∧ Mat ((W.setCells w.heap.size 0 c1.toList).setCells (w.heap.size + 1) 0 c2.toList) w.heap.size X ∧ ((W.setCells w.heap.size 0 c1.toList).setCells (w.heap.size + 1) 0 c2.toList).rangeAt (w.heap.size + 1) 0 c2.toList ∧
      Below w.heap.size w ((W.setCells w.heap.size 0 c1.toList).setCells (w.heap.size + 1) 0 c2.toList) ∧ ((W.setCells w.heap.size 0 c1.toList).setCells (w.heap.size + 1) 0 c2.toList).heap.size = w.heap.size + 2 := by
  have hb : Below w.heap.size w W := by rw [← hW]; exact ((Below.refl _ _).alloc (Nat.le_refl _) _).alloc (by simp) _
  have k1 : W.heap[w.heap.size]? = some (.cells Tryz.zeroCells104 104) := by rw [← hW, Below.heap_alloc _ _ _ (by simp)]; exact heap_alloc_new w _
  have k2 : W.heap[w.heap.size + 1]? = some (.cells Tryz.zeroCells104 104) := by
    rw [← hW]
    have := heap_alloc_new (w.alloc (.cells Tryz.zeroCells104 104)) (.cells Tryz.zeroCells104 104)
    simpa using this
  have ks : W.heap.size = w.heap.size + 2 := by rw [← hW]; simp
  have t1 := zero_there k1
  have t2 := zero_there k2
  have z := zeroArr_size
  generalize Tryz.zeroCells104 = zc at *
  have s1 : c1.toList.length = 1296 := by simpa using hT1.1
  have s2 : c2.toList.length = 1296 := by simpa using hT2.1
  have t2' : (W.setCells w.heap.size 0 c1.toList).there (w.heap.size + 1) 0 1296 := World.there_setCells t2 _ _ _
  have r1 : (W.setCells w.heap.size 0 c1.toList).rangeAt w.heap.size 0 c1.toList := World.rangeAt_setCells_same _ _ _ _ (by rw [s1]; exact t1)
  obtain ⟨d1, e1, e2⟩ := setCells_blk c1.toList 0 W zc k1
  have e3 : ((W.setCells w.heap.size 0 c1.toList).setCells (w.heap.size + 1) 0 c2.toList).heap[w.heap.size]? = some (.cells d1 104) := by rw [setCells_far (by omega)]; exact e1
  refine ⟨by rw [hT1.1]; exact t1, by rw [hT2.1]; exact t2', Mat.ofCells hT1 ⟨d1, e3, by rw [e2]; exact z⟩ (World.rangeAt_setCells_apart r1 _ _ _ (by omega)), World.rangeAt_setCells_same _ _ _ _ (by rw [s2]; exact t2'), belowCells (by omega) _ _ _ (belowCells (Nat.le_refl _) _ _ _ hb), by rw [setCells_size, setCells_size, ks]⟩

theorem flat_apart : ∀ (zs : List Zt), (zs.flatMap Zt.blocks).Nodup → ∀ z ∈ zs, ∀ y ∈ zs, ∀ g, g ∈ z.blocks → g ∈ y.blocks → z = y
  | [], _, z, hz => by cases hz
  | x :: zs, h, z, hz => fun y hy g h1 h2 => by
    rw [List.flatMap_cons, List.nodup_append] at h
    rcases List.mem_cons.1 hz with e1 | z1
    · rcases List.mem_cons.1 hy with e2 | y1
      · rw [e1, e2]
      · rw [e1] at h1
        exact absurd rfl (h.2.2 g h1 g (List.mem_flatMap.2 ⟨y, y1, h2⟩))
    · rcases List.mem_cons.1 hy with e2 | y1
      · rw [e2] at h2
        exact absurd rfl (h.2.2 g h2 g (List.mem_flatMap.2 ⟨z, z1, h1⟩))
      · exact flat_apart zs h.2.1 z z1 y y1 g h1 h2
/-- what the loop of rank keeps -/
structure RkI (w : World) (Rd S : Nat) (rbT : Option Nat) (zs : List Zt) (g cap B1 : Nat) (ps : List PV) (Y : Nat → Nat → Bool) (wr : World) : Prop where
  zl : ∀ z ∈ zs, ∃ es', OwnR wr z.tv.blk z.rb es' ∧ es'.map kst = z.es.map kst
  tl : OwnT wr S rbT (zs.map (·.tv))
  row : wr.ownsRow 0 109 10 (.slice (some ⟨g, 0, none⟩) ps.length cap) ps.length (ps.map PV.cells).flatten
  mat : Mat wr B1 Y
  rd : wr.heap[Rd]? = w.heap[Rd]?
  rl : Rd < wr.heap.size
  but : ButM (allBlocks Rd S rbT zs) w wr
theorem RkI.below {w : World} {Rd S : Nat} {rbT : Option Nat} {zs : List Zt} {g cap B1 : Nat} {ps : List PV} {Y : Nat → Nat → Bool} {wr w' : World} (h : RkI w Rd S rbT zs g cap B1 ps Y wr) (hb : Below wr.heap.size wr w') : RkI w Rd S rbT zs g cap B1 ps Y w' :=
  ⟨fun z hz => by
    obtain ⟨es', h1, h2⟩ := h.zl z hz
    exact ⟨es', h1.keep (hb.block _ h1.lt.1) (fun k hk => hb.block k (h1.lt.2 k hk)), h2⟩, h.tl.keep (hb.block _ h.tl.lt.1) (fun k hk => hb.block k (h.tl.lt.2 k hk)), owns_keep h.row (fun k hk => by cases hk; exact hb.block _ (h.row.lt _ rfl).2), h.mat.below hb, (hb.block Rd h.rl).trans h.rd, Nat.lt_of_lt_of_le h.rl hb.size, h.but.trans (ButM.of_below hb)⟩
theorem RkI.put {w : World} {Rd S : Nat} {rbT : Option Nat} {zs : List Zt} {st : List Ty} {g cap B1 : Nat} {ps : List PV} {Y : Nat → Nat → Bool} {wr w' : World} (hp : PRep w Rd S rbT zs st) (h : RkI w Rd S rbT zs g cap B1 ps Y wr) {z : Zt} (hz : z ∈ zs) (hb : ButM z.rb.toList wr w') {es' : List RV} (ho : OwnR w' z.tv.blk z.rb es') (hk : es'.map kst = z.es.map kst) (hg : w.heap.size ≤ g) (hB : w.heap.size ≤ B1) : RkI w Rd S rbT zs g cap B1 ps Y w' := by
  have hnd : (zs.flatMap Zt.blocks).Nodup := by
    have := hp.nodup
    unfold allBlocks at this
    rw [List.nodup_cons, List.nodup_cons, List.nodup_append] at this
    exact this.2.2.2.1
  obtain ⟨_, _, _, a4⟩ := blocks_apart hp.nodup
  have hrb : ∀ k, k ∈ z.rb.toList → k ∈ z.blocks ∧ k < w.heap.size := fun k hk => by
    have hm : k ∈ z.blocks := List.mem_cons_of_mem _ hk
    exact ⟨hm, hp.lt k (mem_blocks_R hz hm)⟩
  have htl := h.tl.lt
  have hrl := (h.row.lt g rfl).2
  have hml := h.mat.lt
  refine ⟨fun y hy => ?_, h.tl.keep (hb.block _ htl.1 (fun hm => (a4 z hz _ (hrb _ hm).1).2.1 rfl)) (fun k hk => hb.block k (htl.2 k hk) (fun hm => (a4 z hz _ (hrb _ hm).1).2.2 hk)), owns_keep h.row (fun k hk => by cases hk; exact hb.block g hrl (fun hm => by have := (hrb _ hm).2; omega)), h.mat.same (hb.block B1 hml (fun hm => by have := (hrb _ hm).2; omega)), (hb.block Rd h.rl (fun hm => (a4 z hz _ (hrb _ hm).1).1 rfl)).trans h.rd, Nat.lt_of_lt_of_le h.rl hb.size, h.but.trans (hb.sub (fun g hg => .inl (mem_blocks_R hz (hrb g hg).1)))⟩
  by_cases e : y = z
  · subst e; exact ⟨es', ho, hk⟩
  · obtain ⟨es2, h1, h2⟩ := h.zl y hy
    have hno : ∀ k ∈ y.blocks, k ∉ z.rb.toList := fun k hk hm => e (flat_apart zs hnd y hy z hz k hk (hrb k hm).1)
    exact ⟨es2, h1.keep (hb.block _ h1.lt.1 (hno _ (by simp [Zt.blocks]))) (fun k hk => hb.block k (h1.lt.2 k hk) (hno k (by simp [Zt.blocks, hk]))), h2⟩

set_option maxRecDepth 100000 in
set_option maxHeartbeats 8000000 in
theorem rank_any (Rd S : Nat) (rbT : Option Nat) (zs : List Zt) (st : List Ty) (w : World) (h : PRep w Rd S rbT zs st) (hok : StOk st) (hsz : ∀ r ∈ rlsOf zs, r.ex.sz ≤ 1000000) :
    Calls Tryz.prog 15 #[.pointer (some ⟨S, 0, none⟩)] w fun e w' => ∃ q : Bool, e = .returned (.bool q) ∧ (q = true ↔ ¬ ringP (relsOf st)) ∧ (q = true → OwnT w' S rbT (zs.map (·.tv)) ∧ w'.heap[Rd]? = w.heap[Rd]? ∧ ∀ z ∈ zs, ∃ es', OwnR w' z.tv.blk z.rb es' ∧ es'.map kst = z.es.map kst) ∧ ButM (allBlocks Rd S rbT zs) w w' := by
  have hX := places_any Rd S rbT zs st w h
  have HH : Hid (∀ v w1, w1.ownsRow w.heap.size 109 10 v (placesOf zs).length ((placesOf zs).map PV.cells).flatten → Below w.heap.size w w1 →
      Calls Tryz.prog 39 #[v] w1 fun e w' => ∃ c1 c2, e = .returned (.tuple #[.agg c1, .agg c2]) ∧ TabC c1 (tabX (placesOf zs) ((rlsOf zs).map (·.ex)) (placesOf zs).length) ∧ TabC c2 (tabY (placesOf zs) ((rlsOf zs).map (·.ex)) (placesOf zs).length) ∧ Below w1.heap.size w1 w') := fun v w1 hr hb => by
    obtain ⟨hl, hp⟩ := places_rls zs (fun z hz => (h.zok z hz).len)
    have hlen := rls_len h hok
    refine hanging_any v (placesOf zs) ((rlsOf zs).map (·.ex)) w1 (owns_base hr) (by omega) (by simp [hl]) (fun a ha ha' => ?_)
    rw [List.getElem_map]
    have ha2 : a < (rlsOf zs).length := by omega
    obtain ⟨z, hz, i, h1, h2, e1, e2⟩ := hp a ha ha2
    refine ⟨hsz _ (List.getElem_mem _), ?_⟩
    rw [e1, e2]
    obtain ⟨_, _, _, r4⟩ := (h.zok z hz).rep i h1 h2
    exact r4.mono (fun g hg => by have := hb.size; omega) (fun g hg => hb.block g hg.1)
  have HP : Hid _ := h
  clear h
  go_enter Tryz.func15, Tryz.ntmps15
  go_wp2_with fail
  refine hX.mono ?_
  clear hX
  rintro e w1 ⟨v, rfl, hrow, hb1⟩
  have hH := HH.out v w1 hrow hb1
  go_wp2_with fail
  refine hH.mono ?_
  clear hH
  rintro e w2 ⟨c1, c2, rfl, hT1, hT2, hb2⟩
  obtain ⟨W3, hW3⟩ : ∃ W3, (w2.alloc (.cells Tryz.zeroCells104 104)).alloc (.cells Tryz.zeroCells104 104) = W3 := ⟨_, rfl⟩
  obtain ⟨th1, th2, hM5, hr5, hb5, hs5⟩ := two_tabs hW3 hT1 hT2
  have z1 : (Tryz.prog.info? 104).map (·.size) = some c1.size := by rw [sizeArr, hT1.1]
  have z2 : (Tryz.prog.info? 104).map (·.size) = some c2.size := by rw [sizeArr, hT2.1]
  have o1 := hT1.one
  have o2 := hT2.one
  have H : Hid (W3.there w2.heap.size 0 c1.size ∧ (W3.setCells w2.heap.size 0 c1.toList).there (w2.heap.size + 1) 0 c2.size ∧ (Tryz.prog.info? 104).map (·.size) = some c1.size ∧ (Tryz.prog.info? 104).map (·.size) = some c2.size ∧ c1.all (·.oneCell') = true ∧ c2.all (·.oneCell') = true) := ⟨th1, th2, z1, z2, o1, o2⟩
  have HW3 : Hid _ := hW3
  have HT1 : Hid _ := hT1
  have HT2 : Hid _ := hT2
  have HC := close_any (InM (rlsOf zs)) w2.heap.size _ _ hM5 (tab_fw HP.out hok)
  clear th1 th2 z1 z2 o1 o2 hW3 hT1 hT2
  go_wp2_with (first | (refine wpList_store_mid rfl 104 (.tmp 4) (.tmp 13) rfl w2.heap.size 0 c1 rfl rfl (by rw [HW3.out]; exact H.out.1) H.out.2.2.1 H.out.2.2.2.2.1 ?_) | (refine wpList_store_mid rfl 104 (.tmp 5) (.tmp 14) rfl (w2.heap.size + 1) 0 c2 rfl rfl (by rw [HW3.out]; exact H.out.2.1) H.out.2.2.2.1 H.out.2.2.2.2.2 ?_))
  rw [HW3.out]
  refine HC.mono ?_
  clear HC
  rintro e w6 ⟨⟨v6, rfl⟩, ⟨Y, hMY, hFY⟩, hbut6, hs6⟩
  have hr6 : w6.rangeAt (w2.heap.size + 1) 0 c2.toList := fun j u hu => by
    have hk6 := hbut6.block (w2.heap.size + 1) (by omega) (by omega)
    rw [World.cell?_of_block (w := (W3.setCells w2.heap.size 0 c1.toList).setCells (w2.heap.size + 1) 0 c2.toList) (a := ⟨w2.heap.size + 1, 0 + j, none⟩) hk6]
    exact hr5 j u hu
  have hLB : Calls Tryz.prog 41 #[.pointer (some ⟨w2.heap.size, 0, none⟩), .agg c2.toList.toArray] w6 fun e w' => LbAns (tabY (placesOf zs) ((rlsOf zs).map (·.ex)) (placesOf zs).length) Y e ∧ Below w6.heap.size w6 w' := by
    rw [Array.toArray_toList]
    exact leadBack_any w2.heap.size c2 Y _ w6 hMY HT2.out
  have z2 : (Tryz.prog.info? 104).map (·.size) = some c2.toList.length := by rw [sizeArr]; simpa using HT2.out.1.symm
  have HR6 : Hid _ := hr6
  have HZ2 : Hid _ := z2
  have HMY : Hid _ := hMY
  have HFY : Hid _ := hFY
  have hb6 : Below w.heap.size w w6 := by
    have h1 : Below w.heap.size w w2 := hb1.trans (hb2.mono hb1.size)
    have hs1 := h1.size
    have h2 := h1.trans (hb5.mono hs1)
    exact h2.trans ⟨hbut6.os, hbut6.tape, hbut6.output, hbut6.size, fun k hk => hbut6.block k (by omega) (by omega)⟩
  have hb26 : Below w2.heap.size w2 w6 := hb5.trans ⟨hbut6.os, hbut6.tape, hbut6.output, hbut6.size, fun k hk => hbut6.block k (by omega) (by omega)⟩
  clear hr6 z2 hMY hFY hbut6 hr5 hb5 hM5
  go_wp2_with (refine wpList_load_mid rfl 104 (.tmp 5) rfl (w2.heap.size + 1) 0 rfl c2.toList _ HR6.out Tryz.underlying104 rfl HZ2.out ?_)
  refine hLB.mono ?_
  clear hLB
  rintro e w7 ⟨⟨q, rfl, hq⟩, hb7⟩
  have hring : q = true ↔ ringP (relsOf st) := hq.trans (lb_ring HP.out hok HFY.out)
  have HRing : Hid _ := hring
  clear hq hring
  cases q with
  | true =>
    have HA : Hid (ringP (relsOf st)) := HRing.out.1 rfl
    have HBw : Hid (Below w.heap.size w w7) := hb6.trans (hb7.mono hb6.size)
    go_wp2
    go_ret
    exact ⟨false, rfl, ⟨fun h => (by cases h), fun h => absurd HA.out h⟩, fun h => (by cases h), ⟨HBw.out.os, HBw.out.tape, HBw.out.output, HBw.out.size, fun k hk _ => HBw.out.block k hk⟩⟩
  | false =>
    have HA : Hid (¬ ringP (relsOf st)) := fun h => by have := HRing.out.2 h; cases this
    have hb67 : Below w.heap.size w w7 := hb6.trans (hb7.mono hb6.size)
    have hpr7 := HP.out.below hb67
    have hTl7 : OwnT w7 S rbT (zs.map (·.tv)) := hpr7.own
    have hb17 : Below w1.heap.size w1 w7 := hb2.trans ((hb26.trans (hb7.mono hb26.size)).mono hb2.size)
    obtain ⟨va, vc, rfl, hform⟩ : ∃ a c, v = .slice a (placesOf zs).length c ∧ ∀ q, a = some q → ∃ g, q = ⟨g, 0, none⟩ := by
      rcases hrow.2 with ⟨e, h0⟩ | ⟨g, cap', cur, e, _⟩
      · rw [h0]; exact ⟨_, _, e, fun q hq => by cases hq⟩
      · exact ⟨_, _, e, fun q hq => by cases hq; exact ⟨g, rfl⟩⟩
    have hnil : va = none → (placesOf zs).length = 0 := fun e => by
      rcases hrow.2 with ⟨_, h0⟩ | ⟨g, cap', cur, e2, _⟩
      · exact h0
      · rw [e] at e2; cases e2
    have HRow : Hid _ := hrow
    have hlen := rls_len HP.out hok
    obtain ⟨hpl, hpp⟩ := places_rls zs (fun z hz => (HP.out.zok z hz).len)
    have HPP : Hid _ := hpp
    obtain ⟨n, hn⟩ : ∃ n, (placesOf zs).length = n := ⟨_, rfl⟩
    have HN : Hid ((placesOf zs).length = n) := hn
    have hn36 : n ≤ 36 := by omega
    have HI0 : Hid (∀ g, va = some ⟨g, 0, none⟩ → RkI w Rd S rbT zs g vc w2.heap.size (placesOf zs) Y w7) := fun g hg => by
      subst hg
      refine ⟨fun z hz => ⟨z.es, (hpr7.zok z hz).own, rfl⟩, hTl7, owns_keep (owns_base HRow.out) (fun k hk => hb17.block k (World.ownsRow.lt HRow.out k hk).2), HMY.out.below hb7, hb67.block Rd (HP.out.lt Rd mem_Rd), hpr7.lt Rd mem_Rd, ButM.of_below hb67⟩
    have HGe : Hid (∀ g, va = some ⟨g, 0, none⟩ → w.heap.size ≤ g) := fun g hg => by subst hg; exact (World.ownsRow.lt HRow.out g rfl).1
    have HB2 : Hid (w.heap.size ≤ w2.heap.size) := by show _ ≤ _; have := hb1.size; have := hb2.size; omega
    have HTl7 : Hid _ := hTl7
    have HZl : Hid (∀ z ∈ zs, ∃ es', OwnR w7 z.tv.blk z.rb es' ∧ es'.map kst = z.es.map kst) := fun z hz => ⟨z.es, (hpr7.zok z hz).own, rfl⟩
    have HRd : Hid (w7.heap[Rd]? = w.heap[Rd]?) := hb67.block Rd (HP.out.lt Rd mem_Rd)
    have HBw : Hid (ButM (allBlocks Rd S rbT zs) w w7) := ButM.of_below hb67
    rw [hn] at hnil ⊢
    clear hn hpp hrow hb6 hb26 hb17 hb1 hb2 hTl7 hpr7 HRing hb67 HH hb7
    go_wp2
    go_loopw [20] (fun s20 wr => ∃ i : Nat, i ≤ n ∧ s20 = .int .i64 (i : Int) ∧ Hid ((∀ g, va = some ⟨g, 0, none⟩ → RkI w Rd S rbT zs g vc w2.heap.size (placesOf zs) Y wr) ∧ (OwnT wr S rbT (zs.map (·.tv)) ∧ wr.heap[Rd]? = w.heap[Rd]? ∧ ∀ z ∈ zs, ∃ es', OwnR wr z.tv.blk z.rb es' ∧ es'.map kst = z.es.map kst) ∧ ButM (allBlocks Rd S rbT zs) w wr)) (fun s20 _ => n - (intOf s20).toNat)
    case atStart => exact ⟨0, Nat.zero_le _, rfl, HI0.out, ⟨HTl7.out, HRd.out, HZl.out⟩, HBw.out⟩
    case round =>
      obtain ⟨i, hi, rfl, HI⟩ := hrel
      by_cases hlt : i < n
      · have hip : i < (placesOf zs).length := by have := HN.out; omega
        obtain ⟨g, rfl⟩ : ∃ g, va = some ⟨g, 0, none⟩ := by
          cases va with
          | none => have := hnil rfl; omega
          | some a => obtain ⟨g, rfl⟩ := hform a rfl; exact ⟨g, rfl⟩
        have hR := HI.out.1 g rfl
        have hge := HGe.out g rfl
        obtain ⟨z, hz, j, h1, h2, ep, er⟩ := HPP.out i hip (by omega)
        have cj : ∀ q, q < 10 → wr.cell? ⟨g, i * 10 + q, none⟩ = (mkPV z z.es[j]).cells[q]? := fun q hq => by rw [RowPV.cell hR.row i hip q hq, ep]
        have hmem : kst z.es[j] ∈ z.es.map kst := List.mem_map.2 ⟨z.es[j], List.getElem_mem _, rfl⟩
        have hi36 : i < 36 := by omega
        generalize z.es[j] = y at *
        obtain ⟨ykey, yset, yk, yb, yc, yp, yl, ycp, yrank, yline⟩ := y
        obtain ⟨C10, hC10⟩ : ∃ C10 : Array Value, C10 = #[strV z.tv.key, strV ykey, .pointer (some ⟨z.tv.blk, 0, none⟩), .bool yset, .int .i64 yk, .string yb, .string yc, .slice yp yl ycp, .int .i64 yrank, .int .i64 yline] := ⟨_, rfl⟩
        obtain ⟨W2, hW2⟩ : ∃ W2, wr.alloc (.cells C10 109) = W2 := ⟨_, rfl⟩
        have hbA : Below wr.heap.size wr W2 := by rw [← hW2]; exact (Below.refl _ _).alloc (Nat.le_refl _) _
        have bN : BoxA W2 wr.heap.size 109 C10 := by rw [← hW2]; exact BoxA.new wr _ _
        have hRc := reach_any w2.heap.size i Y W2 (hR.below hbA).mat hi36
        have HPut : Hid (∀ r : Int, Calls Tryz.prog 43 #[.pointer (some ⟨z.tv.blk, 0, none⟩), strV ykey, .agg #[.bool yset, .int .i64 yk, .string yb, .string yc, .slice yp yl ycp, .int .i64 r, .int .i64 yline]] (W2.setCell ⟨wr.heap.size, 8, none⟩ (.int .i64 r)) fun e w' => (∃ v, e = .returned v) ∧ RkI w Rd S rbT zs g vc w2.heap.size (placesOf zs) Y w') := fun r => by
          have hR3 := hR.below (hbA.setCell (p := ⟨wr.heap.size, 8, none⟩) (Nat.le_refl _) (.int .i64 r))
          obtain ⟨es', ho, hk⟩ := hR3.zl z hz
          refine (PutR_old z.tv.blk z.rb es' ⟨ykey, yset, yk, yb, yc, yp, yl, ycp, r, yline⟩ _ ho (by rw [hk]; exact hmem)).mono ?_
          rintro e w' ⟨hv, es2, ho2, hk2, hbut⟩
          exact ⟨hv, hR3.put HP.out hz hbut ho2 (hk2.trans hk) hge HB2.out⟩
        have d0 := cj 0 (by decide)
        have d1 := cj 1 (by decide)
        have d2 := cj 2 (by decide)
        have d3 := cj 3 (by decide)
        have d4 := cj 4 (by decide)
        have d5 := cj 5 (by decide)
        have d6 := cj 6 (by decide)
        have d7 := cj 7 (by decide)
        have d8 := cj 8 (by decide)
        have d9 := cj 9 (by decide)
        simp only [PV.cells, mkPV, List.getElem?_cons_zero, List.getElem?_cons_succ, Nat.add_zero] at d0 d1 d2 d3 d4 d5 d6 d7 d8 d9
        rw [hC10] at hW2
        have HW2 : Hid _ := hW2
        subst hC10
        have n0 : W2.cell? ⟨wr.heap.size, 1, none⟩ = some (strV ykey) := bN.cell 1
        have n1 : W2.cell? ⟨wr.heap.size, 2, none⟩ = some (.pointer (some ⟨z.tv.blk, 0, none⟩)) := bN.cell 2
        have n3 : W2.cell? ⟨wr.heap.size, 3, none⟩ = some (.bool yset) := bN.cell 3
        have n4 : W2.cell? ⟨wr.heap.size, 4, none⟩ = some (.int .i64 yk) := bN.cell 4
        have n5 : W2.cell? ⟨wr.heap.size, 5, none⟩ = some (.string yb) := bN.cell 5
        have n6 : W2.cell? ⟨wr.heap.size, 6, none⟩ = some (.string yc) := bN.cell 6
        have n7 : W2.cell? ⟨wr.heap.size, 7, none⟩ = some (.slice yp yl ycp) := bN.cell 7
        have n8 : W2.cell? ⟨wr.heap.size, 8, none⟩ = some (.int .i64 yrank) := bN.cell 8
        have n9 : W2.cell? ⟨wr.heap.size, 9, none⟩ = some (.int .i64 yline) := bN.cell 9
        have nf : W2.frozen? ⟨wr.heap.size, 8, none⟩ = false := by
          have hk : W2.heap[wr.heap.size]? = _ := bN
          simp [World.frozen?, hk]
        clear bN cj hW2 hR HI HPP hmem er ep hbA
        unfold strV at *
        go_upto_region 9 with fail
        rw [HW2.out]
        clear d0 d1 d2 d3 d4 d5 d6 d7 d8 d9
        go_wp2_with fail
        refine hRc.mono ?_
        rintro e w8 ⟨⟨r, rfl⟩, hw8⟩
        subst w8
        have hPut := HPut.out (r : Int)
        go_wp2_with (go_at_call 43; refine hPut.mono ?_; rintro e w9 ⟨⟨v9, rfl⟩, hR9⟩)
        go_roundw
        case rel => exact ⟨i + 1, by omega, by go_num, fun g' hg' => by cases hg'; exact hR9, ⟨hR9.tl, hR9.rd, hR9.zl⟩, hR9.but⟩
        case measure => simp [intOf]; omega
      · obtain rfl : i = n := by omega
        go_wp2
        go_ret
        exact ⟨true, rfl, ⟨fun _ => HA.out, fun _ => rfl⟩, fun _ => HI.out.2.1, ⟨HI.out.2.2.os, HI.out.2.2.tape, HI.out.2.2.output, HI.out.2.2.size, HI.out.2.2.block⟩⟩
end Go.Proofs.YtlgodpadcilcaaaGreatDoor
