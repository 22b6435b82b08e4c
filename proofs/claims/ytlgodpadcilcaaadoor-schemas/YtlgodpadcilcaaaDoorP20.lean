import Derived.Test.YtlgodpadcilcaaaDoorP17
import Derived.Deep.RegionHeld3
import Derived.Test.YtlgodpadcilcaaaDoorP18
import Derived.Test.YtlgodpadcilcaaaDoorP19
namespace Go.Proofs.YtlgodpadcilcaaaDoor
open Go.ChangeShapes Go.WideShapes Go.ChangeAt Go.RowKit

def HangOK (n P a b : Nat) (N : List NV) (rs : List RR) (f : Sing → Bool) : Prop := ∀ (e : Exp) (ag : Bool) (i : Nat) (w : World), e.sz ≤ n → PlanAt w P N rs → Tree (fun g => g < w.heap.size) w N e i →
  Calls Tryd.prog 18 #[.pointer (some ⟨P, 0, none⟩), .int .i64 (a : Int), .int .i64 (i : Int), .int .i64 (b : Int), .bool ag] w fun e' w' => e' = .returned (.int .i64 ((hgL f (e.flat ag) : Nat) : Int)) ∧ Below w.heap.size w w'

set_option maxRecDepth 100000 in
set_option maxHeartbeats 16000000 in
theorem hangs_join (n P a b i : Nat) (ag : Bool) (N : List NV) (rs : List RR) (f : Sing → Bool) (ih : HangOK n P a b N rs f) (k : Nat) (es : List Exp) (w : World) (hs : (Exp.join k es).sz ≤ n + 1) (hn : n ≤ 100000) (h : PlanAt w P N rs) (ha : a < rs.length) (hb : b < rs.length) (hT : Tree (fun g => g < w.heap.size) w N (.join k es) i) :
    Calls Tryd.prog 18 #[.pointer (some ⟨P, 0, none⟩), .int .i64 (a : Int), .int .i64 (i : Int), .int .i64 (b : Int), .bool ag] w fun e' w' => e' = .returned (.int .i64 ((hgL f ((Exp.join k es).flat ag) : Nat) : Int)) ∧ Below w.heap.size w w' := by
  simp only [Tree] at hT
  obtain ⟨g, c, ps, hx, hg, hk, hlen, hrange, hall⟩ := hT
  rw [Tree.all_iff _ _ hlen] at hall
  obtain ⟨G2, cap2, b1, hi, d0, d1, d2, d3⟩ := h.node hx
  simp only at d0 d1 d2 d3
  have hes : ∀ e ∈ es, e.sz ≤ n := fun e he => by have := Exp.szL_mem he; simp only [Exp.sz] at hs; omega
  have hel : es.length ≤ n := by have := Exp.szL_len es; simp only [Exp.sz] at hs; omega
  have hsg : (sgn k = 124 ∧ ¬ k = 5) ∨ (sgn k = 38 ∧ ¬ k = 5) ∨ (sgn k = 45 ∧ k = 5 ∧ es.length = 2) := by
    rcases hk with rfl | rfl | ⟨rfl, h2⟩
    · exact .inl ⟨rfl, by decide⟩
    · exact .inr (.inl ⟨rfl, by decide⟩)
    · exact .inr (.inr ⟨rfl, rfl, h2⟩)
  obtain ⟨sg, hsge⟩ : ∃ sg, sgn k = sg := ⟨_, rfl⟩
  rw [hsge] at d0 hsg
  clear hsge
  have hq1 : (sg == 115) = false := by rw [beq_eq_false_iff_ne]; omega
  have hq2 : (sg == 110) = false := by rw [beq_eq_false_iff_ne]; omega
  have hq3 : (sg == 46) = false := by rw [beq_eq_false_iff_ne]; omega
  have hn1 : ¬ sg = 115 := by omega
  have hn2 : ¬ sg = 110 := by omega
  have hn3 : ¬ sg = 46 := by omega
  obtain ⟨W, hW⟩ : ∃ W, w.alloc (.cells #[.int .u8 sg, .string ⟨#[]⟩, .string ⟨#[]⟩, .slice (some ⟨g, 0, none⟩) es.length c] 102) = W := ⟨_, rfl⟩
  have hbl : Below w.heap.size w W := by rw [← hW]; exact (Below.refl _ _).alloc (Nat.le_refl _) _
  have hWs : w.heap.size < W.heap.size := by rw [← hW]; simp
  have e0 : W.cell? ⟨w.heap.size, 0, none⟩ = some (.int .u8 sg) := by rw [← hW]; exact World.cell?_alloc_new ..
  have e3 : W.cell? ⟨w.heap.size, 3, none⟩ = some (.slice (some ⟨g, 0, none⟩) es.length c) := by rw [← hW]; exact World.cell?_alloc_new ..
  have HE : Hid (∀ wr, Below W.heap.size W wr → wr.cell? ⟨w.heap.size, 0, none⟩ = some (.int .u8 sg) ∧ wr.cell? ⟨w.heap.size, 3, none⟩ = some (.slice (some ⟨g, 0, none⟩) es.length c)) := fun wr hbr =>
    ⟨by rw [hbr.cell (p := ⟨w.heap.size, 0, none⟩) hWs]; exact e0, by rw [hbr.cell (p := ⟨w.heap.size, 3, none⟩) hWs]; exact e3⟩
  have HP : Hid (∀ wr, Below W.heap.size W wr → ∀ j (hj : j < ps.length), wr.cell? ⟨g, j, none⟩ = some (.int .i64 (ps[j] : Int))) := fun wr hbr j hj => by
    have hbw : Below w.heap.size w wr := hbl.trans (hbr.mono hbl.size)
    rw [hbw.cell (p := ⟨g, j, none⟩) hg]
    have := hrange j (.int .i64 (ps[j] : Int)) (by rw [List.getElem?_map, List.getElem?_eq_getElem hj]; rfl)
    rw [Nat.zero_add] at this
    exact this
  have HI : Hid (∀ wr, Below W.heap.size W wr → ∀ j (hj : j < ps.length) (hj' : j < es.length) (ag' : Bool), Calls Tryd.prog 18 #[.pointer (some ⟨P, 0, none⟩), .int .i64 (a : Int), .int .i64 (ps[j] : Int), .int .i64 (b : Int), .bool ag'] wr fun e' w' => e' = .returned (.int .i64 ((hgL f (es[j].flat ag') : Nat) : Int)) ∧ Below wr.heap.size wr w') := fun wr hbr j hj hj' ag' => by
    have hbw : Below w.heap.size w wr := hbl.trans (hbr.mono hbl.size)
    exact ih es[j] ag' ps[j] wr (hes _ (List.getElem_mem _)) (h.below hbw) ((hall j hj' hj).keepB hbw)
  have HBW : Hid (∀ wr, Below W.heap.size W wr → Below w.heap.size w wr) := fun wr hbr => hbl.trans (hbr.mono hbl.size)
  have HW : Hid _ := hW
  have HLN : Hid (ps.length = es.length) := hlen
  have HSG : Hid _ := hsg
  have HRes : Hid ((Exp.join k es).flat ag = Exp.flat.flatL ag k 0 (es.take es.length)) := by show _ = _; rw [List.take_length]; simp only [Exp.flat]
  clear hx hall hrange hes hk hs h ih hsg hW
  obtain ⟨el, hle⟩ : ∃ el, es.length = el := ⟨_, rfl⟩
  have HEL : Hid (es.length = el) := hle
  rw [hle] at d3 HE hel HW e3
  clear hle
  generalize N.length = nl at *
  generalize rs.length = rl at *
  have hbi : (b : Int) < (rl : Int) := by omega
  have hai : (a : Int) < (rl : Int) := by omega
  have hii : (i : Int) < (nl : Int) := by omega
  go_enter Tryd.func18, Tryd.ntmps18
  go_upto_region 2 with fail
  rw [HW.out]
  simp only [List.append]
  go_quiet (fail)
  go_wp2
  go_loopw [13, 14] (fun s13 s14 wr => ∃ j m : Nat, j ≤ el ∧ s14 = .int .i64 (j : Int) ∧ s13 = .int .i64 (m : Int) ∧ m ≤ 2 ∧ Hid (Below W.heap.size W wr) ∧ Hid (m = hgL f (Exp.flat.flatL ag k 0 (es.take j)))) (fun _ s14 _ => el - (intOf s14).toNat)
  case atStart => exact ⟨0, 0, Nat.zero_le _, rfl, rfl, by omega, below_drewN _ _ _, by show _ = _; simp [Exp.flat.flatL, hgL]⟩
  case round =>
    obtain ⟨j, m, hj, rfl, rfl, hm2, HBr, HM⟩ := hrel
    obtain ⟨e0, e3⟩ := HE.out wr HBr.out
    by_cases hlt : j < el
    · have hje : j < es.length := by have := HEL.out; omega
      have hjp : j < ps.length := by have := HLN.out; omega
      have cp := HP.out wr HBr.out j hjp
      obtain ⟨ag', hag'⟩ : ∃ ag', (ag || (k == 5 && decide (0 < j))) = ag' := ⟨_, rfl⟩
      have HI2 : Hid (∀ u, Below wr.heap.size wr u → Calls Tryd.prog 18 #[.pointer (some ⟨P, 0, none⟩), .int .i64 (a : Int), .int .i64 (ps[j] : Int), .int .i64 (b : Int), .bool ag'] u fun e' w' => e' = .returned (.int .i64 ((hgL f (es[j].flat ag') : Nat) : Int)) ∧ Below u.heap.size u w') := fun u hu => HI.out u (HBr.out.trans (hu.mono HBr.out.size)) j hjp hje ag'
      have HTk : Hid (hgL f (Exp.flat.flatL ag k 0 (es.take (j + 1))) = max m (hgL f (es[j].flat ag'))) := by
        show _ = _
        rw [flatL_take ag k j es hje, hgL_append, HM.out, hag']
      have hqle := hgL_le f (es[j].flat ag')
      generalize ps[j] = pj at *
      generalize hgL f (es[j].flat ag') = q at *
      have HKp : Hid (∀ u w', Below wr.heap.size wr u → Below u.heap.size u w' → (w'.cell? ⟨w.heap.size, 0, none⟩ = some (.int .u8 sg) ∧ w'.cell? ⟨w.heap.size, 3, none⟩ = some (.slice (some ⟨g, 0, none⟩) el c)) ∧ w'.cell? ⟨g, j, none⟩ = some (.int .i64 (pj : Int))) := fun u w' h1 h2 => by
        have hbu : Below wr.heap.size wr w' := h1.trans (h2.mono h1.size)
        have hsz : w.heap.size < wr.heap.size := by have := HBr.out.size; omega
        have hgl : g < wr.heap.size := by omega
        exact ⟨⟨by rw [hbu.cell (p := ⟨w.heap.size, 0, none⟩) hsz]; exact e0, by rw [hbu.cell (p := ⟨w.heap.size, 3, none⟩) hsz]; exact e3⟩, by rw [hbu.cell (p := ⟨g, j, none⟩) hgl]; exact cp⟩
      clear HP HI HM
      have hji : (j : Int) < (el : Int) := by omega
      have hsg : (sg = 45 ∧ k = 5 ∧ el = 2) ∨ (¬ sg = 45 ∧ ¬ k = 5) := by
        have hEL := HEL.out
        rcases HSG.out with ⟨h1, h2⟩ | ⟨h1, h2⟩ | ⟨h1, h2, h3⟩
        · exact .inr ⟨by omega, h2⟩
        · exact .inr ⟨by omega, h2⟩
        · exact .inl ⟨h1, h2, by omega⟩
      have fin : ∀ (w' : World), Below wr.drew.heap.size wr.drew w' → Hid (Below W.heap.size W w') := fun w' hb2 => HBr.out.trans (((Below.refl wr.heap.size wr).drew.trans hb2).mono HBr.out.size)
      have FIN : Hid _ := fin
      clear fin
      have key : ∀ (w' : World), Below wr.drew.heap.size wr.drew w' → (m < q → Hid (Below W.heap.size W w') ∧ Hid (q = hgL f (Exp.flat.flatL ag k 0 (es.take (j + 1))))) ∧ (¬ m < q → Hid (Below W.heap.size W w') ∧ Hid (m = hgL f (Exp.flat.flatL ag k 0 (es.take (j + 1))))) := fun w' hb2 =>
        ⟨fun hlt => ⟨FIN.out w' hb2, by show _ = _; rw [HTk.out]; omega⟩, fun hlt => ⟨FIN.out w' hb2, by show _ = _; rw [HTk.out]; omega⟩⟩
      have KEY : Hid _ := key
      clear key HTk FIN
      cases ag with
      | true =>
        have e1 : ag' = true := by rw [← hag']; rfl
        subst e1
        clear hag'
        go_upto_region 11 with fail
        refine wp_region_held_drew (S := fun u => (u.cell? ⟨w.heap.size, 0, none⟩ = some (.int .u8 sg) ∧ u.cell? ⟨w.heap.size, 3, none⟩ = some (.slice (some ⟨g, 0, none⟩) el c)) ∧ u.cell? ⟨g, j, none⟩ = some (.int .i64 (pj : Int))) (by kernel_rfl) ⟨⟨e0, e3⟩, cp⟩ (fun hS => ?_)
        refine wpAnyH_take (i := 0) (v := .pointer (some ⟨P, 0, none⟩)) rfl (by kernel_rfl) (by kernel_rfl) (by kernel_rfl) (fun _ _ _ h => h) (Or.inl ⟨by rfl, fun u _ => BigFrame.run_move (.tmp 0) rfl u⟩) hS ?_
        simp only [Act.put, List.getElem_toArray, List.getElem_cons_zero, List.setIfInBounds_toArray, List.set_cons_zero, List.set_cons_succ]
        refine wpAnyH_take (i := 1) (v := .int .i64 (a : Int)) rfl (by kernel_rfl) (by kernel_rfl) (by kernel_rfl) (fun _ _ _ h => h) (Or.inl ⟨by rfl, fun u _ => BigFrame.run_move (.tmp 1) rfl u⟩) hS ?_
        simp only [Act.put, List.getElem_toArray, List.getElem_cons_succ, List.getElem_cons_zero, List.setIfInBounds_toArray, List.set_cons_zero, List.set_cons_succ]
        refine wpAnyH_take (i := 2) (v := .pointer (some ⟨w.heap.size, 3, none⟩)) rfl (by kernel_rfl) (by kernel_rfl) (by kernel_rfl) (fun _ _ _ h => h) (Or.inl ⟨by rfl, by intro u hSu; obtain ⟨⟨s0, s3⟩, sp⟩ := hSu; simp only [List.getElem_toArray, List.getElem_cons_succ, List.getElem_cons_zero]; go_simp⟩) hS ?_
        simp only [Act.put, List.getElem_toArray, List.getElem_cons_succ, List.getElem_cons_zero, List.setIfInBounds_toArray, List.set_cons_zero, List.set_cons_succ]
        refine wpAnyH_take (i := 3) (v := .slice (some ⟨g, 0, none⟩) el c) rfl (by kernel_rfl) (by kernel_rfl) (by kernel_rfl) (fun _ _ _ h => h) (Or.inl ⟨by rfl, by intro u hSu; obtain ⟨⟨s0, s3⟩, sp⟩ := hSu; simp only [List.getElem_toArray, List.getElem_cons_succ, List.getElem_cons_zero]; go_simp⟩) hS ?_
        simp only [Act.put, List.getElem_toArray, List.getElem_cons_succ, List.getElem_cons_zero, List.setIfInBounds_toArray, List.set_cons_zero, List.set_cons_succ]
        refine wpAnyH_take (i := 4) (v := .int .i64 (j : Int)) rfl (by kernel_rfl) (by kernel_rfl) (by kernel_rfl) (fun _ _ _ h => h) (Or.inl ⟨by rfl, fun u _ => BigFrame.run_move (.tmp 14) rfl u⟩) hS ?_
        simp only [Act.put, List.getElem_toArray, List.getElem_cons_succ, List.getElem_cons_zero, List.setIfInBounds_toArray, List.set_cons_zero, List.set_cons_succ]
        refine wpAnyH_take (i := 5) (v := .pointer (some ⟨g, j, none⟩)) rfl (by kernel_rfl) (by kernel_rfl) (by kernel_rfl) (fun _ _ _ h => h) (Or.inl ⟨by rfl, by intro u hSu; obtain ⟨⟨s0, s3⟩, sp⟩ := hSu; simp only [List.getElem_toArray, List.getElem_cons_succ, List.getElem_cons_zero]; go_simp⟩) hS ?_
        simp only [Act.put, List.getElem_toArray, List.getElem_cons_succ, List.getElem_cons_zero, List.setIfInBounds_toArray, List.set_cons_zero, List.set_cons_succ]
        refine wpAnyH_take (i := 6) (v := .int .i64 (pj : Int)) rfl (by kernel_rfl) (by kernel_rfl) (by kernel_rfl) (fun _ _ _ h => h) (Or.inl ⟨by rfl, by intro u hSu; obtain ⟨⟨s0, s3⟩, sp⟩ := hSu; simp only [List.getElem_toArray, List.getElem_cons_succ, List.getElem_cons_zero]; go_simp⟩) hS ?_
        simp only [Act.put, List.getElem_toArray, List.getElem_cons_succ, List.getElem_cons_zero, List.setIfInBounds_toArray, List.set_cons_zero, List.set_cons_succ]
        refine wpAnyH_take (i := 7) (v := .int .i64 (b : Int)) rfl (by kernel_rfl) (by kernel_rfl) (by kernel_rfl) (fun _ _ _ h => h) (Or.inl ⟨by rfl, fun u _ => BigFrame.run_move (.tmp 3) rfl u⟩) hS ?_
        simp only [Act.put, List.getElem_toArray, List.getElem_cons_succ, List.getElem_cons_zero, List.setIfInBounds_toArray, List.set_cons_zero, List.set_cons_succ]
        refine wpAnyH_take (i := 8) (v := .bool true) rfl (by kernel_rfl) (by kernel_rfl) (by kernel_rfl) (fun _ _ _ h => h) (Or.inl ⟨by rfl, fun u _ => BigFrame.run_move (.tmp 4) rfl u⟩) hS ?_
        simp only [Act.put, List.getElem_toArray, List.getElem_cons_succ, List.getElem_cons_zero, List.setIfInBounds_toArray, List.set_cons_zero, List.set_cons_succ]
        refine wpAnyH_take (i := 9) (v := .bool true) rfl (by kernel_rfl) (by kernel_rfl) (by kernel_rfl) (fun _ _ _ h => h) (Or.inl ⟨by rfl, fun u _ => BigFrame.run_move (.tmp 108) rfl u⟩) hS ?_
        simp only [Act.put, List.getElem_toArray, List.getElem_cons_succ, List.getElem_cons_zero, List.setIfInBounds_toArray, List.set_cons_zero, List.set_cons_succ]
        refine wpAnyH_take (i := 10) (v := undef) rfl (by kernel_rfl) (by kernel_rfl) (by kernel_rfl) (fun _ _ _ h => h) (Or.inr ⟨by rfl, rfl⟩) hS ?_
        simp only [Act.put, List.getElem_toArray, List.getElem_cons_succ, List.getElem_cons_zero, List.setIfInBounds_toArray, List.set_cons_zero, List.set_cons_succ]
        refine wpAnyH_take (i := 11) (v := undef) rfl (by kernel_rfl) (by kernel_rfl) (by kernel_rfl) (fun _ _ _ h => h) (Or.inr ⟨by rfl, rfl⟩) hS ?_
        simp only [Act.put, List.getElem_toArray, List.getElem_cons_succ, List.getElem_cons_zero, List.setIfInBounds_toArray, List.set_cons_zero, List.set_cons_succ]
        refine wpAnyH_take (i := 12) (v := undef) rfl (by kernel_rfl) (by kernel_rfl) (by kernel_rfl) (fun _ _ _ h => h) (Or.inr ⟨by rfl, rfl⟩) hS ?_
        simp only [Act.put, List.getElem_toArray, List.getElem_cons_succ, List.getElem_cons_zero, List.setIfInBounds_toArray, List.set_cons_zero, List.set_cons_succ]
        refine wpAnyH_take (i := 13) (v := undef) rfl (by kernel_rfl) (by kernel_rfl) (by kernel_rfl) (fun _ _ _ h => h) (Or.inr ⟨by rfl, rfl⟩) hS ?_
        simp only [Act.put, List.getElem_toArray, List.getElem_cons_succ, List.getElem_cons_zero, List.setIfInBounds_toArray, List.set_cons_zero, List.set_cons_succ]
        refine wpAnyH_take (i := 14) (v := undef) rfl (by kernel_rfl) (by kernel_rfl) (by kernel_rfl) (fun _ _ _ h => h) (Or.inr ⟨by rfl, rfl⟩) hS ?_
        simp only [Act.put, List.getElem_toArray, List.getElem_cons_succ, List.getElem_cons_zero, List.setIfInBounds_toArray, List.set_cons_zero, List.set_cons_succ]
        refine wpAnyH_take (i := 15) (v := undef) rfl (by kernel_rfl) (by kernel_rfl) (by kernel_rfl) (fun _ _ _ h => h) (Or.inr ⟨by rfl, rfl⟩) hS ?_
        simp only [Act.put, List.getElem_toArray, List.getElem_cons_succ, List.getElem_cons_zero, List.setIfInBounds_toArray, List.set_cons_zero, List.set_cons_succ]
        refine wpAnyH_take (i := 16) (v := undef) rfl (by kernel_rfl) (by kernel_rfl) (by kernel_rfl) (fun _ _ _ h => h) (Or.inr ⟨by rfl, rfl⟩) hS ?_
        simp only [Act.put, List.getElem_toArray, List.getElem_cons_succ, List.getElem_cons_zero, List.setIfInBounds_toArray, List.set_cons_zero, List.set_cons_succ]
        refine wpAnyH_take (i := 17) (v := .bool true) rfl (by kernel_rfl) (by kernel_rfl) (by kernel_rfl) (fun _ _ _ h => h) (Or.inl ⟨by rfl, by intro u hSu; obtain ⟨⟨s0, s3⟩, sp⟩ := hSu; simp only [List.getElem_toArray, List.getElem_cons_succ, List.getElem_cons_zero]; go_simp⟩) hS ?_
        simp only [Act.put, List.getElem_toArray, List.getElem_cons_succ, List.getElem_cons_zero, List.setIfInBounds_toArray, List.set_cons_zero, List.set_cons_succ]
        refine wpAnyH_ready (rs := [18]) (by kernel_rfl) (by simp) ?_
        refine AllReadyH.cons rfl (fun K' hK => ?_) AllReadyH.nil
        rw [if_pos (by rfl)]
        simp only [List.getElem_toArray, List.getElem_cons_succ, List.getElem_cons_zero]
        go_simp
        refine (HI2.out _ ((Below.refl _ _).drew)).mono ?_
        rintro e w' ⟨rfl, hb2⟩
        refine hK.out _ _ (HKp.out _ _ ((Below.refl _ _).drew) hb2) (fun hS => ?_)
        refine wpAnyH_take (i := 19) (v := .int .i64 (q : Int)) rfl (by kernel_rfl) (by kernel_rfl) (by kernel_rfl) (fun _ _ _ h => h) (Or.inl ⟨by rfl, fun u _ => BigFrame.run_assign (.tmp 118) rfl u⟩) hS ?_
        simp only [Act.put, List.getElem_toArray, List.getElem_cons_succ, List.getElem_cons_zero, List.setIfInBounds_toArray, List.set_cons_zero, List.set_cons_succ]
        refine wpAnyH_done (by kernel_rfl) ?_ _
        by_cases hqm : m < q
        · have hqm' : (m : Int) < (q : Int) := by omega
          go_wp2
          go_roundw
          case rel => exact ⟨j + 1, q, by omega, by go_num, rfl, hqle, ((KEY.out _ hb2).1 hqm).1, ((KEY.out _ hb2).1 hqm).2⟩
          case measure => simp [intOf]; omega
        · have hqm' : ¬ (m : Int) < (q : Int) := by omega
          go_wp2
          go_roundw
          case rel => exact ⟨j + 1, m, by omega, by go_num, rfl, hm2, ((KEY.out _ hb2).2 hqm).1, ((KEY.out _ hb2).2 hqm).2⟩
          case measure => simp [intOf]; omega
      | false =>
        rcases hsg with ⟨h45, hk5, hel2⟩ | ⟨hn45, hk5⟩
        · by_cases hj0 : j = 0
          · have e1 : ag' = false := by rw [← hag']; simp [hj0]
            subst e1
            have q45 : (sg == 45) = true := by rw [h45]; rfl
            have qj : ((j : Int) == 1) = false := by rw [beq_eq_false_iff_ne]; omega
            clear hag' h45 hj0 hk5 hel2
            go_upto_region 11 with fail
            refine wp_region_held_drew (S := fun u => (u.cell? ⟨w.heap.size, 0, none⟩ = some (.int .u8 sg) ∧ u.cell? ⟨w.heap.size, 3, none⟩ = some (.slice (some ⟨g, 0, none⟩) el c)) ∧ u.cell? ⟨g, j, none⟩ = some (.int .i64 (pj : Int))) (by kernel_rfl) ⟨⟨e0, e3⟩, cp⟩ (fun hS => ?_)
            refine wpAnyH_take (i := 0) (v := .pointer (some ⟨P, 0, none⟩)) rfl (by kernel_rfl) (by kernel_rfl) (by kernel_rfl) (fun _ _ _ h => h) (Or.inl ⟨by rfl, fun u _ => BigFrame.run_move (.tmp 0) rfl u⟩) hS ?_
            simp only [Act.put, List.getElem_toArray, List.getElem_cons_zero, List.setIfInBounds_toArray, List.set_cons_zero, List.set_cons_succ]
            refine wpAnyH_take (i := 1) (v := .int .i64 (a : Int)) rfl (by kernel_rfl) (by kernel_rfl) (by kernel_rfl) (fun _ _ _ h => h) (Or.inl ⟨by rfl, fun u _ => BigFrame.run_move (.tmp 1) rfl u⟩) hS ?_
            simp only [Act.put, List.getElem_toArray, List.getElem_cons_succ, List.getElem_cons_zero, List.setIfInBounds_toArray, List.set_cons_zero, List.set_cons_succ]
            refine wpAnyH_take (i := 2) (v := .pointer (some ⟨w.heap.size, 3, none⟩)) rfl (by kernel_rfl) (by kernel_rfl) (by kernel_rfl) (fun _ _ _ h => h) (Or.inl ⟨by rfl, by intro u hSu; obtain ⟨⟨s0, s3⟩, sp⟩ := hSu; simp only [List.getElem_toArray, List.getElem_cons_succ, List.getElem_cons_zero]; go_simp⟩) hS ?_
            simp only [Act.put, List.getElem_toArray, List.getElem_cons_succ, List.getElem_cons_zero, List.setIfInBounds_toArray, List.set_cons_zero, List.set_cons_succ]
            refine wpAnyH_take (i := 3) (v := .slice (some ⟨g, 0, none⟩) el c) rfl (by kernel_rfl) (by kernel_rfl) (by kernel_rfl) (fun _ _ _ h => h) (Or.inl ⟨by rfl, by intro u hSu; obtain ⟨⟨s0, s3⟩, sp⟩ := hSu; simp only [List.getElem_toArray, List.getElem_cons_succ, List.getElem_cons_zero]; go_simp⟩) hS ?_
            simp only [Act.put, List.getElem_toArray, List.getElem_cons_succ, List.getElem_cons_zero, List.setIfInBounds_toArray, List.set_cons_zero, List.set_cons_succ]
            refine wpAnyH_take (i := 4) (v := .int .i64 (j : Int)) rfl (by kernel_rfl) (by kernel_rfl) (by kernel_rfl) (fun _ _ _ h => h) (Or.inl ⟨by rfl, fun u _ => BigFrame.run_move (.tmp 14) rfl u⟩) hS ?_
            simp only [Act.put, List.getElem_toArray, List.getElem_cons_succ, List.getElem_cons_zero, List.setIfInBounds_toArray, List.set_cons_zero, List.set_cons_succ]
            refine wpAnyH_take (i := 5) (v := .pointer (some ⟨g, j, none⟩)) rfl (by kernel_rfl) (by kernel_rfl) (by kernel_rfl) (fun _ _ _ h => h) (Or.inl ⟨by rfl, by intro u hSu; obtain ⟨⟨s0, s3⟩, sp⟩ := hSu; simp only [List.getElem_toArray, List.getElem_cons_succ, List.getElem_cons_zero]; go_simp⟩) hS ?_
            simp only [Act.put, List.getElem_toArray, List.getElem_cons_succ, List.getElem_cons_zero, List.setIfInBounds_toArray, List.set_cons_zero, List.set_cons_succ]
            refine wpAnyH_take (i := 6) (v := .int .i64 (pj : Int)) rfl (by kernel_rfl) (by kernel_rfl) (by kernel_rfl) (fun _ _ _ h => h) (Or.inl ⟨by rfl, by intro u hSu; obtain ⟨⟨s0, s3⟩, sp⟩ := hSu; simp only [List.getElem_toArray, List.getElem_cons_succ, List.getElem_cons_zero]; go_simp⟩) hS ?_
            simp only [Act.put, List.getElem_toArray, List.getElem_cons_succ, List.getElem_cons_zero, List.setIfInBounds_toArray, List.set_cons_zero, List.set_cons_succ]
            refine wpAnyH_take (i := 7) (v := .int .i64 (b : Int)) rfl (by kernel_rfl) (by kernel_rfl) (by kernel_rfl) (fun _ _ _ h => h) (Or.inl ⟨by rfl, fun u _ => BigFrame.run_move (.tmp 3) rfl u⟩) hS ?_
            simp only [Act.put, List.getElem_toArray, List.getElem_cons_succ, List.getElem_cons_zero, List.setIfInBounds_toArray, List.set_cons_zero, List.set_cons_succ]
            refine wpAnyH_take (i := 8) (v := .bool false) rfl (by kernel_rfl) (by kernel_rfl) (by kernel_rfl) (fun _ _ _ h => h) (Or.inl ⟨by rfl, fun u _ => BigFrame.run_move (.tmp 4) rfl u⟩) hS ?_
            simp only [Act.put, List.getElem_toArray, List.getElem_cons_succ, List.getElem_cons_zero, List.setIfInBounds_toArray, List.set_cons_zero, List.set_cons_succ]
            refine wpAnyH_take (i := 9) (v := .bool false) rfl (by kernel_rfl) (by kernel_rfl) (by kernel_rfl) (fun _ _ _ h => h) (Or.inl ⟨by rfl, fun u _ => BigFrame.run_move (.tmp 108) rfl u⟩) hS ?_
            simp only [Act.put, List.getElem_toArray, List.getElem_cons_succ, List.getElem_cons_zero, List.setIfInBounds_toArray, List.set_cons_zero, List.set_cons_succ]
            refine wpAnyH_take (i := 10) (v := .pointer (some ⟨w.heap.size, 0, none⟩)) rfl (by kernel_rfl) (by kernel_rfl) (by kernel_rfl) (fun _ _ _ h => h) (Or.inl ⟨by rfl, by intro u hSu; obtain ⟨⟨s0, s3⟩, sp⟩ := hSu; simp only [List.getElem_toArray, List.getElem_cons_succ, List.getElem_cons_zero]; go_simp⟩) hS ?_
            simp only [Act.put, List.getElem_toArray, List.getElem_cons_succ, List.getElem_cons_zero, List.setIfInBounds_toArray, List.set_cons_zero, List.set_cons_succ]
            refine wpAnyH_take (i := 11) (v := .int .u8 sg) rfl (by kernel_rfl) (by kernel_rfl) (by kernel_rfl) (fun _ _ _ h => h) (Or.inl ⟨by rfl, by intro u hSu; obtain ⟨⟨s0, s3⟩, sp⟩ := hSu; simp only [List.getElem_toArray, List.getElem_cons_succ, List.getElem_cons_zero]; go_simp⟩) hS ?_
            simp only [Act.put, List.getElem_toArray, List.getElem_cons_succ, List.getElem_cons_zero, List.setIfInBounds_toArray, List.set_cons_zero, List.set_cons_succ]
            refine wpAnyH_take (i := 12) (v := .bool true) rfl (by kernel_rfl) (by kernel_rfl) (by kernel_rfl) (fun _ _ _ h => h) (Or.inl ⟨by rfl, by intro u hSu; obtain ⟨⟨s0, s3⟩, sp⟩ := hSu; simp only [List.getElem_toArray, List.getElem_cons_succ, List.getElem_cons_zero]; go_simp⟩) hS ?_
            simp only [Act.put, List.getElem_toArray, List.getElem_cons_succ, List.getElem_cons_zero, List.setIfInBounds_toArray, List.set_cons_zero, List.set_cons_succ]
            refine wpAnyH_take (i := 13) (v := .bool true) rfl (by kernel_rfl) (by kernel_rfl) (by kernel_rfl) (fun _ _ _ h => h) (Or.inl ⟨by rfl, fun u _ => BigFrame.run_move (.tmp 112) rfl u⟩) hS ?_
            simp only [Act.put, List.getElem_toArray, List.getElem_cons_succ, List.getElem_cons_zero, List.setIfInBounds_toArray, List.set_cons_zero, List.set_cons_succ]
            refine wpAnyH_take (i := 14) (v := .int .i64 (j : Int)) rfl (by kernel_rfl) (by kernel_rfl) (by kernel_rfl) (fun _ _ _ h => h) (Or.inl ⟨by rfl, fun u _ => BigFrame.run_move (.tmp 14) rfl u⟩) hS ?_
            simp only [Act.put, List.getElem_toArray, List.getElem_cons_succ, List.getElem_cons_zero, List.setIfInBounds_toArray, List.set_cons_zero, List.set_cons_succ]
            refine wpAnyH_take (i := 15) (v := .bool false) rfl (by kernel_rfl) (by kernel_rfl) (by kernel_rfl) (fun _ _ _ h => h) (Or.inl ⟨by rfl, by intro u hSu; obtain ⟨⟨s0, s3⟩, sp⟩ := hSu; simp only [List.getElem_toArray, List.getElem_cons_succ, List.getElem_cons_zero]; go_simp⟩) hS ?_
            simp only [Act.put, List.getElem_toArray, List.getElem_cons_succ, List.getElem_cons_zero, List.setIfInBounds_toArray, List.set_cons_zero, List.set_cons_succ]
            refine wpAnyH_take (i := 16) (v := .bool false) rfl (by kernel_rfl) (by kernel_rfl) (by kernel_rfl) (fun _ _ _ h => h) (Or.inl ⟨by rfl, by intro u hSu; obtain ⟨⟨s0, s3⟩, sp⟩ := hSu; simp only [List.getElem_toArray, List.getElem_cons_succ, List.getElem_cons_zero]; go_simp⟩) hS ?_
            simp only [Act.put, List.getElem_toArray, List.getElem_cons_succ, List.getElem_cons_zero, List.setIfInBounds_toArray, List.set_cons_zero, List.set_cons_succ]
            refine wpAnyH_take (i := 17) (v := .bool false) rfl (by kernel_rfl) (by kernel_rfl) (by kernel_rfl) (fun _ _ _ h => h) (Or.inl ⟨by rfl, by intro u hSu; obtain ⟨⟨s0, s3⟩, sp⟩ := hSu; simp only [List.getElem_toArray, List.getElem_cons_succ, List.getElem_cons_zero]; go_simp⟩) hS ?_
            simp only [Act.put, List.getElem_toArray, List.getElem_cons_succ, List.getElem_cons_zero, List.setIfInBounds_toArray, List.set_cons_zero, List.set_cons_succ]
            refine wpAnyH_ready (rs := [18]) (by kernel_rfl) (by simp) ?_
            refine AllReadyH.cons rfl (fun K' hK => ?_) AllReadyH.nil
            rw [if_pos (by rfl)]
            simp only [List.getElem_toArray, List.getElem_cons_succ, List.getElem_cons_zero]
            go_simp
            refine (HI2.out _ ((Below.refl _ _).drew)).mono ?_
            rintro e w' ⟨rfl, hb2⟩
            refine hK.out _ _ (HKp.out _ _ ((Below.refl _ _).drew) hb2) (fun hS => ?_)
            refine wpAnyH_take (i := 19) (v := .int .i64 (q : Int)) rfl (by kernel_rfl) (by kernel_rfl) (by kernel_rfl) (fun _ _ _ h => h) (Or.inl ⟨by rfl, fun u _ => BigFrame.run_assign (.tmp 118) rfl u⟩) hS ?_
            simp only [Act.put, List.getElem_toArray, List.getElem_cons_succ, List.getElem_cons_zero, List.setIfInBounds_toArray, List.set_cons_zero, List.set_cons_succ]
            refine wpAnyH_done (by kernel_rfl) ?_ _
            by_cases hqm : m < q
            · have hqm' : (m : Int) < (q : Int) := by omega
              go_wp2
              go_roundw
              case rel => exact ⟨j + 1, q, by omega, by go_num, rfl, hqle, ((KEY.out _ hb2).1 hqm).1, ((KEY.out _ hb2).1 hqm).2⟩
              case measure => simp [intOf]; omega
            · have hqm' : ¬ (m : Int) < (q : Int) := by omega
              go_wp2
              go_roundw
              case rel => exact ⟨j + 1, m, by omega, by go_num, rfl, hm2, ((KEY.out _ hb2).2 hqm).1, ((KEY.out _ hb2).2 hqm).2⟩
              case measure => simp [intOf]; omega
          · have e1 : ag' = true := by rw [← hag', hk5]; simp; omega
            subst e1
            have q45 : (sg == 45) = true := by rw [h45]; rfl
            have qj : ((j : Int) == 1) = true := by rw [beq_iff_eq]; omega
            clear hag' h45 hk5 hel2
            go_upto_region 11 with fail
            refine wp_region_held_drew (S := fun u => (u.cell? ⟨w.heap.size, 0, none⟩ = some (.int .u8 sg) ∧ u.cell? ⟨w.heap.size, 3, none⟩ = some (.slice (some ⟨g, 0, none⟩) el c)) ∧ u.cell? ⟨g, j, none⟩ = some (.int .i64 (pj : Int))) (by kernel_rfl) ⟨⟨e0, e3⟩, cp⟩ (fun hS => ?_)
            refine wpAnyH_take (i := 0) (v := .pointer (some ⟨P, 0, none⟩)) rfl (by kernel_rfl) (by kernel_rfl) (by kernel_rfl) (fun _ _ _ h => h) (Or.inl ⟨by rfl, fun u _ => BigFrame.run_move (.tmp 0) rfl u⟩) hS ?_
            simp only [Act.put, List.getElem_toArray, List.getElem_cons_zero, List.setIfInBounds_toArray, List.set_cons_zero, List.set_cons_succ]
            refine wpAnyH_take (i := 1) (v := .int .i64 (a : Int)) rfl (by kernel_rfl) (by kernel_rfl) (by kernel_rfl) (fun _ _ _ h => h) (Or.inl ⟨by rfl, fun u _ => BigFrame.run_move (.tmp 1) rfl u⟩) hS ?_
            simp only [Act.put, List.getElem_toArray, List.getElem_cons_succ, List.getElem_cons_zero, List.setIfInBounds_toArray, List.set_cons_zero, List.set_cons_succ]
            refine wpAnyH_take (i := 2) (v := .pointer (some ⟨w.heap.size, 3, none⟩)) rfl (by kernel_rfl) (by kernel_rfl) (by kernel_rfl) (fun _ _ _ h => h) (Or.inl ⟨by rfl, by intro u hSu; obtain ⟨⟨s0, s3⟩, sp⟩ := hSu; simp only [List.getElem_toArray, List.getElem_cons_succ, List.getElem_cons_zero]; go_simp⟩) hS ?_
            simp only [Act.put, List.getElem_toArray, List.getElem_cons_succ, List.getElem_cons_zero, List.setIfInBounds_toArray, List.set_cons_zero, List.set_cons_succ]
            refine wpAnyH_take (i := 3) (v := .slice (some ⟨g, 0, none⟩) el c) rfl (by kernel_rfl) (by kernel_rfl) (by kernel_rfl) (fun _ _ _ h => h) (Or.inl ⟨by rfl, by intro u hSu; obtain ⟨⟨s0, s3⟩, sp⟩ := hSu; simp only [List.getElem_toArray, List.getElem_cons_succ, List.getElem_cons_zero]; go_simp⟩) hS ?_
            simp only [Act.put, List.getElem_toArray, List.getElem_cons_succ, List.getElem_cons_zero, List.setIfInBounds_toArray, List.set_cons_zero, List.set_cons_succ]
            refine wpAnyH_take (i := 4) (v := .int .i64 (j : Int)) rfl (by kernel_rfl) (by kernel_rfl) (by kernel_rfl) (fun _ _ _ h => h) (Or.inl ⟨by rfl, fun u _ => BigFrame.run_move (.tmp 14) rfl u⟩) hS ?_
            simp only [Act.put, List.getElem_toArray, List.getElem_cons_succ, List.getElem_cons_zero, List.setIfInBounds_toArray, List.set_cons_zero, List.set_cons_succ]
            refine wpAnyH_take (i := 5) (v := .pointer (some ⟨g, j, none⟩)) rfl (by kernel_rfl) (by kernel_rfl) (by kernel_rfl) (fun _ _ _ h => h) (Or.inl ⟨by rfl, by intro u hSu; obtain ⟨⟨s0, s3⟩, sp⟩ := hSu; simp only [List.getElem_toArray, List.getElem_cons_succ, List.getElem_cons_zero]; go_simp⟩) hS ?_
            simp only [Act.put, List.getElem_toArray, List.getElem_cons_succ, List.getElem_cons_zero, List.setIfInBounds_toArray, List.set_cons_zero, List.set_cons_succ]
            refine wpAnyH_take (i := 6) (v := .int .i64 (pj : Int)) rfl (by kernel_rfl) (by kernel_rfl) (by kernel_rfl) (fun _ _ _ h => h) (Or.inl ⟨by rfl, by intro u hSu; obtain ⟨⟨s0, s3⟩, sp⟩ := hSu; simp only [List.getElem_toArray, List.getElem_cons_succ, List.getElem_cons_zero]; go_simp⟩) hS ?_
            simp only [Act.put, List.getElem_toArray, List.getElem_cons_succ, List.getElem_cons_zero, List.setIfInBounds_toArray, List.set_cons_zero, List.set_cons_succ]
            refine wpAnyH_take (i := 7) (v := .int .i64 (b : Int)) rfl (by kernel_rfl) (by kernel_rfl) (by kernel_rfl) (fun _ _ _ h => h) (Or.inl ⟨by rfl, fun u _ => BigFrame.run_move (.tmp 3) rfl u⟩) hS ?_
            simp only [Act.put, List.getElem_toArray, List.getElem_cons_succ, List.getElem_cons_zero, List.setIfInBounds_toArray, List.set_cons_zero, List.set_cons_succ]
            refine wpAnyH_take (i := 8) (v := .bool false) rfl (by kernel_rfl) (by kernel_rfl) (by kernel_rfl) (fun _ _ _ h => h) (Or.inl ⟨by rfl, fun u _ => BigFrame.run_move (.tmp 4) rfl u⟩) hS ?_
            simp only [Act.put, List.getElem_toArray, List.getElem_cons_succ, List.getElem_cons_zero, List.setIfInBounds_toArray, List.set_cons_zero, List.set_cons_succ]
            refine wpAnyH_take (i := 9) (v := .bool false) rfl (by kernel_rfl) (by kernel_rfl) (by kernel_rfl) (fun _ _ _ h => h) (Or.inl ⟨by rfl, fun u _ => BigFrame.run_move (.tmp 108) rfl u⟩) hS ?_
            simp only [Act.put, List.getElem_toArray, List.getElem_cons_succ, List.getElem_cons_zero, List.setIfInBounds_toArray, List.set_cons_zero, List.set_cons_succ]
            refine wpAnyH_take (i := 10) (v := .pointer (some ⟨w.heap.size, 0, none⟩)) rfl (by kernel_rfl) (by kernel_rfl) (by kernel_rfl) (fun _ _ _ h => h) (Or.inl ⟨by rfl, by intro u hSu; obtain ⟨⟨s0, s3⟩, sp⟩ := hSu; simp only [List.getElem_toArray, List.getElem_cons_succ, List.getElem_cons_zero]; go_simp⟩) hS ?_
            simp only [Act.put, List.getElem_toArray, List.getElem_cons_succ, List.getElem_cons_zero, List.setIfInBounds_toArray, List.set_cons_zero, List.set_cons_succ]
            refine wpAnyH_take (i := 11) (v := .int .u8 sg) rfl (by kernel_rfl) (by kernel_rfl) (by kernel_rfl) (fun _ _ _ h => h) (Or.inl ⟨by rfl, by intro u hSu; obtain ⟨⟨s0, s3⟩, sp⟩ := hSu; simp only [List.getElem_toArray, List.getElem_cons_succ, List.getElem_cons_zero]; go_simp⟩) hS ?_
            simp only [Act.put, List.getElem_toArray, List.getElem_cons_succ, List.getElem_cons_zero, List.setIfInBounds_toArray, List.set_cons_zero, List.set_cons_succ]
            refine wpAnyH_take (i := 12) (v := .bool true) rfl (by kernel_rfl) (by kernel_rfl) (by kernel_rfl) (fun _ _ _ h => h) (Or.inl ⟨by rfl, by intro u hSu; obtain ⟨⟨s0, s3⟩, sp⟩ := hSu; simp only [List.getElem_toArray, List.getElem_cons_succ, List.getElem_cons_zero]; go_simp⟩) hS ?_
            simp only [Act.put, List.getElem_toArray, List.getElem_cons_succ, List.getElem_cons_zero, List.setIfInBounds_toArray, List.set_cons_zero, List.set_cons_succ]
            refine wpAnyH_take (i := 13) (v := .bool true) rfl (by kernel_rfl) (by kernel_rfl) (by kernel_rfl) (fun _ _ _ h => h) (Or.inl ⟨by rfl, fun u _ => BigFrame.run_move (.tmp 112) rfl u⟩) hS ?_
            simp only [Act.put, List.getElem_toArray, List.getElem_cons_succ, List.getElem_cons_zero, List.setIfInBounds_toArray, List.set_cons_zero, List.set_cons_succ]
            refine wpAnyH_take (i := 14) (v := .int .i64 (j : Int)) rfl (by kernel_rfl) (by kernel_rfl) (by kernel_rfl) (fun _ _ _ h => h) (Or.inl ⟨by rfl, fun u _ => BigFrame.run_move (.tmp 14) rfl u⟩) hS ?_
            simp only [Act.put, List.getElem_toArray, List.getElem_cons_succ, List.getElem_cons_zero, List.setIfInBounds_toArray, List.set_cons_zero, List.set_cons_succ]
            refine wpAnyH_take (i := 15) (v := .bool true) rfl (by kernel_rfl) (by kernel_rfl) (by kernel_rfl) (fun _ _ _ h => h) (Or.inl ⟨by rfl, by intro u hSu; obtain ⟨⟨s0, s3⟩, sp⟩ := hSu; simp only [List.getElem_toArray, List.getElem_cons_succ, List.getElem_cons_zero]; go_simp⟩) hS ?_
            simp only [Act.put, List.getElem_toArray, List.getElem_cons_succ, List.getElem_cons_zero, List.setIfInBounds_toArray, List.set_cons_zero, List.set_cons_succ]
            refine wpAnyH_take (i := 16) (v := .bool true) rfl (by kernel_rfl) (by kernel_rfl) (by kernel_rfl) (fun _ _ _ h => h) (Or.inl ⟨by rfl, by intro u hSu; obtain ⟨⟨s0, s3⟩, sp⟩ := hSu; simp only [List.getElem_toArray, List.getElem_cons_succ, List.getElem_cons_zero]; go_simp⟩) hS ?_
            simp only [Act.put, List.getElem_toArray, List.getElem_cons_succ, List.getElem_cons_zero, List.setIfInBounds_toArray, List.set_cons_zero, List.set_cons_succ]
            refine wpAnyH_take (i := 17) (v := .bool true) rfl (by kernel_rfl) (by kernel_rfl) (by kernel_rfl) (fun _ _ _ h => h) (Or.inl ⟨by rfl, by intro u hSu; obtain ⟨⟨s0, s3⟩, sp⟩ := hSu; simp only [List.getElem_toArray, List.getElem_cons_succ, List.getElem_cons_zero]; go_simp⟩) hS ?_
            simp only [Act.put, List.getElem_toArray, List.getElem_cons_succ, List.getElem_cons_zero, List.setIfInBounds_toArray, List.set_cons_zero, List.set_cons_succ]
            refine wpAnyH_ready (rs := [18]) (by kernel_rfl) (by simp) ?_
            refine AllReadyH.cons rfl (fun K' hK => ?_) AllReadyH.nil
            rw [if_pos (by rfl)]
            simp only [List.getElem_toArray, List.getElem_cons_succ, List.getElem_cons_zero]
            go_simp
            refine (HI2.out _ ((Below.refl _ _).drew)).mono ?_
            rintro e w' ⟨rfl, hb2⟩
            refine hK.out _ _ (HKp.out _ _ ((Below.refl _ _).drew) hb2) (fun hS => ?_)
            refine wpAnyH_take (i := 19) (v := .int .i64 (q : Int)) rfl (by kernel_rfl) (by kernel_rfl) (by kernel_rfl) (fun _ _ _ h => h) (Or.inl ⟨by rfl, fun u _ => BigFrame.run_assign (.tmp 118) rfl u⟩) hS ?_
            simp only [Act.put, List.getElem_toArray, List.getElem_cons_succ, List.getElem_cons_zero, List.setIfInBounds_toArray, List.set_cons_zero, List.set_cons_succ]
            refine wpAnyH_done (by kernel_rfl) ?_ _
            by_cases hqm : m < q
            · have hqm' : (m : Int) < (q : Int) := by omega
              go_wp2
              go_roundw
              case rel => exact ⟨j + 1, q, by omega, by go_num, rfl, hqle, ((KEY.out _ hb2).1 hqm).1, ((KEY.out _ hb2).1 hqm).2⟩
              case measure => simp [intOf]; omega
            · have hqm' : ¬ (m : Int) < (q : Int) := by omega
              go_wp2
              go_roundw
              case rel => exact ⟨j + 1, m, by omega, by go_num, rfl, hm2, ((KEY.out _ hb2).2 hqm).1, ((KEY.out _ hb2).2 hqm).2⟩
              case measure => simp [intOf]; omega
        · have e1 : ag' = false := by rw [← hag']; simp [hk5]
          subst e1
          have q45 : (sg == 45) = false := by rw [beq_eq_false_iff_ne]; exact hn45
          clear hag'
          go_upto_region 11 with fail
          refine wp_region_held_drew (S := fun u => (u.cell? ⟨w.heap.size, 0, none⟩ = some (.int .u8 sg) ∧ u.cell? ⟨w.heap.size, 3, none⟩ = some (.slice (some ⟨g, 0, none⟩) el c)) ∧ u.cell? ⟨g, j, none⟩ = some (.int .i64 (pj : Int))) (by kernel_rfl) ⟨⟨e0, e3⟩, cp⟩ (fun hS => ?_)
          refine wpAnyH_take (i := 0) (v := .pointer (some ⟨P, 0, none⟩)) rfl (by kernel_rfl) (by kernel_rfl) (by kernel_rfl) (fun _ _ _ h => h) (Or.inl ⟨by rfl, fun u _ => BigFrame.run_move (.tmp 0) rfl u⟩) hS ?_
          simp only [Act.put, List.getElem_toArray, List.getElem_cons_zero, List.setIfInBounds_toArray, List.set_cons_zero, List.set_cons_succ]
          refine wpAnyH_take (i := 1) (v := .int .i64 (a : Int)) rfl (by kernel_rfl) (by kernel_rfl) (by kernel_rfl) (fun _ _ _ h => h) (Or.inl ⟨by rfl, fun u _ => BigFrame.run_move (.tmp 1) rfl u⟩) hS ?_
          simp only [Act.put, List.getElem_toArray, List.getElem_cons_succ, List.getElem_cons_zero, List.setIfInBounds_toArray, List.set_cons_zero, List.set_cons_succ]
          refine wpAnyH_take (i := 2) (v := .pointer (some ⟨w.heap.size, 3, none⟩)) rfl (by kernel_rfl) (by kernel_rfl) (by kernel_rfl) (fun _ _ _ h => h) (Or.inl ⟨by rfl, by intro u hSu; obtain ⟨⟨s0, s3⟩, sp⟩ := hSu; simp only [List.getElem_toArray, List.getElem_cons_succ, List.getElem_cons_zero]; go_simp⟩) hS ?_
          simp only [Act.put, List.getElem_toArray, List.getElem_cons_succ, List.getElem_cons_zero, List.setIfInBounds_toArray, List.set_cons_zero, List.set_cons_succ]
          refine wpAnyH_take (i := 3) (v := .slice (some ⟨g, 0, none⟩) el c) rfl (by kernel_rfl) (by kernel_rfl) (by kernel_rfl) (fun _ _ _ h => h) (Or.inl ⟨by rfl, by intro u hSu; obtain ⟨⟨s0, s3⟩, sp⟩ := hSu; simp only [List.getElem_toArray, List.getElem_cons_succ, List.getElem_cons_zero]; go_simp⟩) hS ?_
          simp only [Act.put, List.getElem_toArray, List.getElem_cons_succ, List.getElem_cons_zero, List.setIfInBounds_toArray, List.set_cons_zero, List.set_cons_succ]
          refine wpAnyH_take (i := 4) (v := .int .i64 (j : Int)) rfl (by kernel_rfl) (by kernel_rfl) (by kernel_rfl) (fun _ _ _ h => h) (Or.inl ⟨by rfl, fun u _ => BigFrame.run_move (.tmp 14) rfl u⟩) hS ?_
          simp only [Act.put, List.getElem_toArray, List.getElem_cons_succ, List.getElem_cons_zero, List.setIfInBounds_toArray, List.set_cons_zero, List.set_cons_succ]
          refine wpAnyH_take (i := 5) (v := .pointer (some ⟨g, j, none⟩)) rfl (by kernel_rfl) (by kernel_rfl) (by kernel_rfl) (fun _ _ _ h => h) (Or.inl ⟨by rfl, by intro u hSu; obtain ⟨⟨s0, s3⟩, sp⟩ := hSu; simp only [List.getElem_toArray, List.getElem_cons_succ, List.getElem_cons_zero]; go_simp⟩) hS ?_
          simp only [Act.put, List.getElem_toArray, List.getElem_cons_succ, List.getElem_cons_zero, List.setIfInBounds_toArray, List.set_cons_zero, List.set_cons_succ]
          refine wpAnyH_take (i := 6) (v := .int .i64 (pj : Int)) rfl (by kernel_rfl) (by kernel_rfl) (by kernel_rfl) (fun _ _ _ h => h) (Or.inl ⟨by rfl, by intro u hSu; obtain ⟨⟨s0, s3⟩, sp⟩ := hSu; simp only [List.getElem_toArray, List.getElem_cons_succ, List.getElem_cons_zero]; go_simp⟩) hS ?_
          simp only [Act.put, List.getElem_toArray, List.getElem_cons_succ, List.getElem_cons_zero, List.setIfInBounds_toArray, List.set_cons_zero, List.set_cons_succ]
          refine wpAnyH_take (i := 7) (v := .int .i64 (b : Int)) rfl (by kernel_rfl) (by kernel_rfl) (by kernel_rfl) (fun _ _ _ h => h) (Or.inl ⟨by rfl, fun u _ => BigFrame.run_move (.tmp 3) rfl u⟩) hS ?_
          simp only [Act.put, List.getElem_toArray, List.getElem_cons_succ, List.getElem_cons_zero, List.setIfInBounds_toArray, List.set_cons_zero, List.set_cons_succ]
          refine wpAnyH_take (i := 8) (v := .bool false) rfl (by kernel_rfl) (by kernel_rfl) (by kernel_rfl) (fun _ _ _ h => h) (Or.inl ⟨by rfl, fun u _ => BigFrame.run_move (.tmp 4) rfl u⟩) hS ?_
          simp only [Act.put, List.getElem_toArray, List.getElem_cons_succ, List.getElem_cons_zero, List.setIfInBounds_toArray, List.set_cons_zero, List.set_cons_succ]
          refine wpAnyH_take (i := 9) (v := .bool false) rfl (by kernel_rfl) (by kernel_rfl) (by kernel_rfl) (fun _ _ _ h => h) (Or.inl ⟨by rfl, fun u _ => BigFrame.run_move (.tmp 108) rfl u⟩) hS ?_
          simp only [Act.put, List.getElem_toArray, List.getElem_cons_succ, List.getElem_cons_zero, List.setIfInBounds_toArray, List.set_cons_zero, List.set_cons_succ]
          refine wpAnyH_take (i := 10) (v := .pointer (some ⟨w.heap.size, 0, none⟩)) rfl (by kernel_rfl) (by kernel_rfl) (by kernel_rfl) (fun _ _ _ h => h) (Or.inl ⟨by rfl, by intro u hSu; obtain ⟨⟨s0, s3⟩, sp⟩ := hSu; simp only [List.getElem_toArray, List.getElem_cons_succ, List.getElem_cons_zero]; go_simp⟩) hS ?_
          simp only [Act.put, List.getElem_toArray, List.getElem_cons_succ, List.getElem_cons_zero, List.setIfInBounds_toArray, List.set_cons_zero, List.set_cons_succ]
          refine wpAnyH_take (i := 11) (v := .int .u8 sg) rfl (by kernel_rfl) (by kernel_rfl) (by kernel_rfl) (fun _ _ _ h => h) (Or.inl ⟨by rfl, by intro u hSu; obtain ⟨⟨s0, s3⟩, sp⟩ := hSu; simp only [List.getElem_toArray, List.getElem_cons_succ, List.getElem_cons_zero]; go_simp⟩) hS ?_
          simp only [Act.put, List.getElem_toArray, List.getElem_cons_succ, List.getElem_cons_zero, List.setIfInBounds_toArray, List.set_cons_zero, List.set_cons_succ]
          refine wpAnyH_take (i := 12) (v := .bool false) rfl (by kernel_rfl) (by kernel_rfl) (by kernel_rfl) (fun _ _ _ h => h) (Or.inl ⟨by rfl, by intro u hSu; obtain ⟨⟨s0, s3⟩, sp⟩ := hSu; simp only [List.getElem_toArray, List.getElem_cons_succ, List.getElem_cons_zero]; go_simp⟩) hS ?_
          simp only [Act.put, List.getElem_toArray, List.getElem_cons_succ, List.getElem_cons_zero, List.setIfInBounds_toArray, List.set_cons_zero, List.set_cons_succ]
          refine wpAnyH_take (i := 13) (v := .bool false) rfl (by kernel_rfl) (by kernel_rfl) (by kernel_rfl) (fun _ _ _ h => h) (Or.inl ⟨by rfl, fun u _ => BigFrame.run_move (.tmp 112) rfl u⟩) hS ?_
          simp only [Act.put, List.getElem_toArray, List.getElem_cons_succ, List.getElem_cons_zero, List.setIfInBounds_toArray, List.set_cons_zero, List.set_cons_succ]
          refine wpAnyH_take (i := 14) (v := undef) rfl (by kernel_rfl) (by kernel_rfl) (by kernel_rfl) (fun _ _ _ h => h) (Or.inr ⟨by rfl, rfl⟩) hS ?_
          simp only [Act.put, List.getElem_toArray, List.getElem_cons_succ, List.getElem_cons_zero, List.setIfInBounds_toArray, List.set_cons_zero, List.set_cons_succ]
          refine wpAnyH_take (i := 15) (v := undef) rfl (by kernel_rfl) (by kernel_rfl) (by kernel_rfl) (fun _ _ _ h => h) (Or.inr ⟨by rfl, rfl⟩) hS ?_
          simp only [Act.put, List.getElem_toArray, List.getElem_cons_succ, List.getElem_cons_zero, List.setIfInBounds_toArray, List.set_cons_zero, List.set_cons_succ]
          refine wpAnyH_take (i := 16) (v := .bool false) rfl (by kernel_rfl) (by kernel_rfl) (by kernel_rfl) (fun _ _ _ h => h) (Or.inl ⟨by rfl, by intro u hSu; obtain ⟨⟨s0, s3⟩, sp⟩ := hSu; simp only [List.getElem_toArray, List.getElem_cons_succ, List.getElem_cons_zero]; go_simp⟩) hS ?_
          simp only [Act.put, List.getElem_toArray, List.getElem_cons_succ, List.getElem_cons_zero, List.setIfInBounds_toArray, List.set_cons_zero, List.set_cons_succ]
          refine wpAnyH_take (i := 17) (v := .bool false) rfl (by kernel_rfl) (by kernel_rfl) (by kernel_rfl) (fun _ _ _ h => h) (Or.inl ⟨by rfl, by intro u hSu; obtain ⟨⟨s0, s3⟩, sp⟩ := hSu; simp only [List.getElem_toArray, List.getElem_cons_succ, List.getElem_cons_zero]; go_simp⟩) hS ?_
          simp only [Act.put, List.getElem_toArray, List.getElem_cons_succ, List.getElem_cons_zero, List.setIfInBounds_toArray, List.set_cons_zero, List.set_cons_succ]
          refine wpAnyH_ready (rs := [18]) (by kernel_rfl) (by simp) ?_
          refine AllReadyH.cons rfl (fun K' hK => ?_) AllReadyH.nil
          rw [if_pos (by rfl)]
          simp only [List.getElem_toArray, List.getElem_cons_succ, List.getElem_cons_zero]
          go_simp
          refine (HI2.out _ ((Below.refl _ _).drew)).mono ?_
          rintro e w' ⟨rfl, hb2⟩
          refine hK.out _ _ (HKp.out _ _ ((Below.refl _ _).drew) hb2) (fun hS => ?_)
          refine wpAnyH_take (i := 19) (v := .int .i64 (q : Int)) rfl (by kernel_rfl) (by kernel_rfl) (by kernel_rfl) (fun _ _ _ h => h) (Or.inl ⟨by rfl, fun u _ => BigFrame.run_assign (.tmp 118) rfl u⟩) hS ?_
          simp only [Act.put, List.getElem_toArray, List.getElem_cons_succ, List.getElem_cons_zero, List.setIfInBounds_toArray, List.set_cons_zero, List.set_cons_succ]
          refine wpAnyH_done (by kernel_rfl) ?_ _
          by_cases hqm : m < q
          · have hqm' : (m : Int) < (q : Int) := by omega
            go_wp2
            go_roundw
            case rel => exact ⟨j + 1, q, by omega, by go_num, rfl, hqle, ((KEY.out _ hb2).1 hqm).1, ((KEY.out _ hb2).1 hqm).2⟩
            case measure => simp [intOf]; omega
          · have hqm' : ¬ (m : Int) < (q : Int) := by omega
            go_wp2
            go_roundw
            case rel => exact ⟨j + 1, m, by omega, by go_num, rfl, hm2, ((KEY.out _ hb2).2 hqm).1, ((KEY.out _ hb2).2 hqm).2⟩
            case measure => simp [intOf]; omega
    · have hje : j = es.length := by have := HEL.out; omega
      have HF : Hid (m = hgL f ((Exp.join k es).flat ag)) := by
        show _ = _
        rw [HRes.out, HM.out, hje]
      clear HM HP HI HRes
      go_wp2
      go_ret
      exact ⟨by rw [← HF.out]; rfl, HBW.out _ HBr.out⟩
end Go.Proofs.YtlgodpadcilcaaaDoor
namespace Go.Proofs.YtlgodpadcilcaaaDoor
open Go.ChangeShapes Go.WideShapes Go.ChangeAt Go.RowKit

theorem hangs_all (P a b : Nat) (N : List NV) (rs : List RR) (ha : a < rs.length) (hb : b < rs.length) : ∀ n, n ≤ 100001 → HangOK n P a b N rs (leadsR rs[a] rs[b])
  | 0, _ => fun e ag i w hs _ _ => absurd e.sz_pos (by omega)
  | n + 1, hn => fun e ag i w hs h hT => by
    cases e using Exp.kind with
    | leaf s =>
      have e0 : (Exp.leaf s).flat ag = [(s, ag)] := by simp [Exp.flat]
      rw [e0]
      cases s using Sing.kind with
      | self =>
        simp only [Tree] at hT
        exact hangs_self P a b i ag N rs w h ha hb hT
      | name x =>
        simp only [Tree] at hT
        exact hangs_name P a b i ag N rs x w h ha hb hT
      | via x t =>
        simp only [Tree] at hT
        exact hangs_via P a b i ag N rs x t w h ha hb hT
    | join k es => exact hangs_join n P a b i ag N rs _ (hangs_all P a b N rs ha hb n (by omega)) k es w hs (by omega) h ha hb hT

/-- what a term makes a relation hang on, against the relations themselves -/
theorem leadsR_B {w : World} {P : Nat} {tb rb nb : Option Nat} {N : List NV} {rs : List RR} {st : List Ty} (h : PlanRep w P tb rb nb N rs st) (hok : StOk st) (a b : Nat) (ha : a < rs.length) (hb : b < rs.length) (ha' : a < (relsOf st).length) (hb' : b < (relsOf st).length) (t : Sing) : leadsR rs[a] rs[b] t = leadsB t (relsOf st)[a] (relsOf st)[b] := by
  have hx := h.ok a ha ha'
  have hy := h.ok b hb hb'
  cases t using Sing.kind with
  | self => simp only [leadsR, leadsB]; exact hy.2.2.1
  | name v => simp only [leadsR, leadsB]; rw [relOK_ty hok hx hy, hy.2.1]
  | via v t => simp only [leadsR, leadsB]; rw [hy.2.1]
theorem hangs_will {w : World} {P : Nat} {tb rb nb : Option Nat} {N : List NV} {rs : List RR} {st : List Ty} (h : PlanRep w P tb rb nb N rs st) (hok : StOk st) (a b : Nat) (ha : a < rs.length) (hb : b < rs.length) (ha' : a < (relsOf st).length) (hb' : b < (relsOf st).length) :
    decide (0 < hgL (leadsR rs[a] rs[b]) ((relsOf st)[a].ex.flat false)) = hangB (relsOf st)[a] (relsOf st)[b] ∧ decide (hgL (leadsR rs[a] rs[b]) ((relsOf st)[a].ex.flat false) = 2) = agB (relsOf st)[a] (relsOf st)[b] := by
  have e : leadsR rs[a] rs[b] = fun t => leadsB t (relsOf st)[a] (relsOf st)[b] := funext (leadsR_B h hok a b ha hb ha' hb')
  rw [e, hgL_pos, hgL_two]
  exact ⟨rfl, rfl⟩
end Go.Proofs.YtlgodpadcilcaaaDoor
