import Derived.Test.YtlgodpadcilcaaaDoorP05
namespace Go.Proofs.YtlgodpadcilcaaaDoor
open Go.ChangeShapes Go.WideShapes Go.ChangeAt Go.RowKit

set_option maxHeartbeats 4000000 in
set_option maxRecDepth 100000 in
theorem typeLine_one (Rd S : Nat) (rbT : Option Nat) (zs : List Zt) (st : List Ty) (n : List UInt8) (b o c : Nat) (w : World) (h : PRep w Rd S rbT zs st) (hok : StOk st) (hc : w.cell? ⟨b, o, none⟩ = some (strV n)) (hbR : b ∉ allBlocks Rd S rbT zs) :
    Calls Tryd.prog 24 #[.pointer (some ⟨Rd, 0, none⟩), .slice (some ⟨b, o, none⟩) 1 c] w fun e w' => LAns Rd S rbT zs w (typeS st [n]) e w' := by
  have hbw : b < w.heap.size := World.block_lt_of_cell? w ⟨b, o, none⟩ hc
  obtain ⟨a1, a2, a3, a4⟩ := blocks_apart h.nodup
  have hRd := h.lt Rd mem_Rd
  have hbRd : b ≠ Rd := fun e => hbR (e ▸ mem_Rd)
  have hTS : typeS st [n] = if nameL n = false then (2, st) else if n ∈ st.map (·.nm) then (3, st) else if st.length = 6 then (1, st) else (0, st ++ [⟨n, []⟩]) := rfl
  have hN := fun u => isName_any ⟨n.toArray⟩ u
  have en : (⟨n.toArray⟩ : ByteArray).data.toList = n := rfl
  rw [en] at hN
  have hr0 := h.rd0
  unfold strV at hc
  have hdr : Below w.heap.size w w.drew := (Below.refl _ _).drew
  have hH := HasT_any S (zs.map (·.tv)) ⟨n.toArray⟩ w.drew (h.below hdr).own.list
  have hD : decide ((⟨n.toArray⟩ : ByteArray).data.toList ∈ (zs.map (·.tv)).map (·.key)) = decide (n ∈ st.map (·.nm)) := decide_eq_decide.2 (h.keys n)
  rw [hD] at hH
  clear hD en
  cases hnm : nameL n with
  | false =>
    rw [hnm] at hTS hN
    have HT : Hid (typeS st [n] = (2, st)) := by show _ = _; rw [hTS]; simp
    clear hTS hH
    go_enter Tryd.func24, Tryd.ntmps24
    go_wp2_with (go_at_call 45; refine (hN _).mono ?_; rintro e w' ⟨rfl, rfl⟩)
    go_ret
    rw [HT.out]
    exact LAns.same h (Below.refl _ _)
  | true =>
    rw [hnm] at hTS hN
    rw [if_neg (by simp)] at hTS
    by_cases hin : n ∈ st.map (·.nm)
    · have HT : Hid (typeS st [n] = (3, st)) := by show _ = _; rw [hTS, if_pos hin]
      rw [decide_eq_true hin] at hH
      clear hTS
      go_enter Tryd.func24, Tryd.ntmps24
      go_wp2_with (go_at_call 45; refine (hN _).mono ?_; rintro e w' ⟨rfl, rfl⟩)
      go_region_with (go_at_call 46; refine hH.mono ?_; rintro e w1 ⟨rfl, hb1⟩)
      all_goals go_wp2
      all_goals go_ret
      all_goals rw [HT.out]
      all_goals exact LAns.same h (hdr.trans hb1)
    · rw [if_neg hin] at hTS
      rw [decide_eq_false hin] at hH
      go_enter Tryd.func24, Tryd.ntmps24
      go_wp2_with (go_at_call 45; refine (hN _).mono ?_; rintro e w' ⟨rfl, rfl⟩)
      go_region_with (go_at_call 46; refine hH.mono ?_; rintro e w1 ⟨rfl, hb1⟩)
      all_goals
        have hb1' := hdr.trans hb1
        have h1 := h.below hb1'
        have hLn := LenT_any S (zs.map (·.tv)) w1 h1.own.list
        have hll : (zs.map (·.tv)).length = st.length := by rw [List.length_map]; exact h.length
        rw [hll] at hLn
        have hc1 : w1.cell? ⟨b, o, none⟩ = some (.string ⟨n.toArray⟩) := by rw [hb1'.cell (p := ⟨b, o, none⟩) hbw]; exact hc
        have hs1 := hb1'.size
        have hRd1 : Rd < w1.heap.size := by omega
        have hbw1 : b < w1.heap.size := by omega
        have hr1 := h1.rd0
        obtain ⟨u1, hu1⟩ : ∃ u, w1.cell? ⟨Rd, 1, none⟩ = some (.pointer u) := by
          rcases h1.rd1 with ⟨_, e⟩ | ⟨z, _, _, e⟩
          · exact ⟨_, e⟩
          · exact ⟨_, e⟩
        have hfz1 := h1.frz
        have H0 : Hid _ := h
        have H1 : Hid _ := h1
        clear hH hN hc h1
        by_cases h6 : st.length = 6
        · have HT : Hid (typeS st [n] = (1, st)) := by show _ = _; rw [hTS, if_pos h6]
          rw [h6] at hLn
          clear hTS
          go_wp2_with (go_at_call 14; refine hLn.mono ?_; rintro e w' ⟨rfl, rfl⟩)
          go_ret
          rw [HT.out]
          exact LAns.same H0.out hb1'
        · have HT : Hid (typeS st [n] = (0, st ++ [⟨n, []⟩])) := by show _ = _; rw [hTS, if_neg h6]
          have hq6 : (((st.length : Nat) : Int) == 6) = false := by rw [beq_eq_false_iff_ne]; omega
          clear hTS
          have hfew := hok.few
          generalize st.length = sl at *
          go_upto_region 8 with (go_at_call 14; refine hLn.mono ?_; rintro e w' ⟨rfl, rfl⟩)
          have hal2 : ∀ k, k < w'.heap.size → k ≠ Rd → ((w'.setCell ⟨Rd, 1, none⟩ (.pointer (some ⟨w'.heap.size, 0, none⟩))).alloc (.cells #[.slice none 0 0] 109)).heap[k]? = w'.heap[k]? := fun k hk hkR =>
            (Below.heap_alloc _ _ _ (by simpa using hk)).trans (Below.heap_setCell _ _ _ _ hkR)
          have hsz2 : ((w'.setCell ⟨Rd, 1, none⟩ (.pointer (some ⟨w'.heap.size, 0, none⟩))).alloc (.cells #[.slice none 0 0] 109)).heap.size = w'.heap.size + 1 := by simp
          have k0 : ((w'.setCell ⟨Rd, 1, none⟩ (.pointer (some ⟨w'.heap.size, 0, none⟩))).alloc (.cells #[.slice none 0 0] 109)).cell? ⟨Rd, 0, none⟩ = some (.pointer (some ⟨S, 0, none⟩)) := by
            rw [World.cell?_alloc_lt _ _ _ (by simpa using hRd1), cell_set_ne (by decide)]; exact hr1
          have k1 : ((w'.setCell ⟨Rd, 1, none⟩ (.pointer (some ⟨w'.heap.size, 0, none⟩))).alloc (.cells #[.slice none 0 0] 109)).cell? ⟨Rd, 1, none⟩ = some (.pointer (some ⟨w'.heap.size, 0, none⟩)) := by
            rw [World.cell?_alloc_lt _ _ _ (by simpa using hRd1), World.cell?_setCell_same' _ _ _ (by rw [hu1]; rfl)]
          have k2 : ((w'.setCell ⟨Rd, 1, none⟩ (.pointer (some ⟨w'.heap.size, 0, none⟩))).alloc (.cells #[.slice none 0 0] 109)).cell? ⟨b, o, none⟩ = some (.string ⟨n.toArray⟩) := by
            rw [World.cell?_alloc_lt _ _ _ (by simpa using hbw1), cell_set_far hbRd]; exact hc1
          have k3 : ((w'.setCell ⟨Rd, 1, none⟩ (.pointer (some ⟨w'.heap.size, 0, none⟩))).alloc (.cells #[.slice none 0 0] 109)).cell? ⟨w'.heap.size, 0, none⟩ = some (.slice none 0 0) := by
            have := World.cell?_alloc_new (w'.setCell ⟨Rd, 1, none⟩ (.pointer (some ⟨w'.heap.size, 0, none⟩))) #[.slice none 0 0] 109 0
            rw [World.size_setCell] at this
            exact this
          have k4 : ∀ q j, ((w'.setCell ⟨Rd, 1, none⟩ (.pointer (some ⟨w'.heap.size, 0, none⟩))).alloc (.cells #[.slice none 0 0] 109)).frozen? ⟨q, j, none⟩ = w'.frozen? ⟨q, j, none⟩ := fun q j => by
            rw [frozen?_alloc_cells, World.frozen?_setCell]
          have k5 : w'.frozen? ⟨w'.heap.size, 0, none⟩ = false := by simp [World.frozen?]
          have HO : Hid (((w'.setCell ⟨Rd, 1, none⟩ (.pointer (some ⟨w'.heap.size, 0, none⟩))).alloc (.cells #[.slice none 0 0] 109)).os = w'.os ∧ ((w'.setCell ⟨Rd, 1, none⟩ (.pointer (some ⟨w'.heap.size, 0, none⟩))).alloc (.cells #[.slice none 0 0] 109)).tape = w'.tape ∧ ((w'.setCell ⟨Rd, 1, none⟩ (.pointer (some ⟨w'.heap.size, 0, none⟩))).alloc (.cells #[.slice none 0 0] 109)).output = w'.output) := ⟨rfl, rfl, rfl⟩
          generalize (w'.setCell ⟨Rd, 1, none⟩ (.pointer (some ⟨w'.heap.size, 0, none⟩))).alloc (.cells #[.slice none 0 0] 109) = W2 at *
          have hS1 := H1.out.lt S mem_S
          have hown2 : OwnT W2.drew S rbT (zs.map (·.tv)) := H1.out.own.keep (hal2 S hS1 (fun e => a1 e.symm)) (fun k hk => hal2 k (H1.out.lt k (mem_blocks_T hk)) (fun e => a2 (by rw [← e]; exact hk)))
          have hPut := PutT_new S rbT (zs.map (·.tv)) ⟨n, w'.heap.size⟩ W2.drew hown2 (fun hm => hin ((H1.out.keys n).1 hm)) (by rw [hll]; omega)
          unfold strV at hPut
          simp only [] at hPut
          have HA : Hid _ := hal2
          have HK : Hid _ := k4
          clear hal2 k4 hLn
          go_region_with (go_at_call 47; refine hPut.mono ?_; rintro e w3 ⟨⟨v3, rfl⟩, hput⟩)
          all_goals go_wp2
          all_goals go_ret
          all_goals rw [HT.out]
          all_goals
            obtain ⟨rbT', zs', hp', hm'⟩ := PRep.addType (w := w') (W2 := W2.drew) (w3 := w3) (B := w'.heap.size) H1.out (Nat.le_refl _) (by show _ < W2.heap.size; omega) (fun k hk hkR => HA.out k hk hkR) k0 k1 (fun j => by show W2.frozen? _ = false; rw [HK.out]; exact hfz1 j) k3 (by show W2.frozen? _ = false; rw [HK.out]; exact k5) hput
            refine ⟨rfl, ?_, rbT', zs', hp', fun g hg => orTo (hm' g hg) (fun h => by omega)⟩
            obtain ⟨p, rb, _, _, _, hbut⟩ := hput
            have hd2 : W2.drew.heap.size = W2.heap.size := rfl
            have hbs := hbut.size
            refine ⟨by rw [hbut.os]; exact HO.out.1.trans hb1'.os, by rw [hbut.tape]; exact HO.out.2.1.trans hb1'.tape, by rw [hbut.output]; exact HO.out.2.2.trans hb1'.output, by omega, fun k hk hkM => ?_⟩
            rw [hbut.block k (by omega) (fun e => hkM (e ▸ mem_S)) (fun e => hkM (mem_blocks_T e))]
            exact (HA.out k (by omega) (fun e => hkM (e ▸ mem_Rd))).trans (hb1'.block k hk)
end Go.Proofs.YtlgodpadcilcaaaDoor
