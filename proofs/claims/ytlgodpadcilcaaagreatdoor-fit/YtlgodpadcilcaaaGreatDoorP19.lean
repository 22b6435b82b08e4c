import Derived.Test.YtlgodpadcilcaaaGreatDoorP17
import Derived.Test.YtlgodpadcilcaaaGreatDoorP18
import Derived.Test.YtlgodpadcilcaaaGreatDoorP16
import Derived.Deep.QuietTactic
import Derived.BigQuiet
import Derived.OwnWalk
import Derived.Test.YtlgodpadcilcaaaGreatDoorP07
namespace Go.Proofs.YtlgodpadcilcaaaGreatDoor
open Go.ChangeShapes Go.WideShapes Go.ChangeAt Go.RowKit

theorem rline_any (P : Nat) (tb rb nb : Option Nat) (N : List NV) (rs : List RR) (st : List Ty) (num : Nat) (s : ByteArray) (w : World) (h : PlanRep w P tb rb nb N rs st) (hok : StOk st) (hs : s.size ≤ 100000) (hN : N.length + s.size ≤ 900000) :
    Calls Tryz.prog 20 #[.pointer (some ⟨P, 0, none⟩), .string s, .int .i64 (num : Int)] w (RLAns w P tb rb nb N (s.size + 1) (lineS st num s.data.toList)) := by
  by_cases hq : s.data.toList = [] ∨ s.data.toList.take 2 = [47, 47]
  · exact rline_blank P tb rb nb N rs st num _ s w h (by omega) hq
  · cases hsp : splitL 32 s.data.toList with
    | nil => exact absurd hsp (splitL_ne _ _)
    | cons w0 ps =>
      cases ps with
      | nil => exact rline_bad P tb rb nb N st num _ s w (by omega) hq w0 [] hsp (.inr rfl)
      | cons n ex =>
        by_cases h1 : w0 = [116, 121, 112, 101]
        · subst h1
          cases hn : nameL n with
          | false => exact rline_noname P tb rb nb N st num _ s w (by omega) hq _ n ex hsp (.inl rfl) hn
          | true =>
            by_cases hbad : ex ≠ [] ∨ n ∈ st.map (·.nm) ∨ st.length = 6
            · exact rline_typebad P tb rb nb N rs st num _ s w h hok (by omega) hq n ex hsp hn hbad
            · simp only [not_or] at hbad
              obtain ⟨a1, a2, a3⟩ := hbad
              obtain rfl : ex = [] := Classical.not_not.1 a1
              exact rline_typeok P tb rb nb N rs st num _ s w h hok (by omega) hq n hsp hn a2 a3
        · by_cases h2 : w0 = [114, 101, 108] ∨ w0 = [115, 101, 116]
          · cases hn : nameL n with
            | false => exact rline_noname P tb rb nb N st num _ s w (by omega) hq _ n ex hsp (.inr h2) hn
            | true =>
              by_cases hbad : wholeL ex = none ∨ st = []
              · exact rline_relbad P tb rb nb N rs st num _ s w h hs hN hq w0 n ex hsp h2 hn hbad
              · simp only [not_or] at hbad
                obtain ⟨a1, a2⟩ := hbad
                obtain ⟨x, hx⟩ := Option.ne_none_iff_exists'.1 a1
                obtain ⟨ty, hty⟩ : ∃ ty, st.getLast? = some ty := by
                  cases hg : st.getLast? with
                  | none => exact absurd (List.getLast?_eq_none_iff.1 hg) a2
                  | some ty => exact ⟨ty, rfl⟩
                rcases h2 with rfl | rfl
                · exact rline_rel P tb rb nb N rs st num s w h hok hs hN hq n ex hsp hn x hx ty hty
                · exact rline_set P tb rb nb N rs st num s w h hok hs hN hq n ex hsp hn x hx ty hty
          · simp only [not_or] at h2
            exact rline_bad P tb rb nb N st num _ s w (by omega) hq w0 _ hsp (.inl ⟨h1, h2.1, h2.2⟩)
end Go.Proofs.YtlgodpadcilcaaaGreatDoor
namespace Go.Proofs.YtlgodpadcilcaaaGreatDoor
open Go.ChangeShapes Go.WideShapes Go.ChangeAt Go.RowKit

/-- the plan that Read gives where it finds no error -/
def RdEnd (res : Nat × Nat) (ls : List (List UInt8)) (p : Option Addr) (w' : World) : Prop :=
  res.2 = 0 → ∃ P V tb rb nb N rs st, p = some ⟨P, 0, none⟩ ∧ linesS [] 0 ls = .inr st ∧ StOk st ∧ PlanRep V P tb rb nb N rs st ∧ RdZ V P w'
theorem RdEnd.no {res : Nat × Nat} {ls : List (List UInt8)} {p : Option Addr} {w' : World} (h : res.2 ≠ 0) : RdEnd res ls p w' := fun h0 => absurd h0 h

theorem RdZ.drew {V w : World} {P : Nat} (h : RdZ V P w) (k : Nat) : RdZ V P (w.drewN k) := ⟨h.os, h.tape, h.output, h.size, h.block, h.cells⟩

set_option maxRecDepth 100000 in
set_option maxHeartbeats 16000000 in
theorem Read_any (s : ByteArray) (w : World) :
    Calls Tryz.prog 9 #[.string s] w fun e w' => ∃ p, e = .returned (.tuple #[.pointer p, .int .i64 ((schemaS s.data.toList).1 : Nat), .int .i64 ((schemaS s.data.toList).2 : Nat)]) ∧ RdEnd (schemaS s.data.toList) (splitL 10 s.data.toList) p w' ∧ Below w.heap.size w w' := by
  by_cases h2 : 2000 < s.size
  · have e : schemaS s.data.toList = (0, 1) := schemaS_long (by rw [size_list]; exact h2)
    rw [e]
    have q : ((s.size : Int) > 2000) := by omega
    have HE : Hid (∀ p w', RdEnd (0, 1) (splitL 10 s.data.toList) p w') := fun p w' => RdEnd.no (by decide)
    go_enter Tryz.func9, Tryz.ntmps9
    go_wp2
    go_ret3
    exact ⟨_, rfl, HE.out _ _, (Below.refl _ _).alloc (Nat.le_refl _) _⟩
  · have q : ¬ ((s.size : Int) > 2000) := by omega
    have HSl : Hid (∀ p, linesS [] 0 (splitL 10 s.data.toList) = .inl p → schemaS s.data.toList = p) := fun p hp => schemaS_inl (by rw [size_list]; exact h2) hp
    have HSr : Hid (∀ st, linesS [] 0 (splitL 10 s.data.toList) = .inr st → schemaS s.data.toList = afterS (relsOf st) st.length (splitL 10 s.data.toList).length) := fun p hp => schemaS_inr (by rw [size_list]; exact h2) hp
    have hcount := splitL_count 10 s.data.toList
    have hsum := splitL_sum 10 s.data.toList
    rw [size_list] at hcount hsum
    have hlen : ∀ x ∈ splitL 10 s.data.toList, x.length ≤ 10000 := fun x hx => by have := splitL_mlen 10 s.data.toList x hx; rw [size_list] at this; omega
    have hus : ∀ i, used (splitL 10 s.data.toList) i ≤ 10000 := fun i => by have := used_le (splitL 10 s.data.toList) i; omega
    have hPc : ∀ u, Calls Tryz.prog 19 #[.string s, .int .u8 10] u _ := fun u => pieces_new s 10 u (by omega)
    clear hsum
    generalize schemaS s.data.toList = res at *
    generalize splitL 10 s.data.toList = ls at *
    go_enter Tryz.func9, Tryz.ntmps9
    go_upto_region 5 with (go_at_call 19; refine (hPc _).mono ?_; rintro e w2 ⟨G, cap, rfl, hcap, hG1, hG2, hcells, hb2⟩)
    have hI0 : RdI w w.heap.size ls G w.heap.size 0 [] none none none [] [] w2 := by
      refine ⟨rfl, StOk.nil, StLn.nil _ _, (PlanRep.empty (heap_alloc_new w _)).below hb2, Nat.zero_le _, hcells, ?_, hG2, by simp [planM], ?_⟩
      · simp at hG1
        simp [planM]
        omega
      · exact ((Below.refl _ _).alloc (Nat.le_refl _) _).trans (hb2.mono (by simp))
    have HI0 : Hid _ := hI0
    have HL : Hid _ := hlen
    have HUs : Hid _ := hus
    obtain ⟨nl, hnl⟩ : ∃ n, ls.length = n := ⟨_, rfl⟩
    have HN : Hid (ls.length = nl) := hnl
    rw [hnl] at hcap hcount ⊢
    clear hI0 hlen hus hcells hnl hG1 hG2 hb2 hPc
    generalize hPw : w.heap.size = P at *
    have HPw : Hid (w.heap.size = P) := hPw
    clear hPw
    go_wp2
    go_loopw [7] (fun s7 wr => ∃ i : Nat, i ≤ nl ∧ s7 = .int .i64 (i : Int) ∧ Hid (∃ st tb rb nb N rs, RdI w P ls G P i st tb rb nb N rs wr)) (fun s7 _ => nl - (intOf s7).toNat)
    case atStart => exact ⟨0, Nat.zero_le _, rfl, _, _, _, _, _, _, HI0.out⟩
    case round =>
      obtain ⟨i, hi, rfl, HI⟩ := hrel
      obtain ⟨st, tb, rb, nb, N, rs, hI⟩ := HI.out
      clear HI HI0
      have HI : Hid _ := hI
      by_cases hlt : i < nl
      · have hip : i < ls.length := by have := HN.out; omega
        have hc := hI.cells i hip
        have hsz := HL.out ls[i] (List.getElem_mem _)
        have hA := rline_any P tb rb nb N rs st i ⟨ls[i].toArray⟩ wr hI.rep hI.ok (by simp [ByteArray.size]; omega) (by have := hI.nlen; have := HUs.out i; simp [ByteArray.size]; omega)
        rw [show (ByteArray.mk ls[i].toArray).data.toList = ls[i] by simp, show (ByteArray.mk ls[i].toArray).size = ls[i].length by simp [ByteArray.size]] at hA
        have HNx : Hid ((lineS st i ls[i]).1 = 0 → ∀ w3, RLAns wr P tb rb nb N (ls[i].length + 1) (lineS st i ls[i]) (.returned (.int .i64 ((lineS st i ls[i]).1 : Nat))) w3 → ∃ st' tb' rb' nb' N' rs', RdI w P ls G P (i + 1) st' tb' rb' nb' N' rs' w3) := fun h0 w3 h3 => hI.next hip (HL.out _ (List.getElem_mem _)) h0 h3
        have HFr : Hid (∀ w3, ButM (planM P tb rb nb) wr w3 → Below P w w3) := fun w3 h3 => hI.frame h3
        have HSt : Hid ((lineS st i ls[i]).1 ≠ 0 → res = (i, (lineS st i ls[i]).1)) := fun h0 => HSl.out _ (linesS_stop hI.lines hip h0)
        clear hI HI hsz
        unfold strV at hc
        generalize (ByteArray.mk ls[i].toArray) = B at *
        generalize ls[i].length + 1 = bl at *
        generalize lineS st i ls[i] = r at *
        obtain ⟨r1, r2⟩ := r
        simp only [] at hA HNx HSt
        go_upto_region 9 with (go_at_call 20; refine hA.mono ?_; rintro e w3 ⟨rfl, hA3⟩)
        clear hA
        have HA3 : Hid (RLAns wr P tb rb nb N bl (r1, r2) (.returned (.int .i64 (r1 : Nat))) w3) := ⟨rfl, hA3⟩
        clear hA3
        by_cases h0 : r1 = 0
        · subst h0
          go_wp2
          go_roundw
          case rel => exact ⟨i + 1, by omega, by go_num, HNx.out rfl w3 HA3.out⟩
          case measure => simp [intOf]; omega
        · have hq : (((r1 : Nat) : Int) == 0) = false := by rw [beq_eq_false_iff_ne]; omega
          have hq2 : ¬ ((r1 : Nat) : Int) = 0 := by omega
          have HE' : Hid (res = (i, r1)) := HSt.out h0
          go_wp2
          go_ret3
          rw [HE'.out]
          have hF := HFr.out w3 HA3.out.2.1
          rw [← HPw.out] at hF
          exact ⟨_, rfl, RdEnd.no h0, ⟨hF.os, hF.tape, hF.output, hF.size, hF.block⟩⟩
      · obtain rfl : i = nl := by omega
        have hlines : linesS [] 0 ls = .inr st := by rw [hI.lines, ← HN.out, List.drop_length]; rfl
        have hres : res = afterS (relsOf st) st.length i := by rw [HSr.out st hlines, HN.out]
        have HEnd : Hid (∀ w', RdZ wr P w' → RdEnd res ls (some ⟨P, 0, none⟩) w') := fun w' hz _ => ⟨P, wr, tb, rb, nb, N, rs, st, rfl, hlines, hI.ok, hI.rep, hz⟩
        have HTot : Hid (∀ w', RdV wr P w' → Below P w w') := fun w' hv => hv.total hI.below (Nat.le_refl _) (hI.rep.lt P planM_P)
        have HTotZ : Hid (∀ w', RdZ wr P w' → Below P w w') := fun w' hv => hv.total hI.below (Nat.le_refl _) (hI.rep.lt P planM_P)
        obtain ⟨p1, p0, c1, c0, top, line, uk, Wl, M, hK⟩ := hI.done hres
        clear hlines hres hI HI HSl HSr HL HUs HN
        generalize rs.length = n at *
        generalize st.length = nt at *
        have HK : Hid _ := hK
        have hP := hK.lt
        have hn := hK.few
        clear hK
        rename World => V
        go_wp2
        go_loopw [9] (fun s9 wq => ∃ a : Nat, a ≤ n ∧ s9 = .int .i64 (a : Int) ∧ Hid (Below V.heap.size V wq ∧ ∀ j, j < a → uk j = false)) (fun s9 _ => n - (intOf s9).toNat)
        case atStart => exact ⟨0, Nat.zero_le _, rfl, Below.refl _ _, fun j hj => absurd hj (Nat.not_lt_zero _)⟩
        case round =>
          obtain ⟨a, ha, rfl, HA⟩ := hrel
          have HV2 : Hid (RdV V P wr) := (RdV.refl V P).below hP HA.out.1
          have d1 := (HV2.out.cells 1 (by decide)).trans HK.out.cell1
          by_cases hla : a < n
          · obtain ⟨G1, rfl, g1, g2, g3, g4⟩ := HK.out.rel a hla
            have d2 := (HV2.out.cell g2 g1 (a * 5 + 3)).trans g3
            have hU := HK.out.unk wr HV2.out a hla
            have HD : Hid (∀ w3, Below wr.heap.size wr w3 → w3.cell? ⟨P, 1, none⟩ = some (.slice (some ⟨G1, 0, none⟩) n c1) ∧ w3.cell? ⟨G1, a * 5 + 4, none⟩ = some (.int .i64 (line a : Int))) := fun w3 hb => by
              have h3 := HV2.out.below hP hb
              exact ⟨(h3.cells 1 (by decide)).trans HK.out.cell1, (h3.cell g2 g1 _).trans g4⟩
            clear g3 g4
            cases huk : uk a with
            | true =>
              rw [huk] at hU
              have HR : Hid (res = (line a, 3)) := HK.out.found a hla HA.out.2 huk
              clear huk
              go_upto_region 15 with (go_at_call 21; refine hU.mono ?_; rintro e w3 ⟨rfl, hb3⟩)
              obtain ⟨k1, k2⟩ := HD.out w3 hb3
              clear d1 d2 hU
              go_upto_region 16 with fail
              go_quiet (fail)
              go_wp2
              go_ret3
              rw [HR.out]
              have hF := HTot.out w3 (HV2.out.below hP hb3)
              rw [← HPw.out] at hF
              exact ⟨_, rfl, RdEnd.no (by decide : (3 : Nat) ≠ 0), ⟨hF.os, hF.tape, hF.output, hF.size, hF.block⟩⟩
            | false =>
              rw [huk] at hU
              have HUk : Hid (uk a = false) := huk
              clear huk
              go_upto_region 15 with (go_at_call 21; refine hU.mono ?_; rintro e w3 ⟨rfl, hb3⟩)
              clear d1 d2 hU
              go_wp2
              go_roundw
              case rel =>
                refine ⟨a + 1, by omega, by go_num, HA.out.1.trans (hb3.mono HA.out.1.size), fun j hj => ?_⟩
                by_cases e : j = a
                · subst e; exact HUk.out
                · exact HA.out.2 j (by omega)
              case measure => simp [intOf]; omega
          · obtain rfl : a = n := by omega
            have HW0 : Hid (RdW V P a Wl 0 wr) := ⟨HV2.out, _, [], (HA.out.1.cell (p := ⟨P, 3, none⟩) hP).trans HK.out.cell3, rfl, Tab2.empty ..⟩
            have HUn : Hid (∀ j, j < a → uk j = false) := HA.out.2
            clear HA HV2
            rename World => V2
            go_wp2
            clear d1
            go_loopw [11] (fun s11 wq => ∃ a' : Nat, a' ≤ a ∧ s11 = .int .i64 (a' : Int) ∧ Hid (RdW V P a Wl a' wq)) (fun s11 _ => a - (intOf s11).toNat)
            case atStart => exact ⟨0, Nat.zero_le _, rfl, HW0.out⟩
            case round =>
              clear HW0
              obtain ⟨b, hb, rfl, HW⟩ := hrel
              rename World => U
              have d1 := (HW.out.base.cells 1 (by decide)).trans HK.out.cell1
              by_cases hlb : b < a
              · obtain ⟨G1, rfl, g1, g2, -, -⟩ := HK.out.rel b hlb
                obtain ⟨v3, Rs, x1, x2, x3⟩ := HW.out.will
                have HX1 : Hid (U.cell? ⟨P, 3, none⟩ = some v3) := x1
                have HX2 : Hid (Rs.length = b) := x2
                have HX3 : Hid _ := x3
                clear x1 x2 x3
                have hmk := run_make_row' (P := Tryz.prog) 70 3 (.int .i64 0) 8 Tryz.underlying70 infoI rfl .i64 .i64 a (by omega) (by omega)
                go_upto_region 21 with fail
                clear hmk d1
                have hI0 : (U.alloc (.cells (madeCells #[.int .i64 0] a) 3)).rowIs U.heap.size 3 a (fun j => .int .i64 ((if j < 0 then Wl b j else 0 : Nat) : Int)) := (World.rowIs_made U (.int .i64 0) a 3).congr (fun j _ => by simp)
                have hI1 : Below U.heap.size U (U.alloc (.cells (madeCells #[.int .i64 0] a) 3)) := (Below.refl _ _).alloc (Nat.le_refl _) _
                generalize U.alloc (.cells (madeCells #[.int .i64 0] a) 3) = U1 at *
                have HI0 : Hid (U1.rowIs U.heap.size 3 a (fun j => .int .i64 ((if j < 0 then Wl b j else 0 : Nat) : Int)) ∧ Below U.heap.size U U1) := ⟨hI0, hI1⟩
                clear hI0 hI1
                go_wp2
                go_loopw [13] (fun s13 wq => ∃ c : Nat, c ≤ a ∧ s13 = .int .i64 (c : Int) ∧ Hid (wq.rowIs U.heap.size 3 a (fun j => .int .i64 ((if j < c then Wl b j else 0 : Nat) : Int)) ∧ Below U.heap.size U wq)) (fun s13 _ => a - (intOf s13).toNat)
                case atStart => exact ⟨0, Nat.zero_le _, rfl, HI0⟩
                case round =>
                  clear HI0
                  obtain ⟨c, hc, rfl, HJ⟩ := hrel
                  have HQ : Hid (RdV V P wr) := HW.out.base.below hP HJ.out.2
                  have d1 := (HQ.out.cells 1 (by decide)).trans HK.out.cell1
                  by_cases hlc : c < a
                  · obtain ⟨G2, e2, -, -, g3, -⟩ := HK.out.rel b hlb
                    cases e2
                    have d2 := (HQ.out.cell g2 g1 (b * 5 + 3)).trans g3
                    have hH := HK.out.hang wr HQ.out b c hlb hlc
                    have HS : Hid (∀ w3, Below wr.heap.size wr w3 → ∃ x, w3.cell? ⟨U.heap.size, c, none⟩ = some x ∧ w3.frozen? ⟨U.heap.size, c, none⟩ = false) := fun w3 h3 => by
                      have h4 := HJ.out.1.of_block (h3.block _ HJ.out.1.lt)
                      exact ⟨_, h4.cell hlc, h4.frozen c⟩
                    clear g3
                    go_wp2_with (go_at_call 22; refine hH.mono ?_; rintro e w3 ⟨rfl, hb3⟩; obtain ⟨x3, k1, k2⟩ := HS.out w3 hb3)
                    go_roundw
                    case rel =>
                      refine ⟨c + 1, by omega, by go_num, ((HJ.out.1.of_block (hb3.block _ HJ.out.1.lt)).set c (.int .i64 (Wl b c : Nat))).congr (fun j hj => ?_), (HJ.out.2.trans (hb3.mono HJ.out.2.size)).setCell (Nat.le_refl _) _⟩
                      by_cases e : j = c
                      · subst e; simp
                      · have : (j < c + 1) ↔ (j < c) := by omega
                        simp [e, this]
                    case measure => simp [intOf]; omega
                  · obtain rfl : c = a := by omega
                    obtain ⟨i0, hi0, hz0, hz1, hz2⟩ := info_parts infoIs
                    have hTq := HX3.out.below HJ.out.2
                    have hown := hTq.row
                    rw [HX2.out] at hown
                    have hown2 := hown.alloc (.cells #[.slice (some ⟨U.heap.size, 0, none⟩) c c] 70)
                    have hsle : V.heap.size ≤ wr.heap.size := HQ.out.size
                    have hPU : P < U.heap.size := by have := HW.out.base.size; omega
                    have d3 : wr.cell? ⟨P, 3, none⟩ = some v3 := (HJ.out.2.cell (p := ⟨P, 3, none⟩) hPU).trans HX1.out
                    have HG : Hid (∀ w4, (wr.alloc (.cells #[.slice (some ⟨U.heap.size, 0, none⟩) c c] 70)).grownBy w4 v3.ownBlock → w4.cell? ⟨P, 3, none⟩ = some v3 ∧ w4.frozen? ⟨P, 3, none⟩ = false) := fun w4 hg => by
                      have hlow : w4.heap[P]? = wr.heap[P]? := (hg.block P (by simp; omega) (fun e => by have := (HX3.out.lt P (.inl e.symm)).1; omega)).trans (Below.heap_alloc _ _ _ (by omega))
                      exact ⟨(World.cell?_of_block (w := wr) (a := ⟨P, 3, none⟩) hlow).trans d3, (World.frozen?_of_block (w := wr) (a := ⟨P, 3, none⟩) hlow).trans ((HQ.out.frz 3).trans (HK.out.frz 3))⟩
                    clear hown hTq
                    go_wp2_with (at_builtin; go_loud (refine wpList_append_lies _ rfl _ _ 62 rfl V.heap.size 70 i0 _ 1 24 Tryz.underlying62 hi0 hz0 hz1 hz2 rfl (by decide) _ _ _ rfl hown2 ⟨wr.heap.size, 0, none⟩ 1 1 [.slice (some ⟨U.heap.size, 0, none⟩) c c] rfl rfl ?_ (fun x hx => by simp at hx; subst hx; rfl) (by decide) (by unfold maxLen; omega) (by omega) (by simp; omega) (wr.heap.size + 1) (by simp) ?_; (exact World.news_of_block (cs := #[.slice (some ⟨U.heap.size, 0, none⟩) c c]) (t := 70) (fr := (0, 0)) (heap_alloc_new wr _)); intro g4 cap4 w4 hown4 hgrow4 hat4 hlt4; obtain ⟨k1, k2⟩ := HG.out w4 hgrow4))
                    go_roundw
                    case rel => exact ⟨b + 1, by omega, by go_num, RdW.add hP HW.out.base HX2.out HX3.out HX1.out HJ.out.2 (HJ.out.1.congr (fun j hj => by simp [hj])) hgrow4 hown4 (orTo hat4 (fun e => by omega))⟩
                    case measure => simp [intOf]; omega
              · obtain rfl : b = a := by omega
                obtain ⟨v3, Rs, x1, x2, x3⟩ := HW.out.will
                have hRe := Reach_any M P b c1 V.heap.size p1 v3 Rs Wl U hn d1 x1 x3 x2 HK.out.fw
                have HX1 : Hid (U.cell? ⟨P, 3, none⟩ = some v3) := x1
                have HX2 : Hid (Rs.length = b) := x2
                have HX3 : Hid _ := x3
                clear x1 x2 x3
                go_upto_region 27 with (go_at_call 23; refine hRe.mono ?_; rintro e w5 ⟨v5, Rs5, X, rfl, y1, y2, y3, hb5⟩)
                clear d1 hRe
                have HQ : Hid (RdV V P w5) := HW.out.base.below hP hb5
                have HT3 : Hid (Tab2 w5 V.heap.size 70 3 v3 Rs b (fun i j => .int .i64 (Wl i j : Nat))) := HX3.out.below hb5
                have HT5 : Hid _ := y2
                have HY1 : Hid (Rs5.length = b) := y1
                have HFw : Hid _ := y3
                have hPU : P < U.heap.size := by have := HW.out.base.size; omega
                have d1 : w5.cell? ⟨P, 1, none⟩ = some (.slice p1 b c1) := (HQ.out.cells 1 (by decide)).trans HK.out.cell1
                have d3 : w5.cell? ⟨P, 3, none⟩ = some v3 := (hb5.cell (p := ⟨P, 3, none⟩) hPU).trans HX1.out
                clear y1 y2 y3 hb5 HX1 HX3 HW
                obtain ⟨p3, c3, rfl, hp3⟩ := HT3.out.form' HX2.out
                obtain ⟨p5, c5, rfl, hp5⟩ := HT5.out.form' HY1.out
                have HD : Hid (∀ wq, Below w5.heap.size w5 wq → wq.cell? ⟨P, 1, none⟩ = some (.slice p1 b c1) ∧ wq.cell? ⟨P, 3, none⟩ = some (.slice p3 b c3)) := fun wq hb => by
                  have hP5 : P < w5.heap.size := by have := HQ.out.size; omega
                  exact ⟨(hb.cell (p := ⟨P, 1, none⟩) hP5).trans d1, (hb.cell (p := ⟨P, 3, none⟩) hP5).trans d3⟩
                go_wp2
                clear d1 d3
                go_loopw [15] (fun s15 wq => ∃ a' : Nat, a' ≤ b ∧ s15 = .int .i64 (a' : Int) ∧ Hid (Below w5.heap.size w5 wq) ∧ Hid (∀ a0, a0 < a' → ∀ b0, b0 < b → ¬ (Wl a0 b0 = 2 ∧ (a0 = b0 ∨ X b0 a0 = true)))) (fun s15 _ => b - (intOf s15).toNat)
                case atStart => exact ⟨0, Nat.zero_le _, rfl, Below.refl _ _, fun a0 h0 => absurd h0 (Nat.not_lt_zero _)⟩
                case round =>
                  obtain ⟨a', ha', rfl, HB5, HN5⟩ := hrel
                  rename World => W5
                  obtain ⟨d1, d3⟩ := HD.out W5 HB5.out
                  by_cases hla : a' < b
                  · obtain ⟨g3, rfl⟩ := hp3 (by omega)
                    obtain ⟨g5, rfl⟩ := hp5 (by omega)
                    go_wp2
                    clear d1 d3
                    go_loopw [16] (fun s16 wq => ∃ b' : Nat, b' ≤ b ∧ s16 = .int .i64 (b' : Int) ∧ Hid (Below w5.heap.size w5 wq) ∧ Hid (∀ b0, b0 < b' → ¬ (Wl a' b0 = 2 ∧ (a' = b0 ∨ X b0 a' = true)))) (fun s16 _ => b - (intOf s16).toNat)
                    case atStart => exact ⟨0, Nat.zero_le _, rfl, HB5, fun a0 h0 => absurd h0 (Nat.not_lt_zero _)⟩
                    case round =>
                      obtain ⟨b', hb', rfl, HB6, HN6⟩ := hrel
                      obtain ⟨d1, d3⟩ := HD.out wr HB6.out
                      have d4 := (HT3.out.below HB6.out).at' HX2.out a' hla
                      by_cases hlb2 : b' < b
                      · have d5 := (HT3.out.below HB6.out).cell' a' b' (by rw [HX2.out]; exact hla) hlb2
                        have d6 := (HT5.out.below HB6.out).at' HY1.out b' hlb2
                        have d7 := (HT5.out.below HB6.out).cell' b' a' (by rw [HY1.out]; exact hlb2) hla
                        by_cases hw2 : Wl a' b' = 2
                        · rw [hw2] at d5
                          by_cases hab : a' = b'
                          · subst hab
                            have HRes : Hid (res = (i, 4)) := HK.out.ring HUn.out X HFw.out a' a' hla hla hw2 (.inl rfl)
                            go_wp2
                            go_ret3
                            rw [HRes.out]
                            have hF := HTot.out _ (HQ.out.below hP HB6.out)
                            rw [← HPw.out] at hF
                            exact ⟨_, rfl, RdEnd.no (by decide : (4 : Nat) ≠ 0), ⟨hF.os, hF.tape, hF.output, hF.size, hF.block⟩⟩
                          · have q0 : ¬ ((a' : Nat) : Int) = (b' : Nat) := by omega
                            have q1 : (((a' : Nat) : Int) == ((b' : Nat) : Int)) = false := by rw [beq_eq_false_iff_ne]; omega
                            cases hx : X b' a' with
                            | true =>
                              rw [hx] at d7
                              have HRes : Hid (res = (i, 4)) := HK.out.ring HUn.out X HFw.out a' b' hla hlb2 hw2 (.inr hx)
                              go_wp2
                              go_ret3
                              rw [HRes.out]
                              have hF := HTot.out _ (HQ.out.below hP HB6.out)
                              rw [← HPw.out] at hF
                              exact ⟨_, rfl, RdEnd.no (by decide : (4 : Nat) ≠ 0), ⟨hF.os, hF.tape, hF.output, hF.size, hF.block⟩⟩
                            | false =>
                              rw [hx] at d7
                              have HNo : Hid (¬ (Wl a' b' = 2 ∧ (a' = b' ∨ X b' a' = true))) := fun h => by rcases h.2 with e | e; exact hab e; rw [hx] at e; cases e
                              go_wp2
                              go_roundw
                              case rel =>
                                refine ⟨b' + 1, by omega, by go_num, ⟨HB6.out.os, HB6.out.tape, HB6.out.output, HB6.out.size, HB6.out.block⟩, fun b0 h0 => ?_⟩
                                by_cases e : b0 = b'
                                · subst e; exact HNo.out
                                · exact HN6.out b0 (by omega)
                              case measure => simp [intOf]; omega
                        · have q2 : ¬ ((Wl a' b' : Nat) : Int) = 2 := by omega
                          have q3 : (((Wl a' b' : Nat) : Int) == 2) = false := by rw [beq_eq_false_iff_ne]; omega
                          have HNo : Hid (¬ (Wl a' b' = 2 ∧ (a' = b' ∨ X b' a' = true))) := fun h => hw2 h.1
                          go_wp2
                          go_roundw
                          case rel =>
                            refine ⟨b' + 1, by omega, by go_num, ⟨HB6.out.os, HB6.out.tape, HB6.out.output, HB6.out.size, HB6.out.block⟩, fun b0 h0 => ?_⟩
                            by_cases e : b0 = b'
                            · subst e; exact HNo.out
                            · exact HN6.out b0 (by omega)
                          case measure => simp [intOf]; omega
                      · obtain rfl : b' = b := by omega
                        go_wp2
                        go_roundw
                        case rel =>
                          refine ⟨a' + 1, by omega, by go_num, ⟨HB6.out.os, HB6.out.tape, HB6.out.output, HB6.out.size, HB6.out.block⟩, fun a0 h0 => ?_⟩
                          by_cases e : a0 = a'
                          · subst e; exact HN6.out
                          · exact HN5.out a0 (by omega)
                        case measure => simp [intOf]; omega
                  · obtain rfl : a' = b := by omega
                    have HRes : Hid (res = (nt, 0)) := HK.out.fine HUn.out X HFw.out HN5.out
                    have hOr := order_any P a' c1 V.heap.size U.heap.size p1 (.slice p3 a' c3) (.slice p5 a' c5) Rs Rs5 Wl X W5 hn d1 d3 (HT3.out.below HB5.out) HX2.out (HT5.out.below HB5.out) HY1.out
                    have HF : Hid (∀ w6, Below W5.heap.size W5 w6 → RdV V P w6 ∧ w6.cell? ⟨P, 4, none⟩ = some (.slice none 0 0) ∧ w6.frozen? ⟨P, 4, none⟩ = false) := fun w6 hb => by
                      have h6 := (HQ.out.below hP HB5.out).below hP hb
                      exact ⟨h6, (h6.cells 4 (by decide)).trans HK.out.cell4, (h6.frz 4).trans (HK.out.frz 4)⟩
                    go_upto_region 36 with (go_at_call 24; refine hOr.mono ?_; rintro e w6 ⟨p6, l6, c6, rfl, hb6⟩; obtain ⟨k1, k2⟩ := (HF.out w6 hb6).2)
                    have HZ : Hid (RdZ V P (w6.setCell ⟨P, 4, none⟩ (.slice p6 l6 c6))) := (HF.out w6 hb6).1.fin _
                    have d0 := (HZ.out.cells 0 (by decide) (by decide)).trans HK.out.cell0
                    clear d1 d3 k1 k2 hOr HF
                    generalize w6.setCell ⟨P, 4, none⟩ (.slice p6 l6 c6) = W7 at *
                    go_quiet (fail)
                    go_wp2
                    go_ret3
                    have hF := HTotZ.out _ HZ.out
                    rw [← HPw.out] at hF
                    refine ⟨some ⟨P, 0, none⟩, ?_, HEnd.out _ ⟨HZ.out.os, HZ.out.tape, HZ.out.output, HZ.out.size, HZ.out.block, HZ.out.cells⟩, ⟨hF.os, hF.tape, hF.output, hF.size, hF.block⟩⟩
                    rw [HRes.out]
                    rfl
end Go.Proofs.YtlgodpadcilcaaaGreatDoor
namespace Go.Proofs.YtlgodpadcilcaaaGreatDoor
open Go.ChangeShapes Go.WideShapes Go.ChangeAt Go.RowKit

/-- a letter, or a digit where they may be -/
def okC (d : Bool) (b : UInt8) : Bool := bif d then isLD b else isLow b
def wordL (d : Bool) (l : List UInt8) : Bool := decide (1 ≤ l.length) && decide (l.length ≤ 8) && l.all (okC d)
theorem wordL_t (l : List UInt8) : wordL true l = idL l := rfl
theorem wordL_f (l : List UInt8) : wordL false l = lowW l := rfl

set_option maxHeartbeats 1000000 in
theorem word_big (s : ByteArray) (d : Bool) (w : World) (hs : s.size ≤ 9223372036854775807) :
    Calls Tryz.prog 53 #[.string s, .bool d] w fun e w' => e = .returned (.bool (wordL d s.data.toList)) ∧ w' = w := by
  generalize hR : wordL d s.data.toList = r
  have HR : Hid (wordL d s.data.toList = r) := hR
  clear hR
  go_enter Tryz.func53, Tryz.ntmps53
  go_wp2
  go_loop [5] (fun i => ∃ k : Nat, k ≤ s.size ∧ i = .int .i64 k ∧ Hid ((s.data.toList.take k).all (okC d) = true)) (fun i => s.size - (intOf i).toNat)
  case atStart => exact ⟨0, Nat.zero_le _, rfl, by show _ = _; simp⟩
  case round =>
    obtain ⟨k, hk, rfl, H⟩ := hrel
    by_cases hlt : k < s.size
    · have hb : s[k].toNat < 256 := s[k].toNat_lt
      have HT : Hid ((s.data.toList.take (k + 1)).all (okC d) = okC d s[k]) := by
        show _ = _
        rw [take_snoc s k hlt, List.all_append, H.out]
        simp
      have HD : Hid (okC d s[k] = false → r = false) := fun h => by
        rw [← HR.out]
        unfold wordL
        rw [Bool.and_eq_false_iff]
        right
        rw [List.all_eq_false]
        refine ⟨s[k], ?_, by rw [h]; simp⟩
        have e : s.data.toList[k]'(by rw [size_list]; exact hlt) = s[k] := rfl
        rw [← e]
        exact List.getElem_mem _
      have HC : Hid (okC d s[k] = ((decide (97 ≤ s[k].toNat) && decide (s[k].toNat ≤ 122)) || (d && (decide (48 ≤ s[k].toNat) && decide (s[k].toNat ≤ 57))))) := by
        show _ = _
        cases d
        · show isLow s[k] = _
          unfold isLow
          simp
        · rfl
      generalize okC d s[k] = c at *
      generalize hbk : s[k].toNat = bk at *
      clear hb
      have hstep : (c = true → Hid ((s.data.toList.take (k + 1)).all (okC d) = true)) := fun h => by subst h; exact HT
      have HS : Hid _ := hstep
      clear HT hstep
      by_cases h1 : 97 ≤ bk
      · by_cases h2 : bk ≤ 122
        · have hc : c = true := by rw [HC.out]; simp [h1, h2]
          have HT2 := HS.out hc
          clear HS HC HD hc
          go_wp2
          go_round
          case rel => exact ⟨k + 1, by omega, by go_num, HT2⟩
          case measure => simp [intOf]; omega
        · have hd : decide ((bk : Int) ≤ 122) = false := by simp; omega
          have hd2 : ¬ ((bk : Int) ≤ 122) := by omega
          have h57 : ¬ ((bk : Int) ≤ 57) := by omega
          have h57' : decide ((bk : Int) ≤ 57) = false := by simp; omega
          have h48 : ((bk : Int) ≥ 48) := by omega
          have hc : c = false := by rw [HC.out]; cases d <;> simp <;> omega
          have e : r = false := HD.out hc
          subst e
          clear HS HC HD hc
          cases d <;> (go_wp2; go_ret; exact ⟨rfl, rfl⟩)
      · have hg : ¬ ((bk : Int) ≥ 97) := by omega
        cases d with
        | false =>
          have hc : c = false := by rw [HC.out]; simp; omega
          have e : r = false := HD.out hc
          subst e
          clear HS HC HD hc
          go_wp2
          go_ret
          exact ⟨rfl, rfl⟩
        | true =>
          by_cases h3 : 48 ≤ bk
          · have h48 : ((bk : Int) ≥ 48) := by omega
            by_cases h4 : bk ≤ 57
            · have h57 : ((bk : Int) ≤ 57) := by omega
              have hc : c = true := by rw [HC.out]; simp [h3, h4]
              have HT2 := HS.out hc
              clear HS HC HD hc
              go_wp2
              go_round
              case rel => exact ⟨k + 1, by omega, by go_num, HT2⟩
              case measure => simp [intOf]; omega
            · have h57 : ¬ ((bk : Int) ≤ 57) := by omega
              have h57' : decide ((bk : Int) ≤ 57) = false := by simp; omega
              have hc : c = false := by rw [HC.out]; simp; omega
              have e : r = false := HD.out hc
              subst e
              clear HS HC HD hc
              go_wp2
              go_ret
              exact ⟨rfl, rfl⟩
          · have h48 : ¬ ((bk : Int) ≥ 48) := by omega
            have hc : c = false := by rw [HC.out]; simp; omega
            have e : r = false := HD.out hc
            subst e
            clear HS HC HD hc
            go_wp2
            go_ret
            exact ⟨rfl, rfl⟩
    · have HA : Hid (s.data.toList.all (okC d) = true) := by
        have := H.out
        rw [List.take_of_length_le (by rw [size_list]; omega)] at this
        exact this
      have E : Hid (r = (decide (1 ≤ s.size) && decide (s.size ≤ 8))) := by show _ = _; rw [← HR.out]; unfold wordL; rw [HA.out, size_list]; simp
      clear HR
      by_cases h1 : 1 ≤ s.size
      · by_cases h8 : s.size ≤ 8
        · have e : r = true := by rw [E.out]; simp [h1, h8]
          subst e
          go_wp2
          go_ret
          exact ⟨ret_bool (by simp; omega), rfl⟩
        · have e : r = false := by rw [E.out]; simp [h8]
          subst e
          go_wp2
          go_ret
          exact ⟨ret_bool (by simp; omega), rfl⟩
      · have e : r = false := by rw [E.out]; simp [h1]
        subst e
        go_wp2
        go_ret
        exact ⟨rfl, rfl⟩

set_option maxHeartbeats 400000 in
theorem rname_big (s : ByteArray) (w : World) (hs : s.size ≤ 9223372036854775807) :
    Calls Tryz.prog 51 #[.string s] w fun e w' => e = .returned (.bool (nameL s.data.toList)) ∧ w' = w := by
  have hW := word_big s false w hs
  have HN : Hid (nameL s.data.toList = (lowW s.data.toList && !(s.toList == [115, 101, 108, 102]))) := by show _ = _; rw [nameL_lowW, ByteArray.toList_eq]; rfl
  rw [wordL_f] at hW
  generalize nameL s.data.toList = r at *
  generalize lowW s.data.toList = c at *
  cases c with
  | true =>
    go_enter Tryz.func51, Tryz.ntmps51
    go_wp2_with (go_at_call 53; refine hW.mono ?_; rintro e w' ⟨rfl, rfl⟩)
    go_ret
    exact ⟨ret_bool (by rw [HN.out]; rfl), rfl⟩
  | false =>
    go_enter Tryz.func51, Tryz.ntmps51
    go_wp2_with (go_at_call 53; refine hW.mono ?_; rintro e w' ⟨rfl, rfl⟩)
    go_ret
    exact ⟨ret_bool (by rw [HN.out]; rfl), rfl⟩
end Go.Proofs.YtlgodpadcilcaaaGreatDoor
