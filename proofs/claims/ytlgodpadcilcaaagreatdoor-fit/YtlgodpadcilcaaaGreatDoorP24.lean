import Derived.Test.YtlgodpadcilcaaaGreatDoorP23
import Derived.Deep.QuietTactic
import Derived.BigQuiet
namespace Go.Proofs.YtlgodpadcilcaaaGreatDoor
open Go.ChangeShapes Go.WideShapes Go.ChangeAt Go.RowKit

set_option maxRecDepth 100000 in
set_option maxHeartbeats 4000000 in
theorem pFit_any (P : Nat) (rs : List RR) (st : List Ty) (s : ByteArray) (w : World) (h : QRep w P rs st) (hok : StOk st) (hs : s.size ≤ 9223372036854775807) :
    Calls Tryz.prog 10 #[.pointer (some ⟨P, 0, none⟩), .string s] w fun e w' => e = .returned (.int .i64 (fitS st s.data.toList : Nat)) ∧ Below w.heap.size w w' := by
  have hS := rSplit_any s w hs
  have htr := tup_ref s.data.toList
  have hfew := rels_few hok
  rw [← h.len] at hfew
  have hst : (st.map (·.nm)).length ≤ 1000000 := by have := hok.few; simp; omega
  generalize piecesR signsR s.data.toList = ps at *
  have HH : Hid _ := h
  clear h
  cases hk : okR ps with
  | false =>
    have HR : Hid (fitS st s.data.toList = 5) := fitS_none (by rw [htr, hk]; rfl)
    rw [hk] at hS
    clear htr hk
    unfold cells6 strV at hS
    go_enter Tryz.func10, Tryz.ntmps10
    go_wp2_with (go_at_call 25; refine hS.mono ?_; rintro e w1 ⟨rfl, hb1⟩)
    go_ret
    exact ⟨by rw [HR.out]; rfl, hb1.alloc hb1.size _⟩
  | true =>
    have hfit : fitS st s.data.toList = bif fitB st (partsR ps) then 0 else 6 := fitS_some (by rw [htr, hk]; rfl)
    rw [hk] at hS
    clear htr hk
    generalize fitS st s.data.toList = res at *
    have hP0 : ∃ A : ByteArray, (⟨(ps.getD 0 []).toArray⟩ : ByteArray) = A ∧ A.data.toList = (partsR ps).k := ⟨_, rfl, rfl⟩
    have hP1 : ∃ A : ByteArray, (⟨(ps.getD 1 []).toArray⟩ : ByteArray) = A := ⟨_, rfl⟩
    have hP2 : ∃ A : ByteArray, (⟨(ps.getD 2 []).toArray⟩ : ByteArray) = A ∧ A.data.toList = (partsR ps).r := ⟨_, rfl, rfl⟩
    have hP3 : ∃ A : ByteArray, (⟨(ps.getD 3 []).toArray⟩ : ByteArray) = A ∧ A.data.toList = (partsR ps).k2 := ⟨_, rfl, rfl⟩
    have hP4 : ∃ A : ByteArray, (⟨(ps.getD 4 []).toArray⟩ : ByteArray) = A := ⟨_, rfl⟩
    have hP5 : ∃ A : ByteArray, (⟨(ps.getD 5 []).toArray⟩ : ByteArray) = A ∧ A.data.toList = (partsR ps).r2 := ⟨_, rfl, rfl⟩
    obtain ⟨A0, e0, l0⟩ := hP0
    obtain ⟨A1, e1⟩ := hP1
    obtain ⟨A2, e2, l2⟩ := hP2
    obtain ⟨A3, e3, l3⟩ := hP3
    obtain ⟨A4, e4⟩ := hP4
    obtain ⟨A5, e5, l5⟩ := hP5
    unfold cells6 strV at hS
    rw [e0, e1, e2, e3, e4, e5] at hS
    clear e0 e1 e2 e3 e4 e5
    generalize partsR ps = x at *
    have HFit : Hid _ := hfit
    clear hfit
    go_enter Tryz.func10, Tryz.ntmps10
    go_upto_region 4 with (go_at_call 25; refine hS.mono ?_; rintro e w1 ⟨rfl, hb1⟩)
    clear hS
    have hbA : Below w1.heap.size w1 (w1.alloc (.cells #[.string A0, .string A1, .string A2, .string A3, .string A4, .string A5] 77)) := (Below.refl _ _).alloc (Nat.le_refl _) _
    have HM : Made (w1.alloc (.cells #[.string A0, .string A1, .string A2, .string A3, .string A4, .string A5] 77)) w1.heap.size #[.string A0, .string A1, .string A2, .string A3, .string A4, .string A5] 77 := ⟨heap_alloc_new _ _⟩
    have HB : Hid (Below w.heap.size w (w1.alloc (.cells #[.string A0, .string A1, .string A2, .string A3, .string A4, .string A5] 77))) := hb1.alloc hb1.size _
    have hQ := (HH.out.below hb1).below hbA
    generalize w1.alloc (.cells #[.string A0, .string A1, .string A2, .string A3, .string A4, .string A5] 77) = W at *
    clear hbA hb1
    generalize w1.heap.size = B1 at *
    obtain ⟨v1, a1, a2⟩ := hQ.types
    obtain ⟨v2, b1, b2⟩ := hQ.rels
    have hT : ∀ (A : ByteArray) (n : Nat), Calls Tryz.prog 27 #[.pointer (some ⟨P, 0, none⟩), .string A] (W.drewN n) fun e w' => e = .returned (.int .i64 (typeI st A.data.toList)) ∧ w' = W.drewN n := fun A n => rType_any P v1 _ A (W.drewN n) a1 (owns_same a2 (fun _ _ => rfl)) hst
    have hR : ∀ (k A : ByteArray) (n : Nat), Calls Tryz.prog 26 #[.pointer (some ⟨P, 0, none⟩), .int .i64 (typeI st k.data.toList), .string A] (W.drewN n) fun e w' => e = .returned (.int .i64 (firstI (relAt (typeI st k.data.toList) A.data.toList) rs)) ∧ w' = W.drewN n := fun k A n => rRel_any P v2 rs _ A (W.drewN n) b1 (owns_same b2 (fun _ _ => rfl)) (by omega)
    have hI1 := relI hQ hok A0.data.toList A2.data.toList
    have hI2 := relI hQ hok A3.data.toList A5.data.toList
    have hK := typeI_cases st A3.data.toList
    have hT0 := hT A0
    have hT3 := hT A3
    have hR1 := hR A0 A2
    have hR2 := hR A3 A5
    have HB2 : Hid _ := b2
    have HQ : Hid _ := hQ
    rw [l0, l2] at hI1
    rw [l3, l5] at hI2
    rw [l3] at hK
    rw [l0] at hT0 hR1
    rw [l2] at hR1
    rw [l3] at hT3 hR2
    rw [l5] at hR2
    have d0 := HM.cell 0
    have d2 := HM.cell 2
    have d3 := HM.cell 3
    have d5 := HM.cell 5
    simp only [List.getElem?_toArray, List.getElem?_cons_zero, List.getElem?_cons_succ] at d0 d2 d3 d5
    have HI2 : Hid _ := hI2
    have HK : Hid _ := hK
    have HL5 : Hid (A5.data.toList = x.r2) := l5
    clear hT hR a2 hQ hI2 hK b2 l0 l2 l3 l5 a1
    rcases hI1 with ⟨hf, e⟩ | ⟨q, hq, e, hf⟩
    · rw [e] at hR1
      have HRes : Hid (res = 6) := by show _ = _; rw [HFit.out, fitB_no hf]; rfl
      clear e hf HI2 HFit
      generalize typeI st x.k = t0 at *
      generalize typeI st x.k2 = t3 at *
      go_quiet (first | (go_at_call 27; exact Calls.quiet_of_same (hT0 _)) | (go_at_call 26; exact Calls.quiet_of_same (hR1 _)))
      go_wp2_with (go_at_call 27; refine (hT3 _).mono ?_; rintro e w2 ⟨rfl, hw2⟩; subst w2)
      go_ret
      exact ⟨by rw [HRes.out]; rfl, HB.out.trans (below_drewN _ _ _)⟩
    · rw [e] at hR1
      have HSo : Hid ((findRel st x.k x.r).isSome = true) := by show _ = _; rw [hf]; rfl
      clear e hf
      generalize typeI st x.k = t0 at *
      rcases HK.out with ⟨hno, e⟩ | ⟨hin, k2, hk2, e, _⟩
      · rw [e] at hT3
        have HRes : Hid (res = 6) := by show _ = _; rw [HFit.out, fitB_type hok hno]; rfl
        clear e hno HI2 HFit HK hR2
        go_quiet (first | (go_at_call 27; exact Calls.quiet_of_same (hT0 _)) | (go_at_call 26; exact Calls.quiet_of_same (hR1 _)))
        go_wp2_with (go_at_call 27; refine (hT3 _).mono ?_; rintro e w2 ⟨rfl, hw2⟩; subst w2)
        go_ret
        exact ⟨by rw [HRes.out]; rfl, HB.out.trans (below_drewN _ _ _)⟩
      · rw [e] at hT3 hR2
        have HI3 : Hid ((findRel st x.k2 x.r2 = none ∧ firstI (relAt (k2 : Int) x.r2) rs = -1) ∨ ∃ q, ∃ hq : q < rs.length, firstI (relAt (k2 : Int) x.r2) rs = (q : Nat) ∧ findRel st x.k2 x.r2 = some rs[q].set) := by
          have := HI2.out
          rw [e] at this
          exact this
        clear e HK HI2
        go_quiet (first | (go_at_call 27; exact Calls.quiet_of_same (hT0 _)) | (go_at_call 26; exact Calls.quiet_of_same (hR1 _)))
        clear hT0 hR1
        by_cases hr : x.r2 = []
        · have HRes : Hid (res = 0) := by show _ = _; rw [HFit.out, fitB_obj HSo.out hr, decide_eq_true hin]; rfl
          have hq5 : (A5.toList == []) = true := by rw [ByteArray.toList_eq, HL5.out, hr]; rfl
          clear HFit hr hin HI3 hR2
          go_wp2_with (go_at_call 27; refine (hT3 _).mono ?_; rintro e w2 ⟨rfl, hw2⟩; subst w2)
          go_ret
          exact ⟨by rw [HRes.out]; rfl, HB.out.trans (below_drewN _ _ _)⟩
        · have hres := HFit.out
          rw [fitB_set HSo.out hr] at hres
          have hq5 : (A5.toList == []) = false := by rw [ByteArray.toList_eq, HL5.out, beq_eq_false_iff_ne]; exact hr
          clear HFit hr hin
          rcases HI3.out with ⟨hf, e⟩ | ⟨q2, hq2, e, hf⟩
          · rw [e] at hR2
            have HRes : Hid (res = 6) := by show _ = _; rw [hres, hf]; rfl
            clear e hf HI3 hres
            go_wp2_with first | (go_at_call 27; refine (hT3 _).mono ?_; rintro e w2 ⟨rfl, hw2⟩; subst w2) | (go_at_call 26; refine (hR2 _).mono ?_; rintro e w2 ⟨rfl, hw2⟩; subst w2)
            go_ret
            exact ⟨by rw [HRes.out]; rfl, HB.out.trans (below_drewN _ _ _)⟩
          · rw [e] at hR2
            rw [hf] at hres
            have HRes : Hid (res = bif rs[q2].set then 0 else 6) := by show _ = _; rw [hres]; cases rs[q2].set <;> rfl
            obtain ⟨g, cap, rfl⟩ : ∃ g cap, v2 = .slice (some ⟨g, 0, none⟩) rs.length cap := by
              rcases HB2.out.2 with ⟨_, h2⟩ | ⟨g, cap, cur, e, _⟩
              · omega
              · exact ⟨g, cap, e⟩
            have c2 := RowRR.cell HB2.out q2 hq2 2 (by decide)
            have c2' : W.cell? ⟨g, q2 * 5 + 2, none⟩ = some (.bool rs[q2].set) := c2
            have hqI : (q2 : Int) < (rs.length : Int) := by omega
            clear e hf HI3 hres c2 HB2
            generalize rs[q2].set = b at *
            generalize rs.length = n at *
            cases b with
            | true =>
              go_wp2_with first | (go_at_call 27; refine (hT3 _).mono ?_; rintro e w2 ⟨rfl, hw2⟩; subst w2) | (go_at_call 26; refine (hR2 _).mono ?_; rintro e w2 ⟨rfl, hw2⟩; subst w2)
              go_ret
              exact ⟨by rw [HRes.out]; rfl, HB.out.trans (below_drewN _ _ _)⟩
            | false =>
              go_wp2_with first | (go_at_call 27; refine (hT3 _).mono ?_; rintro e w2 ⟨rfl, hw2⟩; subst w2) | (go_at_call 26; refine (hR2 _).mono ?_; rintro e w2 ⟨rfl, hw2⟩; subst w2)
              go_ret
              exact ⟨by rw [HRes.out]; rfl, HB.out.trans (below_drewN _ _ _)⟩
end Go.Proofs.YtlgodpadcilcaaaGreatDoor
namespace Go.Proofs.YtlgodpadcilcaaaGreatDoor
open Go.ChangeShapes Go.WideShapes Go.ChangeAt Go.RowKit

set_option maxHeartbeats 4000000 in
theorem rFits_any (s t : ByteArray) (w : World) (ht : t.size ≤ 9223372036854775807) :
    Calls Tryz.prog 5 #[.string s, .string t] w fun e w' => (∃ v : Nat, e = .returned (.int .i64 (v : Nat)) ∧ FitsR (schemaS s.data.toList) (splitL 10 s.data.toList) t.data.toList v) ∧ Below w.heap.size w w' := by
  have hP := Read_any s w
  generalize schemaS s.data.toList = res at *
  generalize splitL 10 s.data.toList = ls at *
  obtain ⟨r1, r2⟩ := res
  simp only at hP
  go_enter Tryz.func5, Tryz.ntmps5
  go_upto_region 2 with (go_at_call 9; refine hP.mono ?_; rintro e w1 ⟨p, rfl, hE, hb1⟩)
  clear hP
  by_cases h0 : r2 = 0
  · subst h0
    obtain ⟨P, V, tb, rb, nb, N, rs, st, rfl, hl, hok, hPl, hz⟩ := hE rfl
    have hF := pFit_any P rs st t w1 (QRep.of hPl hz) hok ht
    have HV : Hid (FitsR (r1, 0) ls t.data.toList (fitS st t.data.toList)) := ⟨fun h => absurd rfl h, fun _ => ⟨st, hl, rfl⟩⟩
    generalize fitS st t.data.toList = v at *
    have HB1 : Hid _ := hb1
    clear hE hl hok hPl hz hb1
    go_wp2_with (go_at_call 10; refine hF.mono ?_; rintro e w2 ⟨rfl, hb2⟩)
    go_ret
    exact ⟨⟨v, rfl, HV.out⟩, HB1.out.trans (hb2.mono HB1.out.size)⟩
  · have hq : (((r2 : Nat) : Int) == 0) = false := by rw [beq_eq_false_iff_ne]; omega
    have hq2 : ¬ ((r2 : Nat) : Int) = 0 := by omega
    have HV : Hid (FitsR (r1, r2) ls t.data.toList r2) := ⟨fun _ => rfl, fun h => absurd h h0⟩
    clear hE
    go_wp2
    go_ret
    exact ⟨⟨r2, rfl, HV.out⟩, hb1⟩

theorem numF_any (x : Int) (w : World) : Calls Tryz.prog 6 #[.int .i64 x] w fun e w' => e = .returned (.int .i64 x) ∧ w' = w := by
  go_enter Tryz.func6, Tryz.ntmps6
  go_wp2
  go_ret
  exact ⟨rfl, rfl⟩

/-- the schema that is one -/
def firstT : List UInt8 := [116, 121, 112, 101, 32, 97, 10, 115, 101, 116, 32, 98, 32, 115, 101, 108, 102]
def firstSt : List Ty := [⟨[97], [⟨[97], [98], true, .leaf .self, 1⟩]⟩]
theorem first_lines : linesS [] 0 (splitL 10 firstT) = .inr firstSt := by rfl
theorem first_S : schemaS firstT = (1, 0) := by
  rw [schemaS_inr (by decide) first_lines]
  refine afterS_fine (by rfl) ?_ _ _
  rintro ⟨x, hx, y, hy, hag, _⟩
  simp [relsOf, firstSt] at hx hy
  subst hx
  subst hy
  simp [agB, Exp.flat] at hag
theorem first_of {t : List UInt8} {v : Nat} (h : FitsR (schemaS firstT) (splitL 10 firstT) t v) : v = fitS firstSt t := by
  obtain ⟨st, h1, h2⟩ := h.2 (by rw [first_S])
  rw [first_lines] at h1
  cases h1
  exact h2

set_option maxHeartbeats 4000000 in
theorem Fit_any (s t : ByteArray) (w : World) (ht : t.size ≤ 9223372036854775807) : Calls Tryz.prog 3 #[.string s, .string t] w fun e w' => e = .returned (.bool true) ∧ Below w.heap.size w w' := by
  have h0 : ∀ u, Calls Tryz.prog 4 #[.string ⟨#[116, 121, 112, 101, 32, 97, 10, 115, 101, 116, 32, 98, 32, 115, 101, 108, 102]⟩, .string ⟨#[97, 58, 49, 35, 98, 64, 97, 58, 50, 35, 98]⟩] u fun e w' => e = .returned (.int .i64 0) ∧ Below u.heap.size u w' := fun u => by
    refine (wFits_any ⟨firstT.toArray⟩ ⟨#[97, 58, 49, 35, 98, 64, 97, 58, 50, 35, 98]⟩ u (by decide)).mono ?_
    rintro e w' ⟨⟨v, rfl, hv⟩, hb⟩
    refine ⟨?_, hb⟩
    rw [first_of hv]
    rfl
  have h1 : ∀ u, Calls Tryz.prog 4 #[.string ⟨#[116, 121, 112, 101, 32, 97, 10, 115, 101, 116, 32, 98, 32, 115, 101, 108, 102]⟩, .string ⟨#[97, 58, 49, 35, 98]⟩] u fun e w' => e = .returned (.int .i64 5) ∧ Below u.heap.size u w' := fun u => by
    refine (wFits_any ⟨firstT.toArray⟩ ⟨#[97, 58, 49, 35, 98]⟩ u (by decide)).mono ?_
    rintro e w' ⟨⟨v, rfl, hv⟩, hb⟩
    refine ⟨?_, hb⟩
    rw [first_of hv]
    rfl
  have h2 := fun u => wFits_any s t u ht
  have h3 := fun u => rFits_any s t u ht
  generalize schemaS s.data.toList = res at *
  generalize splitL 10 s.data.toList = ls at *
  go_enter Tryz.func3, Tryz.ntmps3
  go_upto_region 2 with (go_at_call 4; refine (h0 _).mono ?_; rintro e w1 ⟨rfl, hb1⟩)
  go_upto_region 3 with (go_at_call 4; refine (h1 _).mono ?_; rintro e w2 ⟨rfl, hb2⟩)
  go_upto_region 4 with (go_at_call 4; refine (h2 _).mono ?_; rintro e w3 ⟨⟨v, rfl, hv⟩, hb3⟩)
  go_upto_region 5 with (go_at_call 5; refine (h3 _).mono ?_; rintro e w4 ⟨⟨v2, rfl, hv2⟩, hb4⟩)
  obtain rfl := FitsR.one hv hv2
  clear h0 h1 h2 h3 hv hv2
  go_wp2_with (go_at_call 6; refine (numF_any _ _).mono ?_; rintro e w5 ⟨rfl, hw5⟩; subst w5)
  go_ret
  have hb := hb1.trans ((hb2.trans ((hb3.trans (hb4.mono hb3.size)).mono hb2.size)).mono hb1.size)
  exact ⟨by first | rfl | simp, ⟨hb.os, hb.tape, hb.output, hb.size, hb.block⟩⟩
end Go.Proofs.YtlgodpadcilcaaaGreatDoor
