import Derived.Test.YtjbkpibkpiljoaaPureB
namespace Go.Proofs.Ytjbkpibkpiljoaa
open Go.ChangeShapes Go.WideShapes Go.ChangeAt Go.RowKit

set_option maxHeartbeats 400000 in
theorem pick_any (c : Int) (n : Nat) (w : World) (h0 : -9223372036854775808 ≤ c) (h1 : c ≤ 9223372036854775807) (hn : 0 < n) (hn2 : n ≤ 100000) :
    Calls Try.prog 11 #[.int .i64 c, .int .i64 (n : Int)] w fun e w' => ∃ k : Nat, k < n ∧ e = .returned (.int .i64 (k : Int)) ∧ w' = w := by
  by_cases hc : c < 0
  · go_enter Try.func11, Try.ntmps11
    go_wp2
    go_ret
    have h2 : (0 : Int) ≤ -(c + 1) := by omega
    have h3 := Int.emod_nonneg (-(c + 1)) (show (n : Int) ≠ 0 by omega)
    have h4 := Int.emod_lt_of_pos (-(c + 1)) (show (0 : Int) < (n : Int) by omega)
    refine ⟨((-(c + 1)) % (n : Int)).toNat, by omega, ret_int ?_, rfl⟩
    rw [← Int.neg_tmod, Int.tmod_eq_emod_of_nonneg h2]
    omega
  · go_enter Try.func11, Try.ntmps11
    go_wp2
    go_ret
    have h3 := Int.emod_nonneg c (show (n : Int) ≠ 0 by omega)
    have h4 := Int.emod_lt_of_pos c (show (0 : Int) < (n : Int) by omega)
    exact ⟨(c % (n : Int)).toNat, by omega, ret_int (by omega), rfl⟩

def lastF (qs : List (List UInt8)) : List UInt8 := match qs.getLast? with
  | none => []
  | some p => frameL p
theorem lastF_snoc (qs : List (List UInt8)) (p : List UInt8) : lastF (qs ++ [p]) = frameL p := by simp [lastF]

set_option maxHeartbeats 400000 in
theorem framed_some (a : Addr) (cap : Nat) (cut : Int) (ps : List (List UInt8)) (w : World) (hl : ps.length ≤ 8796093022208) (hl0 : 0 < ps.length)
    (ha : ∀ i (h : i < ps.length), w.cell? (a.add i) = some (strV ps[i])) (hz : ∀ p ∈ ps, p.length ≤ maxLen) (h0 : -9223372036854775808 ≤ cut) (h1 : cut ≤ 9223372036854775807) (hcap : ps.length ≤ cap) :
    Calls Try.prog 4 #[.slice (some a) ps.length cap, .int .i64 cut] w fun e w' => e = .returned (.bool true) ∧ Below w.heap.size w w' := by
  have HA := show Hid (∀ i (h : i < ps.length), w.cell? (a.add i) = some (strV ps[i])) from ha
  clear ha
  go_enter Try.func4, Try.ntmps4
  go_wp2_with fail
  refine (frame_yes ⟨#[]⟩ _ (by show 0 ≤ _; omega)).mono ?_
  rintro e w1 ⟨rfl, hb1⟩
  rw [show (⟨#[]⟩ : ByteArray).data.toList = [] from rfl, frame_none]
  go_wp2
  go_loopw [7, 8, 9, 10] (fun sv lv nv iv wr => ∃ k : Nat, k ≤ ps.length ∧ iv = .int .i64 (k : Int) ∧ Hid (∀ p ∈ ps.take k, p.length ≤ 65535) ∧ sv = .string ⟨(catL (ps.take k)).toArray⟩ ∧ lv = .string ⟨(lastF (ps.take k)).toArray⟩ ∧ nv = .int .i64 ((catL (ps.take k).dropLast).length : Nat) ∧ Below w.heap.size w wr) (fun _ _ _ i _ => ps.length - (intOf i).toNat)
  case atStart => exact ⟨0, Nat.zero_le _, rfl, by intro p hp; simp at hp, rfl, rfl, rfl, hb1⟩
  case round =>
    obtain ⟨k, hk, rfl, Hsm, rfl, rfl, rfl, hb⟩ := hrel
    have hcl := catL_length _ Hsm.out
    rw [List.length_take] at hcl
    by_cases hlt : k < ps.length
    · have hw := HA.out k hlt
      have hbl := World.block_lt_of_cell? w _ hw
      have hce : wr.cell? (a.add k) = some (.string ⟨ps[k].toArray⟩) := (World.cell?_of_block (w := w) (hb.block _ hbl)).trans hw
      have hpz := hz ps[k] (List.getElem_mem hlt)
      unfold maxLen at hpz
      have hsz : (⟨ps[k].toArray⟩ : ByteArray).size = ps[k].length := by show ps[k].toArray.size = _; simp
      have htk : ps.take (k + 1) = ps.take k ++ [ps[k]] := List.take_succ_eq_append_getElem hlt
      by_cases hp : ps[k].length ≤ 65535
      · have HS : Hid (catL (ps.take (k + 1)) = catL (ps.take k) ++ frameL ps[k]) := by show _ = _; rw [htk, catL_snoc]
        have HLs : Hid (lastF (ps.take (k + 1)) = frameL ps[k]) := by show _ = _; rw [htk, lastF_snoc]
        have HD : Hid ((ps.take (k + 1)).dropLast = ps.take k) := by show _ = _; rw [htk, List.dropLast_concat]
        have Hsm2 : Hid (∀ p ∈ ps.take (k + 1), p.length ≤ 65535) := by
          intro p hm
          rw [htk, List.mem_append] at hm
          rcases hm with hm | hm
          · exact Hsm.out p hm
          · obtain rfl : p = ps[k] := by simpa using hm
            exact hp
        have HF := show Hid (∀ w, _) from fun w => frame_yes ⟨ps[k].toArray⟩ w (by rw [hsz]; exact hp)
        rw [show (⟨ps[k].toArray⟩ : ByteArray).data.toList = ps[k] from by simp] at HF
        have hfl := frameL_length ps[k]
        clear htk hw hz Hsm
        generalize frameL ps[k] = f at *
        generalize ps[k] = p at *
        generalize hc0 : catL (ps.take k) = c0 at *
        have HC0 := show Hid (catL (ps.take k) = c0) from hc0
        clear hc0
        go_wp2_with fail
        refine (HF.out _).mono ?_
        rintro e w2 ⟨rfl, hb2⟩
        have hce2 : w2.cell? (a.add k) = some (.string ⟨p.toArray⟩) := (World.cell?_of_block (w := wr) (hb2.block _ (World.block_lt_of_cell? wr _ hce))).trans hce
        have hq1 : decide ((65535 : Int) < (p.length : Int)) = false := by simp; omega
        have hq2 : (((f.length : Nat) : Int) != (p.length : Int) + 6) = false := by simp; omega
        have hmin : min k ps.length = k := by omega
        rw [hmin] at hcl
        clear hmin
        go_wp2
        go_roundw
        case rel => exact ⟨k + 1, by omega, by go_num, Hsm2, by rw [lists_add, HS.out], by rw [HLs.out], by rw [HD.out, HC0.out], hb.trans (hb2.mono hb.size)⟩
        case measure => simp [intOf]; omega
      · have HF := show Hid (∀ w, _) from fun w => frame_no ⟨ps[k].toArray⟩ w (by rw [hsz]; omega) (by rw [hsz]; unfold maxLen; omega)
        clear htk hw hz Hsm
        generalize ps[k] = p at *
        go_wp2_with fail
        refine (HF.out _).mono ?_
        rintro e w2 ⟨rfl, rfl⟩
        have hq1 : decide ((65535 : Int) < (p.length : Int)) = true := by simp; omega
        go_wp2
        go_ret
        exact ⟨rfl, hb⟩
    · obtain rfl : k = ps.length := by omega
      have Hsm1 := Hsm.out
      rw [List.take_length] at Hsm1 hcl
      have HSm := show Hid (∀ p ∈ ps, p.length ≤ 65535) from Hsm1
      clear Hsm1 Hsm hz
      rw [List.take_length]
      obtain ⟨init, z, hps⟩ : ∃ init z, ps = init ++ [z] := ⟨ps.dropLast, ps.getLast (by intro e; simp [e] at hl0), (List.dropLast_concat_getLast _).symm⟩
      have HL1 : lastF ps = frameL z := by rw [hps, lastF_snoc]
      have HD1 : ps.dropLast = init := by rw [hps, List.dropLast_concat]
      rw [HL1, HD1]
      have HLen : Hid (init.length + 1 = ps.length) := by show _ = _; rw [hps]; simp
      have hz16 : z.length ≤ 65535 := HSm.out z (by rw [hps]; simp)
      have hfz := frameL_length z
      have HAll : Hid (framesL (catL ps) = (ps, (catL ps).length)) := framesL_all ps HSm.out
      have HSum : Hid ((catL init).length + (frameL z).length = (catL ps).length) := by show _ = _; rw [hps, catL_snoc, List.length_append]
      have HCut : Hid (∀ k, k < (frameL z).length → framesL ((catL ps).take ((catL init).length + k)) = (init, (catL init).length)) := by
        intro k hk
        rw [hps, catL_snoc, List.take_append, List.take_of_length_le (by omega), show (catL init).length + k - (catL init).length = k by omega]
        exact framesL_cat init _ (fun p hp => HSm.out p (by rw [hps]; simp [hp])) (firstOf_short z k hz16 (by rw [← hfz]; exact hk))
      have HInit : Hid (∀ (W : World), Strs W (.slice (some a) ps.length cap) ps → Strs W (.slice (some a) (ps.length - 1) cap) init) := by
        intro W h
        have e : ps.length - 1 = init.length := by have := HLen.out; omega
        rw [e]
        rcases h with ⟨p, c, hv, he⟩ | ⟨a', c, hv, hc⟩
        · rw [he] at hl0; simp at hl0
        · cases hv
          refine .inr ⟨a, cap, rfl, fun i hi => ?_⟩
          rw [hc i (by have := HLen.out; omega)]
          congr 2
          simp [hps, hi]
      have HPs : Hid (Strs w (.slice (some a) ps.length cap) ps) := .inr ⟨a, cap, rfl, HA.out⟩
      clear hps HL1 HD1 HSm HA
      generalize catL ps = cs at *
      generalize frameL z = f at *
      generalize (catL init).length = m0 at *
      have hcs : cs.length ≤ 1000000000000000000 := by omega
      have hf0 : 0 < f.length := by omega
      have hf1 : f.length ≤ 70000 := by omega
      have hsum1 : m0 + f.length ≤ cs.length := by have := HSum.out; omega
      clear hfz hz16 hcl
      have hcsz : (⟨cs.toArray⟩ : ByteArray).size = cs.length := by show cs.toArray.size = _; simp
      have HFr := show Hid (∀ w, _) from fun w => frames_any ⟨cs.toArray⟩ w (by rw [hcsz]; omega) (by rw [show (⟨cs.toArray⟩ : ByteArray).data.toList = cs from by simp, HAll.out]; exact hl)
      rw [show (⟨cs.toArray⟩ : ByteArray).data.toList = cs from by simp, HAll.out] at HFr
      clear HAll
      go_wp2_with fail
      refine (HFr.out _).mono ?_
      rintro e w2 ⟨v2, rfl, hown2, hb2⟩
      have hb02 := hb.trans (hb2.mono hb.size)
      have HS2 := show Hid (Strs w2 v2 ps) from Strs.of_owns hown2
      have HP2 := show Hid (Strs w2 (.slice (some a) ps.length cap) ps) from HPs.out.cells_same hb02
      clear hown2 hb2 HFr
      go_wp2_with fail
      refine (same_any _ _ ps _ (by omega) HS2.out HP2.out).mono ?_
      rintro e w3 ⟨rfl, nd, rfl⟩
      have hb03 := hb02.trans (below_drewN w2 nd _)
      clear hb02 HS2 HP2
      generalize w2.drewN nd = w3 at *
      have hq5 : (((cs.length : Nat) : Int) != ((cs.length : Nat) : Int)) = false := by simp
      have hne : (f == []) = false := by
        cases f with
        | nil => simp at hf0
        | cons => rfl
      go_wp2_with fail
      refine (pick_any cut f.length _ h0 h1 hf0 (by omega)).mono ?_
      rintro e w4 ⟨k, hk, rfl, rfl⟩
      have hcut := HCut.out k hk
      have hexl : ((⟨cs.toArray⟩ : ByteArray).extract 0 (m0 + k)).data.toList = cs.take (m0 + k) := by
        rw [extract_list]; simp
      have HFr := show Hid (∀ w, _) from fun w => frames_any ((⟨cs.toArray⟩ : ByteArray).extract 0 (m0 + k)) w (by rw [ByteArray.size_extract]; omega) (by rw [hexl, hcut]; have := HLen.out; show init.length ≤ _; omega)
      rw [hexl, hcut] at HFr
      clear hexl hcut HCut
      go_wp2_with fail
      refine (HFr.out _).mono ?_
      rintro e w5 ⟨v5, rfl, hown5, hb5⟩
      have hb05 := hb03.trans (hb5.mono hb03.size)
      have HS5 := show Hid (Strs w5 v5 init) from Strs.of_owns hown5
      have HP5 := show Hid (Strs w5 (.slice (some a) (ps.length - 1) cap) init) from HInit.out _ (HPs.out.cells_same hb05)
      clear hown5 hb5 HFr
      go_wp2_with fail
      refine (same_any _ _ init _ (by have := HLen.out; omega) HS5.out HP5.out).mono ?_
      rintro e w6 ⟨rfl, nd2, rfl⟩
      go_wp2
      go_ret
      exact ⟨rfl, hb05.trans (below_drewN _ _ _)⟩

set_option maxHeartbeats 400000 in
theorem framed_none (a : Option Addr) (cap : Nat) (cut : Int) (w : World) :
    Calls Try.prog 4 #[.slice a 0 cap, .int .i64 cut] w fun e w' => e = .returned (.bool true) ∧ Below w.heap.size w w' := by
  go_enter Try.func4, Try.ntmps4
  go_wp2_with fail
  refine (frame_yes ⟨#[]⟩ _ (by show 0 ≤ _; omega)).mono ?_
  rintro e w1 ⟨rfl, hb1⟩
  rw [show (⟨#[]⟩ : ByteArray).data.toList = [] from rfl, frame_none]
  go_wp2
  go_loopw [7, 8, 9, 10] (fun sv lv nv iv wr => sv = .string ⟨#[]⟩ ∧ lv = .string ⟨#[]⟩ ∧ nv = .int .i64 0 ∧ iv = .int .i64 0 ∧ Below w.heap.size w wr) (fun _ _ _ _ _ => 0)
  case atStart => exact ⟨rfl, rfl, rfl, rfl, hb1⟩
  case round =>
    obtain ⟨rfl, rfl, rfl, rfl, hb⟩ := hrel
    have HFr := show Hid (∀ w, _) from fun w => frames_any ⟨#[]⟩ w (by show 0 ≤ _; omega) (by rw [show (⟨#[]⟩ : ByteArray).data.toList = [] from rfl, framesL_none firstOf_nil]; show 0 ≤ _; omega)
    rw [show (⟨#[]⟩ : ByteArray).data.toList = [] from rfl, framesL_none firstOf_nil] at HFr
    go_wp2_with fail
    refine (HFr.out _).mono ?_
    rintro e w2 ⟨v2, rfl, hown2, hb2⟩
    have hb02 := hb.trans (hb2.mono hb.size)
    have HS2 := show Hid (Strs w2 v2 []) from Strs.of_owns hown2
    have HP2 : Hid (Strs w2 (.slice a 0 cap) []) := .inl ⟨a, cap, rfl, rfl⟩
    clear hown2 hb2 HFr
    go_wp2_with fail
    refine (same_any _ _ [] _ (by show 0 ≤ _; omega) HS2.out HP2.out).mono ?_
    rintro e w3 ⟨rfl, nd, rfl⟩
    go_wp2
    go_ret
    exact ⟨rfl, hb02.trans (below_drewN _ _ _)⟩
end Go.Proofs.Ytjbkpibkpiljoaa
