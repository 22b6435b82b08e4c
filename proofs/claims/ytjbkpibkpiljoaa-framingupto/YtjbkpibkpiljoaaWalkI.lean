import Derived.Test.YtjbkpibkpiljoaaWalkH
import Derived.Deep.RegionWith
namespace Go.Proofs.Ytjbkpibkpiljoaa
open Go.ChangeShapes Go.WideShapes Go.ChangeAt Go.RowKit

theorem two_bytes (s : ByteArray) (r : Nat) (h : r + 1 < s.size) : fromL ((s.data.toList.drop r).take 2) = 256 * (s[r]'(by omega)).toNat + (s[r + 1]).toNat := by
  have e : (s.data.toList.drop r).take 2 = [s[r]'(by omega), s[r + 1]] := by
    rw [List.drop_eq_getElem_cons (by rw [size_list]; omega), List.drop_eq_getElem_cons (by rw [size_list]; omega)]
    rfl
  rw [e]
  simp [fromL]
  omega

theorem firstOf_drop (d : List UInt8) (r n : Nat) (hn : fromL ((d.drop r).take 2) = n) :
    firstOf (d.drop r) = if d.length - r < n + 6 then none else if (d.drop (r + 2 + n)).take 4 = wideL (crc ((d.drop r).take (2 + n))) 4 then some ((d.drop (r + 2)).take n) else none := by
  unfold firstOf
  rw [hn, List.length_drop, List.drop_drop, List.drop_drop, show r + (n + 2) = r + 2 + n by omega, Nat.add_comm n 2]

theorem wrap_i64_small (x : Int) (h0 : 0 ≤ x) (h1 : x < 1000000000) : IntKind.i64.wrap x = x := by
  simp only [IntKind.wrap, IntKind.bits, IntKind.signed]
  simp
  omega

set_option maxHeartbeats 1000000 in
theorem refFrames_any (s : ByteArray) (w : World) (hs : s.size ≤ 100000000) :
    Calls Try.prog 14 #[.string s] w fun e w' => ∃ v, e = .returned (.tuple #[v, .int .i64 ((framesL s.data.toList).2 : Nat)]) ∧ w'.ownsRow w.heap.size 9 1 v (framesL s.data.toList).1.length ((framesL s.data.toList).1.map strV) ∧ Below w.heap.size w w' := by
  obtain ⟨i0, hi, hz0, hz1, hz2⟩ := info_parts info9
  go_enter Try.func14, Try.ntmps14
  go_wp2
  go_loopw [4, 5] (fun v i wr => ∃ (r : Nat) (xs : List (List UInt8)), i = .int .i64 r ∧ r ≤ s.size ∧ wr.ownsRow w.heap.size 9 1 v xs.length (xs.map strV) ∧ Below w.heap.size w wr ∧ Read s.data.toList r xs) (fun _ i _ => s.size - (intOf i).toNat)
  case atStart => exact ⟨0, [], rfl, Nat.zero_le _, World.ownsRow_nil _ _ _ _, Below.refl _ _, Read.zero _⟩
  case round =>
    obtain ⟨r, xs, rfl, hr, hown, hb, hR⟩ := hrel
    by_cases hr6 : s.size < r + 6
    · have hf : firstOf (s.data.toList.drop r) = none := by
        rw [firstOf_drop _ _ _ rfl, if_pos (by rw [size_list]; omega)]
      have HR : Hid (framesL s.data.toList = (xs, r)) := hR.done hf
      clear hf hR
      have hd : decide ((s.size : Int) < (r : Int) + 6) = true := by simp; omega
      go_wp2
      go_ret2
      refine ⟨u4, ?_, ?_, hb⟩
      · rw [HR.out]; rfl
      · rw [HR.out]; exact hown
    · have h01 : r + 1 < s.size := by omega
      have h00 : r < s.size := by omega
      have hn := two_bytes s r h01
      have hfd := firstOf_drop _ _ _ hn
      have hb0 : s[r].toNat < 256 := s[r].toNat_lt
      have hb1 : s[r + 1].toNat < 256 := s[r + 1].toNat_lt
      have hd : decide ((s.size : Int) < (r : Int) + 6) = false := by simp; omega
      have HN : Hid (fromL ((s.data.toList.drop r).take 2) = 256 * s[r].toNat + s[r + 1].toNat) := hn
      have HFD := show Hid (_ = _) from hfd
      clear hn hfd
      have hix : ∀ u : World, (Instr.index 9 (.string s) (.int .i64 ((r : Int) + 1))).run Try.prog u = .ok (.int .u8 (s[r + 1].toNat : Int)) u := fun u => by
        rw [run_index_string u 9 s .i64 ((r : Int) + 1) Try.underlying9, dif_pos (by omega)]
        rfl
      have HNI : Hid (256 * (s[r].toNat : Int) + (s[r + 1].toNat : Int) = ((256 * s[r].toNat + s[r + 1].toNat : Nat) : Int)) := by show _ = _; omega
      have hnl : 256 * s[r].toNat + s[r + 1].toNat < 65536 := by omega
      generalize 256 * s[r].toNat + s[r + 1].toNat = n at HNI HFD HN hnl
      go_wp2
      go_quiet (fail)
      rw [HNI.out]
      have hb' : Below w.heap.size w (wr.drewN nq) := hb.trans (below_drewN _ _ _)
      have hown' : (wr.drewN nq).ownsRow w.heap.size 9 1 u4 xs.length (xs.map strV) := hown
      clear hb hown hix HN hd hb0 hb1
      generalize wr.drewN nq = w1 at *
      by_cases hr7 : s.size < r + 6 + n
      · have hf : firstOf (s.data.toList.drop r) = none := by
          rw [HFD.out, if_pos (by rw [size_list]; omega)]
        have HR : Hid (framesL s.data.toList = (xs, r)) := hR.done hf
        clear hf hR HFD
        have hd : decide ((s.size : Int) < (r : Int) + 6 + (n : Int)) = true := by simp; omega
        go_wp2
        go_ret2
        refine ⟨u4, ?_, ?_, hb'⟩
        · rw [HR.out]; rfl
        · rw [HR.out]; exact hown'
      · have hd : decide ((s.size : Int) < (r : Int) + 6 + (n : Int)) = false := by simp; omega
        have hsA : ∀ u : World, (Instr.slice 9 (.string s) (some (.int .i64 (r : Int))) (some (.int .i64 ((r : Int) + 2 + (n : Int)))) none).run Try.prog u = .ok (.string (s.extract r (r + 2 + n))) u := fun u => by
          have h := run_slice_string (P := Try.prog) u 9 s .i64 .i64 (r : Int) ((r : Int) + 2 + (n : Int)) Try.underlying9 (by omega) (by omega) (by omega)
          rw [show ((r : Int) + 2 + n).toNat = r + 2 + n by omega] at h
          exact h
        have hsB : ∀ u : World, (Instr.slice 9 (.string s) (some (.int .i64 ((r : Int) + 2 + (n : Int)))) (some (.int .i64 ((r : Int) + 6 + (n : Int)))) none).run Try.prog u = .ok (.string (s.extract (r + 2 + n) (r + 6 + n))) u := fun u => by
          have h := run_slice_string (P := Try.prog) u 9 s .i64 .i64 ((r : Int) + 2 + (n : Int)) ((r : Int) + 6 + (n : Int)) Try.underlying9 (by omega) (by omega) (by omega)
          rw [show ((r : Int) + 2 + n).toNat = r + 2 + n by omega, show ((r : Int) + 6 + n).toNat = r + 6 + n by omega] at h
          exact h
        have hsC : ∀ u : World, (Instr.slice 9 (.string s) (some (.int .i64 ((r : Int) + 2))) (some (.int .i64 ((r : Int) + 2 + (n : Int)))) none).run Try.prog u = .ok (.string (s.extract (r + 2) (r + 2 + n))) u := fun u => by
          have h := run_slice_string (P := Try.prog) u 9 s .i64 .i64 ((r : Int) + 2) ((r : Int) + 2 + (n : Int)) Try.underlying9 (by omega) (by omega) (by omega)
          rw [show ((r : Int) + 2 + n).toNat = r + 2 + n by omega, show ((r : Int) + 2).toNat = r + 2 by omega] at h
          exact h
        have hck := refcheck_any (s.extract r (r + 2 + n))
        rw [extract_list, show r + 2 + n - r = 2 + n by omega] at hck
        have hsz : (s.extract r (r + 2 + n)).size ≤ maxLen := by rw [ByteArray.size_extract]; unfold maxLen; omega
        have HC : Hid (∀ (w : World), Calls Try.prog 20 #[.string (s.extract r (r + 2 + n))] w fun e w' => e = .returned (.int .u32 (crc ((s.data.toList.drop r).take (2 + n)) : Nat)) ∧ w' = w) := fun w => hck w hsz
        have hcl := crc_lt ((s.data.toList.drop r).take (2 + n))
        clear hck hsz
        have hD := HFD.out
        rw [if_neg (by rw [size_list]; omega)] at hD
        clear HFD
        generalize crc ((s.data.toList.drop r).take (2 + n)) = c at *
        have HB : Hid ((s.data.toList.drop (r + 2 + n)).take 4 = (s.extract (r + 2 + n) (r + 6 + n)).data.toList) := by
          show _ = _
          rw [extract_list, show r + 6 + n - (r + 2 + n) = 4 by omega]
        have HX : Hid ((s.data.toList.drop (r + 2)).take n = (s.extract (r + 2) (r + 2 + n)).data.toList) := by
          show _ = _
          rw [extract_list, show r + 2 + n - (r + 2) = n by omega]
        have HQ : Hid ((s.extract (r + 2 + n) (r + 6 + n)).toList = (s.data.toList.drop (r + 2 + n)).take 4) := by
          show _ = _
          rw [ByteArray.toList_eq, HB.out]
        clear HB
        generalize s.extract (r + 2 + n) (r + 6 + n) = t4 at *
        generalize (s.data.toList.drop (r + 2 + n)).take 4 = l4 at *
        go_wp2_with (go_at_call 20; refine (HC.out _).mono ?_; rintro e w2 ⟨rfl, rfl⟩)
        have hw2 : IntKind.i64.wrap ((r : Int) + 2) = (r : Int) + 2 := wrap_i64_small _ (by omega) (by omega)
        have hw3 : IntKind.i64.wrap ((r : Int) + 2 + (n : Int)) = (r : Int) + 2 + (n : Int) := wrap_i64_small _ (by omega) (by omega)
        have hw6 : IntKind.i64.wrap ((r : Int) + 6) = (r : Int) + 6 := wrap_i64_small _ (by omega) (by omega)
        have hw7 : IntKind.i64.wrap ((r : Int) + 6 + (n : Int)) = (r : Int) + 6 + (n : Int) := wrap_i64_small _ (by omega) (by omega)
        go_region_with (go_at_call 19; refine (wide4 c _ hcl).mono ?_; rintro e w3 ⟨rfl, hb3⟩)
        clear hw2 hw3 hw6 hw7 hsA hsB HC HNI
        have hown2 := World.ownsRow.kept (w := w2.drew) (w' := w3) hown' (below_grown hb3) (by cases hv : u4.ownBlock <;> simp)
        have hb4 : Below w.heap.size w w3 := (show Below w.heap.size w w2.drew from ⟨hb'.os, hb'.tape, hb'.output, hb'.size, hb'.block⟩).trans (hb3.mono hb'.size)
        clear hown' hb' hb3
        by_cases hl4 : l4 = wideL c 4
        · have hf := hD
          rw [if_pos hl4] at hf
          have hR' := hR.step hf
          have hpl := firstOf_len hf
          rw [List.length_drop, size_list] at hpl
          have h6 := hR.six
          have hq : (t4.toList == wideL c 4) = true := by rw [HQ.out, hl4]; exact beq_self_eq_true _
          rw [hq, Bool.not_true]
          clear hD hf hR hl4 hq
          have HP : Hid ((s.extract (r + 2) (r + 2 + n)) = ⟨((s.data.toList.drop (r + 2)).take n).toArray⟩) := by
            show _ = _
            rw [HX.out]
          have HPL : Hid (((s.data.toList.drop (r + 2)).take n).length = n) := by
            show _ = _
            rw [List.length_take, List.length_drop, size_list]; omega
          clear HX
          generalize s.extract (r + 2) (r + 2 + n) = tp at *
          generalize (s.data.toList.drop (r + 2)).take n = p at *
          have hxl : xs.length ≤ 100000000 := by omega
          have hpl2 : p.length = n := HPL.out
          subst hpl2
          have htp : tp = ⟨p.toArray⟩ := HP.out
          subst htp
          clear HP HPL
          go_wp2_with (at_builtin; refine wpList_append_own _ rfl _ _ 27 rfl w.heap.size 9 i0 _ 1 16 Try.underlying27 hi hz0 hz1 hz2 rfl (by decide) _ _ _ rfl (hown2.alloc _) ⟨w3.heap.size, 0, none⟩ 1 1 [strV p] rfl rfl (new_cell _ _) (fun x hx => by simp at hx; subst hx; rfl) (by unfold maxLen; omega) (by omega) (by have := hb4.size; simp; omega) ?_; intro v' w5 hown' hgrow5 hnil5)
          go_roundw
          case rel =>
            refine ⟨r + (p.length + 6), xs ++ [p], by congr 1; omega, by omega, ?_, ?_, hR'⟩
            · simpa using hown'
            · refine (hb4.alloc hb4.size _).trans (grown_below hgrow5 (by have := hb4.size; simp; omega) (fun k hk => (hown2.lt k hk).1))
          case measure => simp [intOf]; omega
        · have hf := hD
          rw [if_neg hl4] at hf
          have HR : Hid (framesL s.data.toList = (xs, r)) := hR.done hf
          have hq : (t4.toList == wideL c 4) = false := by rw [HQ.out]; simp [hl4]
          rw [hq, Bool.not_false]
          clear hD hf hR hl4 HX hq
          go_wp2
          go_ret2
          refine ⟨u4, ?_, ?_, hb4⟩
          · rw [HR.out]; rfl
          · rw [HR.out]; exact hown2
end Go.Proofs.Ytjbkpibkpiljoaa
