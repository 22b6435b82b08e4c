import Derived.Test.YtlgodpadcilcaaaGreatDoorP22
import Derived.Test.YtlgodpadcilcaaaGreatDoorP20
import Derived.Test.YtlgodpadcilcaaaGreatDoorP01
import Derived.Test.YtlgodpadcilcaaaGreatDoorP15
import Derived.Deep.QuietTactic
import Derived.BigQuiet
import Derived.OwnWalk
namespace Go.Proofs.YtlgodpadcilcaaaGreatDoor
open Go.ChangeShapes Go.WideShapes Go.ChangeAt Go.RowKit

set_option maxHeartbeats 4000000 in
set_option maxRecDepth 100000 in
theorem genSplit_new (s : ByteArray) (c : UInt8) (w : World) (hlim : s.size ≤ 1000000) :
    Calls Tryz.prog 28 #[.string s, .string ⟨#[c]⟩, .int .i64 0, .int .i64 (-1)] w fun e w' => ∃ cp, e = .returned (.slice (some ⟨w.heap.size, 0, none⟩) (splitL c s.data.toList).length cp) ∧ (splitL c s.data.toList).length ≤ cp ∧ (∀ i (h : i < (splitL c s.data.toList).length), w'.cell? ⟨w.heap.size, i, none⟩ = some (strV (splitL c s.data.toList)[i])) ∧ Below w.heap.size w w' ∧ w.heap.size < w'.heap.size := by
  have info9 : (Tryz.prog.info? 9).map (fun i => (i.zero, i.size, i.bytes)) = some (some (.string ⟨#[]⟩), 1, 16) := by kernel_rfl
  obtain ⟨i0, hi, hz0, hz1, hz2⟩ := info_parts info9
  clear info9
  have hC := count_one s c w
  have hle := count_le c s.data.toList
  rw [size_list] at hle
  have HL : Hid ((splitL c s.data.toList).length = s.data.toList.count c + 1) := count_split c s.data.toList
  generalize hn : s.data.toList.count c = n at hC hle HL
  have HN : Hid (s.data.toList.count c = n) := hn
  clear hn
  obtain ⟨M, hM⟩ : ∃ M, M = madeCells (Value.string ⟨#[]⟩).cells (((n + 1 : Nat) : Int).toNat * i0.size) := ⟨_, rfl⟩
  have hMs : M.size = n + 1 := by rw [hM, size_madeCells, hz1]; simp
  have hmk : ∀ W : World, (Instr.makeSlice 42 (.int .i64 ((n : Int) + 1)) (.int .i64 ((n : Int) + 1))).run Tryz.prog W = .ok (.slice (some ⟨W.heap.size, 0, none⟩) (n + 1) (n + 1)) (W.alloc (.cells M 9)) := fun W => by
    have h := run_make (P := Tryz.prog) W 42 9 i0 (.string ⟨#[]⟩) Tryz.underlying42 hi hz0 .i64 .i64 ((n + 1 : Nat) : Int) ((n + 1 : Nat) : Int) (by omega) (by omega) (by rw [hz2]; omega) (by omega)
    rw [← hM] at h
    simpa using h
  clear hM
  have hmin : min ((n : Int) + 1) ((s.size : Int) + 1) = (n : Int) + 1 := by omega
  go_enter Tryz.func28, Tryz.ntmps28
  go_wp2_with (go_at_call 55; refine hC.mono ?_; rintro e w' ⟨rfl, rfl⟩)
  go_loopw [0, 10] (fun v0 vi wr => ∃ (k : Nat) (done : List (List UInt8)) (rest : ByteArray), v0 = .string rest ∧ vi = .int .i64 k ∧ k ≤ n ∧ rest.size ≤ s.size ∧ Below w'.heap.size w' wr ∧ wr.heap.size = w'.heap.size + 1 ∧ (∀ j, j ≤ n → (wr.cell? ⟨w'.heap.size, j, none⟩).isSome = true ∧ wr.frozen? ⟨w'.heap.size, j, none⟩ = false) ∧ Hid (done.length = k ∧ splitL c s.data.toList = done ++ splitL c rest.data.toList ∧ k + rest.data.toList.count c = n ∧ ∀ j (h : j < done.length), wr.cell? ⟨w'.heap.size, j, none⟩ = some (strV done[j]))) (fun _ i _ => n - (intOf i).toNat)
  case atStart =>
    refine ⟨0, [], s, rfl, rfl, Nat.zero_le _, Nat.le_refl _, (Below.refl _ _).alloc (Nat.le_refl _) _, by simp, fun j hj => ⟨?_, ?_⟩, show _ ∧ _ from ⟨rfl, rfl, by rw [HN.out]; omega, fun j h => by simp at h⟩⟩
    · rw [World.cell?_alloc_new, Array.getElem?_eq_getElem (by omega)]; rfl
    · exact World.frozen?_alloc_new _ _ _ _
  case round =>
    obtain ⟨k, done, rest, rfl, rfl, hk, hrs, hb, hsz, hcells, HI⟩ := hrel
    by_cases hlt : k < n
    · have hX := index_one rest c wr
      rcases idx_cases rest.data.toList c with ⟨h1, h2⟩ | ⟨p, r, h1, h2, h3⟩
      · exfalso
        have h4 := HI.out.2.2.1
        rw [List.count_eq_zero.2 (fun hm => h2 c hm rfl)] at h4
        omega
      · rw [h3] at hX
        have hl : p.length + 1 ≤ rest.size := by rw [← size_list, h1]; simp
        have HP : Hid (strV p = .string (rest.extract 0 p.length)) := by
          show _ = _
          rw [← strV_of, extract_list, h1]; simp
        have HR : Hid ((rest.extract (p.length + 1) rest.size).data.toList = r) := by
          show _ = _
          rw [extract_list, h1, List.take_of_length_le (by rw [← h1, List.length_drop, size_list]; omega)]
          have e : p ++ c :: r = (p ++ [c]) ++ r := by simp
          rw [e, List.drop_left' (by simp)]
        have HI2 : Hid ((done ++ [p]).length = k + 1 ∧ splitL c s.data.toList = (done ++ [p]) ++ splitL c r ∧ k + 1 + r.count c = n) := by
          refine ⟨by simp [HI.out.1], split_snoc (by rw [← h1]; exact HI.out.2.1) h2, ?_⟩
          have h4 := HI.out.2.2.1
          rw [h1, List.count_append, List.count_cons_self, List.count_eq_zero.2 (fun hm => h2 c hm rfl)] at h4
          omega
        have hd1 := HI.out.1
        have HC : Hid (∀ j (h : j < done.length), wr.cell? ⟨w'.heap.size, j, none⟩ = some (strV done[j])) := HI.out.2.2.2
        clear h1 h2 h3 HI
        generalize hpk : p.length = q at *
        obtain ⟨hc1, hc2⟩ := hcells k (by omega)
        obtain ⟨u, hu⟩ := Option.isSome_iff_exists.1 hc1
        have hsA : ∀ u : World, (Instr.slice 9 (.string rest) none (some (.int .i64 (q : Int))) none).run Tryz.prog u = .ok (.string (rest.extract 0 q)) u := fun u => by
          rw [run_slice_string_to_if u 9 rest .i64 (q : Int) Tryz.underlying9, if_pos (by omega)]
          simp
        go_wp2_with (go_at_call 56; refine hX.mono ?_; rintro e w2 ⟨rfl, rfl⟩)
        go_roundw
        case rel =>
          refine ⟨k + 1, done ++ [p], rest.extract (q + 1) rest.size, rfl, by go_num, by omega, by rw [ByteArray.size_extract]; omega, hb.setCell (p := ⟨w'.heap.size, k, none⟩) (Nat.le_refl _) _, by simp [hsz], fun j hj => ⟨?_, ?_⟩, show _ ∧ _ from ⟨HI2.out.1, by rw [HR.out]; exact HI2.out.2.1, by rw [HR.out]; exact HI2.out.2.2, fun j hj => ?_⟩⟩
          · by_cases e : j = k
            · subst e; rw [World.cell?_setCell_same' _ _ _ hc1]; rfl
            · rw [cell_set_ne e]; exact (hcells j hj).1
          · rw [World.frozen?_setCell]; exact (hcells j hj).2
          · by_cases e : j = k
            · subst e
              rw [World.cell?_setCell_same' _ _ _ hc1, List.getElem_append_right (by omega)]
              simp [hd1, HP.out]
            · rw [cell_set_ne e]
              simp at hj
              rw [HC.out j (by omega), List.getElem_append_left]
        case measure => simp [intOf]; omega
    · obtain rfl : k = n := by omega
      have h0 : rest.data.toList.count c = 0 := by have := HI.out.2.2.1; omega
      have hnone : ∀ x ∈ rest.data.toList, x ≠ c := fun x hx e => by
        subst e
        exact absurd hx (List.count_eq_zero.1 h0)
      have HS : Hid (splitL c s.data.toList = done ++ [rest.data.toList]) := by
        show _ = _
        rw [HI.out.2.1, splitL_all c _ hnone]
      have hd1 := HI.out.1
      have HC : Hid (∀ j (h : j < done.length), wr.cell? ⟨w'.heap.size, j, none⟩ = some (strV done[j])) := HI.out.2.2.2
      clear HI h0 hnone
      obtain ⟨hc1, hc2⟩ := hcells k (by omega)
      obtain ⟨u, hu⟩ := Option.isSome_iff_exists.1 hc1
      go_wp2
      go_ret
      have hlen : (splitL c s.data.toList).length = k + 1 := by rw [HS.out]; simp [hd1]
      have hget : ∀ j (h : j < (splitL c s.data.toList).length) (h2 : j < (done ++ [rest.data.toList]).length), (splitL c s.data.toList)[j] = (done ++ [rest.data.toList])[j] := fun j h h2 => by simp only [HS.out]
      refine ⟨k + 1, ?_, by omega, fun j hj => ?_, hb.setCell (p := ⟨w'.heap.size, k, none⟩) (Nat.le_refl _) _, by simp [hsz]⟩
      · rw [hlen]
        first | rfl | (simp; done)
      · rw [hget j hj (by simp [hd1]; omega)]
        by_cases e : j = k
        · subst e
          rw [World.cell?_setCell_same' _ _ _ hc1, List.getElem_append_right (by omega)]
          simp [hd1, strV_of]
        · rw [cell_set_ne e]
          rw [HC.out j (by omega), List.getElem_append_left]

set_option maxHeartbeats 400000 in
theorem split_new (s : ByteArray) (c : UInt8) (w : World) (hlim : s.size ≤ 1000000) :
    Calls Tryz.prog 11 #[.string s, .string ⟨#[c]⟩] w fun e w' => ∃ cp, e = .returned (.slice (some ⟨w.heap.size, 0, none⟩) (splitL c s.data.toList).length cp) ∧ (splitL c s.data.toList).length ≤ cp ∧ (∀ i (h : i < (splitL c s.data.toList).length), w'.cell? ⟨w.heap.size, i, none⟩ = some (strV (splitL c s.data.toList)[i])) ∧ Below w.heap.size w w' ∧ w.heap.size < w'.heap.size := by
  go_enter Tryz.func11, Tryz.ntmps11
  go_wp2_with fail
  refine (genSplit_new s c w hlim).mono ?_
  rintro e w1 ⟨cp, rfl, h1, h2, h3, h4⟩
  have H2 : Hid _ := h2
  clear h2
  go_wp2
  go_ret
  exact ⟨cp, rfl, h1, H2.out, h3, h4⟩

theorem relLine_any (Rd S : Nat) (rbT : Option Nat) (zs : List Zt) (st : List Ty) (ps : List (List UInt8)) (b o c num : Nat) (set : Bool) (w : World) (h : PRep w Rd S rbT zs st) (hok : StOk st) (hcap : ps.length ≤ c)
    (hcells : ∀ i (hi : i < ps.length), w.cell? ⟨b, o + i, none⟩ = some (strV ps[i])) (hl : ps.length ≤ 1000000) (hz : ∀ x ∈ ps, x.length ≤ 1000000) :
    Calls Tryz.prog 32 #[.pointer (some ⟨Rd, 0, none⟩), .slice (some ⟨b, o, none⟩) ps.length c, .agg (saidV set num)] w fun e w' => LAns Rd S rbT zs w (relS st num set ps) e w' := by
  rcases h.rd1 with ⟨rfl, _⟩ | ⟨z, hz', hlast, hq⟩
  · have e : relS [] num set ps = (2, []) := by cases ps <;> rfl
    rw [e]
    exact relLine_none Rd S rbT zs ps b o c num set w h
  · obtain ⟨A, B, rfl⟩ := List.append_of_mem hz'
    cases ps with
    | nil => exact relLine_empty Rd S rbT _ st _ b o c num set w h hq
    | cons n ex =>
      cases hn : nameL n with
      | false =>
        have e : relS st num set (n :: ex) = (2, st) := by unfold relS; simp only [hlast, hn]; rfl
        rw [e]
        have hc0 : w.cell? ⟨b, o, none⟩ = some (strV n) := hcells 0 (by simp)
        exact relLine_badName Rd S rbT _ st _ n ex.length b o c num set w h hq hc0 hn
      | true =>
        have e : relS st num set (n :: ex) = relMain st z.ty num set n ex := by unfold relS relMain; simp only [hlast, hn]; rfl
        rw [e]
        exact relLine_main Rd S rbT A B z st n ex b o c num set w h hok hlast hq (by simpa using hcap) hcells (by simp at hl; omega) (fun x hx => hz x (List.mem_cons_of_mem _ hx)) hn

theorem typeLine_any (Rd S : Nat) (rbT : Option Nat) (zs : List Zt) (st : List Ty) (ps : List (List UInt8)) (b o c : Nat) (w : World) (h : PRep w Rd S rbT zs st) (hok : StOk st)
    (hcells : ∀ i (hi : i < ps.length), w.cell? ⟨b, o + i, none⟩ = some (strV ps[i])) (hbM : b ∉ allBlocks Rd S rbT zs) :
    Calls Tryz.prog 31 #[.pointer (some ⟨Rd, 0, none⟩), .slice (some ⟨b, o, none⟩) ps.length c] w fun e w' => LAns Rd S rbT zs w (typeS st ps) e w' := by
  by_cases h1 : ps.length = 1
  · obtain ⟨n, rfl⟩ : ∃ n, ps = [n] := List.length_eq_one_iff.1 h1
    exact typeLine_one Rd S rbT zs st n b o c w h hok (hcells 0 (by simp)) hbM
  · have e : typeS st ps = (2, st) := by
      unfold typeS
      split
      · simp at h1
      · rfl
    rw [e]
    refine (typeLine_wrong Rd b o c ps w h1).mono ?_
    rintro e w' ⟨rfl, rfl⟩
    exact LAns.same h (Below.refl _ _)
end Go.Proofs.YtlgodpadcilcaaaGreatDoor
namespace Go.Proofs.YtlgodpadcilcaaaGreatDoor
open Go.ChangeShapes Go.WideShapes Go.ChangeAt Go.RowKit

theorem LAns.after {Rd S : Nat} {rbT : Option Nat} {zs : List Zt} {w w1 w' : World} {r : Nat × List Ty} {e : Ending} (h : LAns Rd S rbT zs w1 r e w') (hb : Below w.heap.size w w1) : LAns Rd S rbT zs w r e w' := by
  obtain ⟨h1, h2, rbT', zs', h3, h4⟩ := h
  have hs := hb.size
  exact ⟨h1, ⟨h2.os.trans hb.os, h2.tape.trans hb.tape, h2.output.trans hb.output, by have := h2.size; omega, fun k hk hn => (h2.block k (by omega) hn).trans (hb.block k hk)⟩, rbT', zs', h3, fun g hg => orTo (h4 g hg) (fun e => by omega)⟩

theorem splitL_len (c : UInt8) (l : List UInt8) : ∀ x ∈ splitL c l, x.length ≤ l.length := by
  induction l with
  | nil => simp [splitL]
  | cons b r ih =>
    intro x hx
    unfold splitL at hx
    split at hx
    · rcases List.mem_cons.1 hx with rfl | hx
      · simp
      · have := ih x hx; simp; omega
    · split at hx
      · rename_i h; exact absurd h (splitL_ne c r)
      · rename_i h t he
        rw [he] at ih
        rcases List.mem_cons.1 hx with rfl | hx
        · have := ih h (by simp); simp; omega
        · have := ih x (by simp [hx]); simp; omega

set_option maxHeartbeats 4000000 in
set_option maxRecDepth 100000 in
theorem line_any (Rd S : Nat) (rbT : Option Nat) (zs : List Zt) (st : List Ty) (num : Nat) (s : ByteArray) (w : World) (h : PRep w Rd S rbT zs st) (hok : StOk st) (hsz : s.size ≤ 10000) :
    Calls Tryz.prog 13 #[.pointer (some ⟨Rd, 0, none⟩), .int .i64 (num : Int), .string s] w fun e w' => LAns Rd S rbT zs w (lineS st num s.data.toList) e w' := by
  have hT : s.toList = s.data.toList := ByteArray.toList_eq s
  have hP := hasPrefix_slashes s w (by omega)
  by_cases h0 : s.data.toList = []
  · have e : lineS st num s.data.toList = (0, st) := by unfold lineS; rw [if_pos (.inl h0)]
    rw [e]
    obtain rfl : s = ⟨#[]⟩ := by
      apply ByteArray.ext
      apply Array.toList_inj.1
      exact h0
    clear hT hP e h0
    go_enter Tryz.func13, Tryz.ntmps13
    go_wp2
    go_ret
    exact LAns.same h (Below.refl _ _)
  have q0 : (s.toList == []) = false := by rw [hT, beq_eq_false_iff_ne]; exact h0
  by_cases h2 : s.data.toList.take 2 = [47, 47]
  · have e : lineS st num s.data.toList = (0, st) := by unfold lineS; rw [if_pos (.inr h2)]
    rw [e]
    have e2 : (s.data.toList.take 2 == [47, 47]) = true := by rw [h2]; rfl
    rw [e2] at hP
    clear hT e h0 h2 e2
    go_enter Tryz.func13, Tryz.ntmps13
    go_wp2_with (go_at_call 30; refine hP.mono ?_; rintro e w' ⟨rfl, hw'⟩; subst hw')
    go_ret
    exact LAns.same h (Below.refl _ _)
  have e2 : (s.data.toList.take 2 == [47, 47]) = false := by rw [beq_eq_false_iff_ne]; exact h2
  rw [e2] at hP
  have hSp := split_new s 32 w (by omega)
  have hcnt := count_split 32 s.data.toList
  have hcl := count_le 32 s.data.toList
  rw [size_list] at hcl
  have hwl := splitL_len 32 s.data.toList
  rw [size_list] at hwl
  obtain ⟨x, ps, hws⟩ : ∃ x ps, splitL 32 s.data.toList = x :: ps := by
    cases hh : splitL 32 s.data.toList with
    | nil => exact absurd hh (splitL_ne _ _)
    | cons x ps => exact ⟨x, ps, rfl⟩
  have HL : Hid (lineS st num s.data.toList = if x = [116, 121, 112, 101] then typeS st ps else if x = [114, 101, 108] then relS st num false ps else if x = [115, 101, 116] then relS st num true ps else (2, st)) := by
    show _ = _
    unfold lineS
    rw [if_neg (by rintro (e | e); exact h0 e; exact h2 e), hws]
  generalize lineS st num s.data.toList = res at *
  rw [hws] at hSp hwl hcnt
  have hpl : ps.length ≤ 10000 := by rw [List.length_cons] at hcnt; omega
  have hpz : ∀ y ∈ ps, y.length ≤ 1000000 := fun y hy => by have := hwl y (List.mem_cons_of_mem _ hy); omega
  clear hT h0 h2 e2 hws hwl hcnt hcl
  go_enter Tryz.func13, Tryz.ntmps13
  go_upto_region 3 with (go_at_call 30; refine hP.mono ?_; rintro e w' ⟨rfl, hw'⟩; subst hw')
  go_wp2_with fail
  refine hSp.mono ?_
  rintro e w1 ⟨cp, rfl, hcp, hcells, hb1, hs1⟩
  clear hSp hP
  have h1 := h.below hb1
  have c0 : w1.cell? ⟨w'.heap.size, 0, none⟩ = some (.string ⟨x.toArray⟩) := hcells 0 (by simp)
  have hbM : w'.heap.size ∉ allBlocks Rd S rbT zs := fun hm => by have := h.lt _ hm; omega
  obtain ⟨o', c', ho', hc', hsl⟩ := slice_one w'.heap.size 0 ps.length cp (by simpa using hcp)
  have hcell1 : ∀ i (hi : i < ps.length), w1.cell? ⟨w'.heap.size, o' + i, none⟩ = some (strV ps[i]) := fun i hi => by
    rcases ho' with rfl | e
    · have := hcells (i + 1) (by simp; omega)
      rw [show 0 + 1 + i = i + 1 by omega]
      simpa using this
    · omega
  rw [List.length_cons]
  have hX : (⟨x.toArray⟩ : ByteArray).toList = x := by rw [ByteArray.toList_eq]
  have HX : Hid ((⟨x.toArray⟩ : ByteArray).toList = x) := hX
  clear hX hcells hcp
  generalize (⟨x.toArray⟩ : ByteArray) = X at *
  by_cases hx1 : x = [116, 121, 112, 101]
  · have q1 : (X.toList == [116, 121, 112, 101]) = true := by rw [HX.out, hx1]; rfl
    have HR : Hid (res = typeS st ps) := by show _ = _; rw [HL.out, if_pos hx1]
    clear HL hx1 HX
    go_upto_region 6 with fail
    generalize hpv : Value.slice (some ⟨w'.heap.size, 0, none⟩) (ps.length + 1) cp = pv at hsl ⊢
    go_wp2_with fail
    refine (typeLine_any Rd S rbT zs st ps w'.heap.size o' c' w1 h1 hok hcell1 hbM).mono ?_
    rintro e w2 hA
    obtain ⟨rfl, hA2⟩ := hA
    have HA : Hid (LAns Rd S rbT zs w1 (typeS st ps) (.returned (.int .i64 ((typeS st ps).1 : Nat))) w2) := ⟨rfl, hA2⟩
    clear hA2
    generalize (typeS st ps) = rr at *
    subst hpv
    go_wp2
    go_ret
    rw [HR.out]
    exact HA.out.after hb1
  have q1 : (X.toList == [116, 121, 112, 101]) = false := by rw [HX.out, beq_eq_false_iff_ne]; exact hx1
  by_cases hx2 : x = [114, 101, 108]
  · have q2 : (X.toList == [114, 101, 108]) = true := by rw [HX.out, hx2]; rfl
    have HR : Hid (res = relS st num false ps) := by show _ = _; rw [HL.out, if_neg hx1, if_pos hx2]
    clear HL hx1 hx2 HX
    go_upto_region 8 with fail
    generalize hpv : Value.slice (some ⟨w'.heap.size, 0, none⟩) (ps.length + 1) cp = pv at hsl ⊢
    go_wp2_with fail
    refine (relLine_any Rd S rbT zs st ps w'.heap.size o' c' num false w1 h1 hok hc' hcell1 (by omega) hpz).mono ?_
    rintro e w2 hA
    obtain ⟨rfl, hA2⟩ := hA
    have HA : Hid (LAns Rd S rbT zs w1 (relS st num false ps) (.returned (.int .i64 ((relS st num false ps).1 : Nat))) w2) := ⟨rfl, hA2⟩
    clear hA2
    generalize (relS st num false ps) = rr at *
    subst hpv
    go_wp2
    go_ret
    rw [HR.out]
    exact HA.out.after hb1
  have q2 : (X.toList == [114, 101, 108]) = false := by rw [HX.out, beq_eq_false_iff_ne]; exact hx2
  by_cases hx3 : x = [115, 101, 116]
  · have q3 : (X.toList == [115, 101, 116]) = true := by rw [HX.out, hx3]; rfl
    have HR : Hid (res = relS st num true ps) := by show _ = _; rw [HL.out, if_neg hx1, if_neg hx2, if_pos hx3]
    clear HL hx1 hx2 hx3 HX
    go_upto_region 10 with fail
    generalize hpv : Value.slice (some ⟨w'.heap.size, 0, none⟩) (ps.length + 1) cp = pv at hsl ⊢
    go_wp2_with fail
    refine (relLine_any Rd S rbT zs st ps w'.heap.size o' c' num true w1 h1 hok hc' hcell1 (by omega) hpz).mono ?_
    rintro e w2 hA
    obtain ⟨rfl, hA2⟩ := hA
    have HA : Hid (LAns Rd S rbT zs w1 (relS st num true ps) (.returned (.int .i64 ((relS st num true ps).1 : Nat))) w2) := ⟨rfl, hA2⟩
    clear hA2
    generalize (relS st num true ps) = rr at *
    subst hpv
    go_wp2
    go_ret
    rw [HR.out]
    exact HA.out.after hb1
  have q3 : (X.toList == [115, 101, 116]) = false := by rw [HX.out, beq_eq_false_iff_ne]; exact hx3
  have HR : Hid (res = (2, st)) := by show _ = _; rw [HL.out, if_neg hx1, if_neg hx2, if_neg hx3]
  clear HL hx1 hx2 hx3 HX
  go_wp2
  go_ret
  rw [HR.out]
  exact LAns.same h hb1
end Go.Proofs.YtlgodpadcilcaaaGreatDoor
namespace Go.Proofs.YtlgodpadcilcaaaGreatDoor
open Go.ChangeShapes Go.WideShapes Go.ChangeAt Go.RowKit Go.Shelf

/-- an empty reader -/
theorem PRep.empty {w : World} {Rd S : Nat} {tR tS : Nat} (hne : Rd ≠ S) (hS : w.heap[S]? = some (.cells #[.slice none 0 0] tS)) (hR : w.heap[Rd]? = some (.cells #[.pointer (some ⟨S, 0, none⟩), .pointer none] tR)) : PRep w Rd S none [] [] := by
  have lS : S < w.heap.size := by rcases Nat.lt_or_ge S w.heap.size with h | h; exact h; rw [Array.getElem?_eq_none h] at hS; cases hS
  have lR : Rd < w.heap.size := by rcases Nat.lt_or_ge Rd w.heap.size with h | h; exact h; rw [Array.getElem?_eq_none h] at hR; cases hR
  exact ⟨⟨⟨.slice none 0 0, by simp [World.cell?, hS], ⟨rfl, .inl ⟨rfl, rfl⟩⟩, rfl⟩, by simp, by simp [World.frozen?, hS], by simp [Rising], by simp⟩, by simp, by simp, by simp [allBlocks, hne], by simp [allBlocks, lS, lR], by simp [World.cell?, hR], .inl ⟨rfl, by simp [World.cell?, hR]⟩, fun j => by simp [World.frozen?, hR]⟩

/-- what the loop over lines keeps -/
structure PsI (w0 : World) (ls : List (List UInt8)) (bL Rd S i : Nat) (st : List Ty) (rbT : Option Nat) (zs : List Zt) (wr : World) : Prop where
  lines : linesS [] 0 ls = linesS st i (ls.drop i)
  ok : StOk st
  ln : StLn 10000 st i
  rep : PRep wr Rd S rbT zs st
  cells : ∀ j (h : j < ls.length), wr.cell? ⟨bL, j, none⟩ = some (strV ls[j])
  out : bL ∉ allBlocks Rd S rbT zs
  lt : bL < wr.heap.size
  low : ∀ g ∈ allBlocks Rd S rbT zs, w0.heap.size ≤ g
  below : Below w0.heap.size w0 wr
theorem PsI.frame {w0 : World} {ls : List (List UInt8)} {bL Rd S i : Nat} {st : List Ty} {rbT : Option Nat} {zs : List Zt} {wr w' : World} (h : PsI w0 ls bL Rd S i st rbT zs wr) (hb : ButM (allBlocks Rd S rbT zs) wr w') : Below w0.heap.size w0 w' :=
  ⟨hb.os.trans h.below.os, hb.tape.trans h.below.tape, hb.output.trans h.below.output, Nat.le_trans h.below.size hb.size, fun k hk => (hb.block k (Nat.lt_of_lt_of_le hk h.below.size) (fun hm => by have := h.low k hm; omega)).trans (h.below.block k hk)⟩
theorem PsI.next {w0 : World} {ls : List (List UInt8)} {bL Rd S i : Nat} {st : List Ty} {rbT : Option Nat} {zs : List Zt} {wr w' : World} {e : Ending} (h : PsI w0 ls bL Rd S i st rbT zs wr) (hi : i < ls.length) (hl : ls[i].length ≤ 10000) (h0 : (lineS st i ls[i]).1 = 0) (hA : LAns Rd S rbT zs wr (lineS st i ls[i]) e w') :
    ∃ st' rbT' zs', PsI w0 ls bL Rd S (i + 1) st' rbT' zs' w' := by
  obtain ⟨_, hb, rbT', zs', hp, hg⟩ := hA
  refine ⟨(lineS st i ls[i]).2, rbT', zs', ?_, lineS_ok h.ok i _, lineS_ln h.ln _ hl, hp, fun j hj => ?_, fun hm => ?_, ?_, fun g hm => ?_, h.frame hb⟩
  · exact linesS_next h.lines hi h0
  · rw [World.cell?_of_block (w := wr) (a := ⟨bL, j, none⟩) (hb.block bL h.lt h.out)]
    exact h.cells j hj
  · rcases hg bL hm with h1 | h1
    · exact h.out h1
    · have := h.lt; omega
  · have := h.lt; have := hb.size; omega
  · rcases hg g hm with h1 | h1
    · exact h.low g h1
    · have := h.below.size; omega
/-- a schema that was read, in block S: of each relation its name, and whether it is a set -/
structure FRep (w : World) (S : Nat) (rbT : Option Nat) (zs : List Zt) (st : List Ty) : Prop where
  own : OwnT w S rbT (zs.map (·.tv))
  zl : ∀ z ∈ zs, ∃ es', OwnR w z.tv.blk z.rb es' ∧ es'.map kst = z.es.map kst
  perm : (zs.map (·.ty)).Perm st
  zk : ∀ z ∈ zs, z.tv.key = z.ty.nm ∧ (z.es.map kst).Perm (z.ty.rels.map (fun r => (r.nm, r.set)))
theorem FRep.below {w w' : World} {S : Nat} {rbT : Option Nat} {zs : List Zt} {st : List Ty} (h : FRep w S rbT zs st) (hb : Below w.heap.size w w') : FRep w' S rbT zs st :=
  ⟨h.own.keep (hb.block S h.own.lt.1) (fun k hk => hb.block k (h.own.lt.2 k hk)), fun z hz => by
    obtain ⟨es', h1, h2⟩ := h.zl z hz
    exact ⟨es', h1.keep (hb.block _ h1.lt.1) (fun k hk => hb.block k (h1.lt.2 k hk)), h2⟩, h.perm, h.zk⟩
theorem PRep.frep {w w' : World} {Rd S : Nat} {rbT : Option Nat} {zs : List Zt} {st : List Ty} (h : PRep w Rd S rbT zs st) (h1 : OwnT w' S rbT (zs.map (·.tv))) (h2 : ∀ z ∈ zs, ∃ es', OwnR w' z.tv.blk z.rb es' ∧ es'.map kst = z.es.map kst) : FRep w' S rbT zs st := by
  refine ⟨h1, h2, h.perm, fun z hz => ⟨(h.zok z hz).key, ?_⟩⟩
  have hk := h.zok z hz
  have e : z.es.map kst = z.rs.map (fun r => (r.nm, r.set)) := by
    refine List.ext_getElem (by simpa using hk.len) (fun j h1 h2 => ?_)
    rw [List.getElem_map, List.getElem_map]
    obtain ⟨r1, r2, _, _⟩ := hk.rep j (by simpa using h1) (by simpa using h2)
    show (_, _) = (_, _)
    rw [r1, r2]
  rw [e]
  exact hk.perm.map _
/-- what Parse gives where it finds no error -/
def PEnd (res : Nat × Nat) (ls : List (List UInt8)) (p : Option Addr) (w' : World) : Prop :=
  res.2 = 0 → ∃ S rbT zs st, p = some ⟨S, 0, none⟩ ∧ linesS [] 0 ls = .inr st ∧ StOk st ∧ FRep w' S rbT zs st
theorem PEnd.no {res : Nat × Nat} {ls : List (List UInt8)} {p : Option Addr} {w' : World} (h : res.2 ≠ 0) : PEnd res ls p w' := fun h0 => absurd h0 h

set_option maxRecDepth 100000 in
set_option maxHeartbeats 8000000 in
theorem Parse_any (s : ByteArray) (w : World) :
    Calls Tryz.prog 7 #[.string s] w fun e w' => ∃ p, e = .returned (.tuple #[.pointer p, .int .i64 ((schemaS s.data.toList).1 : Nat), .int .i64 ((schemaS s.data.toList).2 : Nat)]) ∧ PEnd (schemaS s.data.toList) (splitL 10 s.data.toList) p w' ∧ Below w.heap.size w w' := by
  by_cases h2 : 2000 < s.size
  · have e : schemaS s.data.toList = (0, 1) := schemaS_long (by rw [size_list]; exact h2)
    rw [e]
    have q : ((s.size : Int) > 2000) := by omega
    have HE : Hid (∀ p w', PEnd (0, 1) (splitL 10 s.data.toList) p w') := fun p w' => PEnd.no (by decide)
    go_enter Tryz.func7, Tryz.ntmps7
    go_wp2
    go_ret3
    exact ⟨_, rfl, HE.out _ _, Below.refl _ _⟩
  · have q : ¬ ((s.size : Int) > 2000) := by omega
    have hC := clone_any s w (by omega)
    have HSl : Hid (∀ p, linesS [] 0 (splitL 10 s.data.toList) = .inl p → schemaS s.data.toList = p) := fun p hp => schemaS_inl (by rw [size_list]; exact h2) hp
    have HSr : Hid (∀ st, linesS [] 0 (splitL 10 s.data.toList) = .inr st → schemaS s.data.toList = afterS (relsOf st) st.length (splitL 10 s.data.toList).length) := fun p hp => schemaS_inr (by rw [size_list]; exact h2) hp
    have hcount := splitL_count 10 s.data.toList
    rw [size_list] at hcount
    have hlen : ∀ x ∈ splitL 10 s.data.toList, x.length ≤ 10000 := fun x hx => by have := splitL_mlen 10 s.data.toList x hx; rw [size_list] at this; omega
    generalize schemaS s.data.toList = res at *
    go_enter Tryz.func7, Tryz.ntmps7
    go_upto_region 4 with (first | (go_at_call 12; refine hC.mono ?_; rintro e w1 ⟨rfl, hb1⟩) | (go_at_call 11; refine (split_new s 10 w1 (by omega)).mono ?_; rintro e w2 ⟨cp, rfl, hcp, hcells, hb2, hs2⟩))
    generalize hLs : splitL 10 s.data.toList = ls at *
    have HLs : Hid (splitL 10 s.data.toList = ls) := hLs
    clear hC hLs
    go_upto_region 5 with fail
    have hI0 : PsI w ls w1.heap.size (w2.heap.size + 1) w2.heap.size 0 [] none [] ((w2.alloc (Obj.cells #[Value.slice none 0 0] 49)).alloc (Obj.cells #[Value.pointer (some ⟨w2.heap.size, 0, none⟩), Value.pointer none] 52)) := by
      have hsz1 := hb1.size
      have hsz2 := hb2.size
      refine ⟨rfl, StOk.nil, StLn.nil _ _, PRep.empty (tS := 49) (tR := 52) (by omega) ?_ ?_, fun j hj => ?_, ?_, ?_, ?_, ?_⟩
      · rw [Below.heap_alloc _ _ _ (by simp)]; exact heap_alloc_new _ _
      · have := heap_alloc_new (w2.alloc (Obj.cells #[Value.slice none 0 0] 49)) (Obj.cells #[Value.pointer (some ⟨w2.heap.size, 0, none⟩), Value.pointer none] 52)
        simpa using this
      · rw [World.cell?_alloc_lt _ _ _ (by simp; omega), World.cell?_alloc_lt _ _ _ (by simp; omega)]; exact hcells j hj
      · simp [allBlocks]; omega
      · simp; omega
      · simp [allBlocks]; omega
      · exact ((hb1.trans (hb2.mono hsz1)).alloc (by omega) _).alloc (by simp; omega) _
    have HI0 : Hid _ := hI0
    have HL : Hid _ := hlen
    obtain ⟨n, hn⟩ : ∃ n, ls.length = n := ⟨_, rfl⟩
    have HN : Hid (ls.length = n) := hn
    rw [hn] at hcp hcount ⊢
    clear hI0 hlen hcells hn
    generalize (w2.alloc (Obj.cells #[Value.slice none 0 0] 49)).alloc (Obj.cells #[Value.pointer (some ⟨w2.heap.size, 0, none⟩), Value.pointer none] 52) = W at *
    generalize w2.heap.size = S at *
    generalize w1.heap.size = bL at *
    go_wp2
    go_loopw [22] (fun s22 wr => ∃ i : Nat, i ≤ n ∧ s22 = .int .i64 (i : Int) ∧ Hid (∃ st rbT zs, PsI w ls bL (S + 1) S i st rbT zs wr)) (fun s22 _ => n - (intOf s22).toNat)
    case atStart => exact ⟨0, Nat.zero_le _, rfl, _, _, _, HI0.out⟩
    case round =>
      obtain ⟨i, hi, rfl, HI⟩ := hrel
      obtain ⟨st, rbT, zs, hI⟩ := HI.out
      clear HI HI0
      have HI : Hid _ := hI
      by_cases hlt : i < n
      · have hip : i < ls.length := by have := HN.out; omega
        have hc := hI.cells i hip
        have hA := line_any (S + 1) S rbT zs st i ⟨ls[i].toArray⟩ wr hI.rep hI.ok (by have := HL.out ls[i] (List.getElem_mem _); simpa [ByteArray.size] using this)
        have HNx : Hid ((lineS st i ls[i]).1 = 0 → ∀ w3, LAns (S + 1) S rbT zs wr (lineS st i ls[i]) (.returned (.int .i64 ((lineS st i ls[i]).1 : Nat))) w3 → ∃ st' rbT' zs', PsI w ls bL (S + 1) S (i + 1) st' rbT' zs' w3) := fun h0 w3 h3 => hI.next hip (HL.out _ (List.getElem_mem _)) h0 h3
        have HFr : Hid (∀ w3, LAns (S + 1) S rbT zs wr (lineS st i ls[i]) (.returned (.int .i64 ((lineS st i ls[i]).1 : Nat))) w3 → Below w.heap.size w w3) := fun w3 h3 => hI.frame h3.2.1
        have HSt : Hid ((lineS st i ls[i]).1 ≠ 0 → res = (i, (lineS st i ls[i]).1)) := fun h0 => HSl.out _ (linesS_stop hI.lines hip h0)
        clear hI HI
        unfold strV at hc
        rw [show (ByteArray.mk ls[i].toArray).data.toList = ls[i] by simp] at hA
        generalize (ByteArray.mk ls[i].toArray) = B at *
        generalize lineS st i ls[i] = r at *
        obtain ⟨r1, r2⟩ := r
        simp only [] at hA HNx HSt HFr
        go_upto_region 9 with (go_at_call 13; refine hA.mono ?_; rintro e w3 ⟨rfl, hA3⟩)
        clear hA
        have HA3 : Hid (LAns (S + 1) S rbT zs wr (r1, r2) (.returned (.int .i64 (r1 : Nat))) w3) := ⟨rfl, hA3⟩
        clear hA3
        by_cases h0 : r1 = 0
        · subst h0
          go_wp2
          go_roundw
          case rel => exact ⟨i + 1, by omega, by go_num, HNx.out rfl w3 HA3.out⟩
          case measure => simp [intOf]; omega
        · have hq : (((r1 : Nat) : Int) == 0) = false := by rw [beq_eq_false_iff_ne]; omega
          have hq2 : ¬ ((r1 : Nat) : Int) = 0 := by omega
          have HE := HSt.out h0
          have HE' : Hid _ := HE
          clear HE
          go_wp2
          go_ret3
          rw [HE'.out]
          have hF := HFr.out w3 HA3.out
          exact ⟨_, rfl, PEnd.no h0, ⟨hF.os, hF.tape, hF.output, hF.size, hF.block⟩⟩
      · obtain rfl : i = n := by omega
        have hlines : linesS [] 0 ls = .inr st := by rw [hI.lines, ← HN.out, List.drop_length]; rfl
        have hres : res = afterS (relsOf st) st.length i := by rw [HSr.out st hlines, HN.out]
        have HRes : Hid _ := hres
        have HLines : Hid (linesS [] 0 ls = .inr st) := hlines
        have rd0 := hI.rep.rd0
        have hsz : ∀ r ∈ rlsOf zs, r.ex.sz ≤ 1000000 := fun r hr => by have := hI.ln.sz r ((rls_mem hI.rep r).1 hr); omega
        have hFU := firstUnknown_any (S + 1) S rbT zs st i wr hI.rep (fun z hz r hr => hsz r (List.mem_flatMap.2 ⟨z, hz, hr⟩))
        rw [fuZ_eq hI.rep hI.ok hI.ln] at hFU
        have HSz : Hid _ := hsz
        have HLn : Hid (∀ r ∈ relsOf st, r.line < i) := hI.ln.lt
        clear hres hlines HSl HSr HL hsz hI
        cases hf : (relsOf st).find? (unkR (knowB (relsOf st))) with
        | some r =>
          have hRes : res = (r.line, 3) := HRes.out.trans (afterS_some hf _ _)
          have hr := HLn.out r (List.mem_of_find?_eq_some hf)
          have HRes2 : Hid _ := hRes
          clear hRes
          rw [hf] at hFU
          simp only [] at hFU
          generalize r.line = rl at *
          have hq : ((rl : Nat) : Int) < (i : Nat) := by omega
          go_wp2_with (go_at_call 14; refine hFU.mono ?_; rintro e w4 ⟨rfl, hb4⟩)
          go_ret3
          rw [HRes2.out]
          have hF := HI.out.frame (ButM.of_below hb4)
          exact ⟨_, rfl, PEnd.no (by decide : (3 : Nat) ≠ 0), ⟨hF.os, hF.tape, hF.output, hF.size, hF.block⟩⟩
        | none =>
          rw [hf] at hFU
          simp only [] at hFU
          have HF : Hid _ := hf
          have hRk : ∀ w4, Below wr.heap.size wr w4 → Calls Tryz.prog 15 #[.pointer (some ⟨S, 0, none⟩)] w4 fun e w' => ∃ q : Bool, e = .returned (.bool q) ∧ (q = true ↔ ¬ ringP (relsOf st)) ∧ (q = true → OwnT w' S rbT (zs.map (·.tv)) ∧ w'.heap[S + 1]? = w4.heap[S + 1]? ∧ ∀ z ∈ zs, ∃ es', OwnR w' z.tv.blk z.rb es' ∧ es'.map kst = z.es.map kst) ∧ ButM (allBlocks (S + 1) S rbT zs) w4 w' := fun w4 hb => rank_any (S + 1) S rbT zs st w4 (HI.out.rep.below hb) HI.out.ok HSz.out
          have hRd := HI.out.rep.lt (S + 1) mem_Rd
          have HRk : Hid _ := hRk
          clear hf hRk
          go_upto_region 15 with (go_at_call 14; refine hFU.mono ?_; rintro e w4 ⟨rfl, hb4⟩)
          have hRk := HRk.out w4 hb4
          have rd4 : w4.cell? ⟨S + 1, 0, none⟩ = some (.pointer (some ⟨S, 0, none⟩)) := by
            rw [World.cell?_of_block (w := wr) (a := ⟨S + 1, 0, none⟩) (hb4.block _ hRd)]; exact rd0
          clear rd0 HRk hFU
          go_wp2_with (go_at_call 15; refine hRk.mono ?_; rintro e w5 ⟨q, rfl, hq, hq2, hbm5⟩; have HF5 : Hid (Below w.heap.size w w5) := HI.out.frame ((ButM.of_below hb4).trans hbm5))
          · cases q with
            | true => exact absurd ‹(!true) = true› (by decide)
            | false =>
              go_ret3
              have hR : ringP (relsOf st) := Classical.byContradiction fun h => by have := hq.2 h; cases this
              rw [HRes.out, afterS_ring HF.out hR]
              exact ⟨_, rfl, PEnd.no (by decide : (4 : Nat) ≠ 0), ⟨HF5.out.os, HF5.out.tape, HF5.out.output, HF5.out.size, HF5.out.block⟩⟩
          · cases q with
            | false => exact absurd ‹(!false) = false› (by decide)
            | true =>
              obtain ⟨hO, hb5, hZl⟩ := hq2 rfl
              have HFR : Hid (FRep w5 S rbT zs st) := HI.out.rep.frep hO hZl
              have HLn2 : Hid (linesS [] 0 ls = .inr st ∧ StOk st) := ⟨HLines.out, HI.out.ok⟩
              have rd5 : w5.cell? ⟨S + 1, 0, none⟩ = some (.pointer (some ⟨S, 0, none⟩)) := by
                rw [World.cell?_of_block (w := w4) (a := ⟨S + 1, 0, none⟩) hb5]; exact rd4
              have hL5 : ∀ n, Calls Tryz.prog 16 #[.pointer (some ⟨S, 0, none⟩)] (w5.drewN n) fun e w' => e = .returned (.int .i64 ((zs.map (·.tv)).length : Nat)) ∧ w' = w5.drewN n := fun n => LenT_any S (zs.map (·.tv)) (w5.drewN n) (hO.keep ((below_drewN w5 n (S+1)).block S (by omega)) (fun k _ => (below_drewN w5 n (k+1)).block k (by omega))).list
              have hLen : (zs.map (·.tv)).length = st.length := by rw [List.length_map]; exact HI.out.rep.length
              rw [hLen] at hL5
              have hR : ¬ ringP (relsOf st) := hq.1 rfl
              have HE : Hid (res = (st.length, 0)) := by show _ = _; rw [HRes.out, afterS_fine HF.out hR]
              clear hRk rd4 hq2 hq
              generalize st.length = nt at *
              go_quiet ((go_at_call 16; exact Calls.quiet_of_same (hL5 _)))
              go_wp2
              go_ret3
              rw [HE.out]
              exact ⟨_, rfl, fun _ => ⟨S, rbT, zs, st, rfl, by rw [HLs.out]; exact HLn2.out.1, HLn2.out.2, HFR.out.below (below_drewN _ _ _)⟩, ⟨HF5.out.os, HF5.out.tape, HF5.out.output, HF5.out.size, HF5.out.block⟩⟩
end Go.Proofs.YtlgodpadcilcaaaGreatDoor
namespace Go.Proofs.YtlgodpadcilcaaaGreatDoor
open Go.ChangeShapes Go.WideShapes Go.ChangeAt Go.RowKit

/-- a relation of a type: is it a set? -/
def findRel (st : List Ty) (k n : List UInt8) : Option Bool := ((relsOf st).find? (fun r => r.ty == k && r.nm == n)).map (·.set)
theorem findRel_none {st : List Ty} {k n : List UInt8} (h : ∀ r ∈ relsOf st, ¬ (r.ty = k ∧ r.nm = n)) : findRel st k n = none := by
  unfold findRel
  rw [List.find?_eq_none.2 (fun r hr => by simpa using fun h1 h2 => h r hr ⟨h1, h2⟩)]
  rfl
theorem rel_one {st : List Ty} (hok : StOk st) {r q : Rl} (hr : r ∈ relsOf st) (hq : q ∈ relsOf st) (h1 : r.ty = q.ty) (h2 : r.nm = q.nm) : r = q := by
  obtain ⟨a, ha, hra⟩ := mem_relsOf.1 hr
  obtain ⟨b, hb, hqb⟩ := mem_relsOf.1 hq
  have e : a = b := ty_eq_of_nm hok ha hb (by rw [← (hok.rels a ha).2.2 r hra, ← (hok.rels b hb).2.2 q hqb]; exact h1)
  subst e
  obtain ⟨i, hi, rfl⟩ := List.getElem_of_mem hra
  obtain ⟨j, hj, rfl⟩ := List.getElem_of_mem hqb
  have hij := (List.getElem_inj (xs := a.rels.map (·.nm)) (i := i) (j := j) (h₀ := by simpa using hi) (h₁ := by simpa using hj) (hok.rels a ha).2.1).1 (by simpa using h2)
  subst hij
  rfl
theorem findRel_some {st : List Ty} (hok : StOk st) {r : Rl} (hr : r ∈ relsOf st) : findRel st r.ty r.nm = some r.set := by
  unfold findRel
  cases h : (relsOf st).find? (fun q => q.ty == r.ty && q.nm == r.nm) with
  | none => exact absurd (List.find?_eq_none.1 h r hr) (by simp)
  | some q =>
    have h1 := List.mem_of_find?_eq_some h
    have h2 := List.find?_some h
    simp only [Bool.and_eq_true, beq_iff_eq] at h2
    rw [rel_one hok hr h1 h2.1.symm h2.2.symm]
    rfl
theorem FRep.no {w : World} {S : Nat} {rbT : Option Nat} {zs : List Zt} {st : List Ty} (h : FRep w S rbT zs st) (hok : StOk st) {k : List UInt8} (hk : k ∉ (zs.map (·.tv)).map (·.key)) (n : List UInt8) : findRel st k n = none := by
  refine findRel_none (fun r hr ⟨h1, _⟩ => hk ?_)
  obtain ⟨ty, hty, hrt⟩ := mem_relsOf.1 hr
  obtain ⟨z, hz, rfl⟩ := List.mem_map.1 (h.perm.mem_iff.2 hty)
  rw [List.map_map]
  refine List.mem_map.2 ⟨z, hz, ?_⟩
  show z.tv.key = k
  rw [(h.zk z hz).1, ← (hok.rels _ hty).2.2 r hrt]
  exact h1
theorem FRep.at' {w : World} {S : Nat} {rbT : Option Nat} {zs : List Zt} {st : List Ty} (h : FRep w S rbT zs st) (hok : StOk st) {z : Zt} (hz : z ∈ zs) {es' : List RV} (he : es'.map kst = z.es.map kst) (n : List UInt8) :
    (n ∉ es'.map (·.key) → findRel st z.tv.key n = none) ∧ ∀ y ∈ es', y.key = n → findRel st z.tv.key n = some y.set := by
  have hty : z.ty ∈ st := h.perm.mem_iff.1 (List.mem_map.2 ⟨z, hz, rfl⟩)
  have hp := (h.zk z hz).2
  rw [← he] at hp
  constructor
  · intro hn
    refine findRel_none (fun r hr ⟨h1, h2⟩ => hn ?_)
    obtain ⟨ty, hty2, hrt⟩ := mem_relsOf.1 hr
    have e : ty = z.ty := ty_eq_of_nm hok hty2 hty (by rw [← (h.zk z hz).1, ← h1]; exact ((hok.rels ty hty2).2.2 r hrt).symm)
    subst e
    obtain ⟨y, hy, e2⟩ := List.mem_map.1 (hp.mem_iff.2 (List.mem_map.2 ⟨r, hrt, rfl⟩))
    refine List.mem_map.2 ⟨y, hy, ?_⟩
    rw [← h2]
    exact congrArg Prod.fst e2
  · intro y hy e
    obtain ⟨r, hr, e2⟩ := List.mem_map.1 (hp.mem_iff.1 (List.mem_map.2 ⟨y, hy, rfl⟩))
    have hrr : r ∈ relsOf st := mem_relsOf.2 ⟨z.ty, hty, hr⟩
    have e3 : r.nm = y.key := congrArg Prod.fst e2
    have e4 : r.set = y.set := congrArg Prod.snd e2
    have := findRel_some hok hrr
    rw [(hok.rels _ hty).2.2 r hr, ← (h.zk z hz).1, e3, e, e4] at this
    exact this
theorem FRep.types {w : World} {S : Nat} {rbT : Option Nat} {zs : List Zt} {st : List Ty} (h : FRep w S rbT zs st) (n : List UInt8) : n ∈ (zs.map (·.tv)).map (·.key) ↔ n ∈ st.map (·.nm) := by
  have e : (zs.map (·.tv)).map (·.key) = (zs.map (·.ty)).map (·.nm) := by
    rw [List.map_map, List.map_map]
    exact List.map_congr_left (fun z hz => (h.zk z hz).1)
  rw [e]
  exact (h.perm.map _).mem_iff

set_option maxHeartbeats 4000000 in
theorem Relation_any (S : Nat) (rbT : Option Nat) (zs : List Zt) (st : List Ty) (k n : ByteArray) (w : World) (h : FRep w S rbT zs st) (hok : StOk st) :
    Calls Tryz.prog 48 #[.pointer (some ⟨S, 0, none⟩), .string k, .string n] w fun e w' => (∃ y, e = .returned (.tuple #[.agg (relC y).toArray, .bool (findRel st k.data.toList n.data.toList).isSome]) ∧ ∀ b, findRel st k.data.toList n.data.toList = some b → y.set = b) ∧ Below w.heap.size w w' := by
  obtain ⟨W0, hW0⟩ : ∃ W0, w.alloc (.cells (relC relZ).toArray 90) = W0 := ⟨_, rfl⟩
  have hA : Below w.heap.size w W0 := by rw [← hW0]; exact (Below.refl _ _).alloc (Nat.le_refl _) _
  have h0 := h.below hA
  have hM0 : Made W0 w.heap.size (relC relZ).toArray 90 := by rw [← hW0]; exact ⟨heap_alloc_new _ _⟩
  have hG := GetT_any S rbT _ k W0 h0.own
  have HW0 : Hid (w.alloc (.cells #[.bool false, .int .i64 0, .string ⟨#[]⟩, .string ⟨#[]⟩, .slice none 0 0, .int .i64 0, .int .i64 0] 90) = W0) := hW0
  have HA : Hid _ := hA
  have HH : Hid _ := h0
  clear hA h h0 hW0
  go_enter Tryz.func48, Tryz.ntmps48
  go_wp2_with fail
  rw [HW0.out]
  refine hG.mono ?_
  clear hG
  rintro e w1 ⟨hg, hb1⟩
  have HM1 := hM0.below hb1
  have hl1 := HM1.lt
  have HB1 : Hid (Below w.heap.size w w1) := HA.out.trans (hb1.mono (Nat.le_of_lt hM0.lt))
  have HF1 : Hid (FRep w1 S rbT zs st) := HH.out.below hb1
  have m0 := HM1.cell 0
  have m1 := HM1.cell 1
  have m2 := HM1.cell 2
  have m3 := HM1.cell 3
  have m4 := HM1.cell 4
  have m5 := HM1.cell 5
  have m6 := HM1.cell 6
  have f0 := HM1.frz 0
  have f1 := HM1.frz 1
  have f2 := HM1.frz 2
  have f3 := HM1.frz 3
  have f4 := HM1.frz 4
  have f5 := HM1.frz 5
  have f6 := HM1.frz 6
  simp only [relC, relZ, List.getElem?_toArray, List.getElem?_cons_zero, List.getElem?_cons_succ] at m0 m1 m2 m3 m4 m5 m6
  clear hb1 hM0
  rcases hg with ⟨hno, rfl⟩ | ⟨x, hx, hxk, rfl⟩
  · have HN : Hid (findRel st k.data.toList n.data.toList = none) := HF1.out.no hok hno _
    clear hno
    go_wp2
    refine post_cells rfl w.heap.size (relC relZ) (.bool false) rfl rfl rfl Tryz.underlying90 rfl sizeRl (range_puts (relC relZ) (Nat.le_refl _) HM1.range) ?_
    refine ⟨⟨relZ, by rw [HN.out]; rfl, fun b hb => by rw [HN.out] at hb; cases hb⟩, belowCells (Nat.le_refl _) (relC relZ) _ _ HB1.out⟩
  · obtain ⟨z, hz, rfl⟩ := List.mem_map.1 hx
    obtain ⟨es', hown, hes⟩ := HF1.out.zl z hz
    have hat := HF1.out.at' hok hz hes n.data.toList
    rw [hxk] at hat
    have HAt : Hid _ := hat
    have hGR := GetR_any z.tv.blk z.rb es' n w1 hown
    clear hat hown hx hxk hes m0 m1 m2 m3 m4 m5 m6 f0 f1 f2 f3 f4 f5 f6
    generalize z.tv.blk = zb at *
    go_upto_region 4 with fail
    go_wp2_with fail
    refine hGR.mono ?_
    clear hGR
    rintro e w2 ⟨hg2, hb2⟩
    have HM2 := HM1.below hb2
    have hl2 := HM2.lt
    have HB2 : Hid (Below w.heap.size w w2) := HB1.out.trans (hb2.mono (Nat.le_of_lt hl1))
    have m0 := HM2.cell 0
    have m1 := HM2.cell 1
    have m2 := HM2.cell 2
    have m3 := HM2.cell 3
    have m4 := HM2.cell 4
    have m5 := HM2.cell 5
    have m6 := HM2.cell 6
    have f0 := HM2.frz 0
    have f1 := HM2.frz 1
    have f2 := HM2.frz 2
    have f3 := HM2.frz 3
    have f4 := HM2.frz 4
    have f5 := HM2.frz 5
    have f6 := HM2.frz 6
    simp only [relC, relZ, List.getElem?_toArray, List.getElem?_cons_zero, List.getElem?_cons_succ] at m0 m1 m2 m3 m4 m5 m6
    clear hb2 HM1
    rcases hg2 with ⟨hno, rfl⟩ | ⟨y, hy, hyk, rfl⟩
    · have HN : Hid (findRel st k.data.toList n.data.toList = none) := HAt.out.1 hno
      clear hno
      unfold relC relZ
      go_wp2
      refine post_cells rfl w.heap.size (relC relZ) (.bool false) rfl rfl rfl Tryz.underlying90 rfl sizeRl (range_puts (relC relZ) (Nat.le_refl _) HM2.range) ?_
      refine ⟨⟨relZ, by rw [HN.out]; rfl, fun b hb => by rw [HN.out] at hb; cases hb⟩, belowCells (Nat.le_refl _) (relC relZ) _ _ HB2.out⟩
    · have HN : Hid (findRel st k.data.toList n.data.toList = some y.set) := HAt.out.2 y hy hyk
      clear hy hyk
      obtain ⟨xkey, xset, xk, xb, xc, xp, xl, xcp, xrank, xline⟩ := y
      unfold relC
      simp only at HN ⊢
      go_wp2
      refine post_cells rfl w.heap.size (relC ⟨xkey, xset, xk, xb, xc, xp, xl, xcp, xrank, xline⟩) (.bool true) rfl rfl rfl Tryz.underlying90 rfl sizeRl (range_puts (relC ⟨xkey, xset, xk, xb, xc, xp, xl, xcp, xrank, xline⟩) (cs := relC relZ) (Nat.le_refl 7) HM2.range) ?_
      refine ⟨⟨⟨xkey, xset, xk, xb, xc, xp, xl, xcp, xrank, xline⟩, by rw [HN.out]; rfl, fun b hb => by rw [HN.out] at hb; exact Option.some.inj hb⟩, belowCells (Nat.le_refl _) (relC ⟨xkey, xset, xk, xb, xc, xp, xl, xcp, xrank, xline⟩) _ _ HB2.out⟩
end Go.Proofs.YtlgodpadcilcaaaGreatDoor
namespace Go.Proofs.YtlgodpadcilcaaaGreatDoor
open Go.ChangeShapes Go.WideShapes Go.ChangeAt Go.RowKit

set_option maxHeartbeats 1000000 in
theorem IsSet_any (a b c : ByteArray) (w : World) :
    Calls Tryz.prog 49 #[.agg #[.string a, .string b, .string c]] w fun e w' => e = .returned (.bool (!decide (c.data.toList = []))) ∧ Below w.heap.size w w' := by
  have hA : ∀ o, Below w.heap.size w (w.alloc o) := fun o => (Below.refl _ _).alloc (Nat.le_refl _) _
  have HA : Hid _ := hA
  clear hA
  by_cases hc : c.data.toList = []
  · have hq : (c.toList == []) = true := by rw [ByteArray.toList_eq, hc]; rfl
    have hd : decide (c.data.toList = []) = true := decide_eq_true hc
    rw [hd]
    clear hc hd
    go_enter Tryz.func49, Tryz.ntmps49
    go_wp2
    go_ret
    exact ⟨ret_bool (by first | rfl | simp [hq]), HA.out _⟩
  · have hq : (c.toList == []) = false := by rw [ByteArray.toList_eq, beq_eq_false_iff_ne]; exact hc
    have hd : decide (c.data.toList = []) = false := decide_eq_false hc
    rw [hd]
    clear hc hd
    go_enter Tryz.func49, Tryz.ntmps49
    go_wp2
    go_ret
    exact ⟨ret_bool (by first | rfl | simp [hq]), HA.out _⟩

/-- does a tuple fit? -/
def fitB (st : List Ty) (x : Tup) : Bool := (findRel st x.k x.r).isSome && (if x.r2 = [] then decide (x.k2 ∈ st.map (·.nm)) else (findRel st x.k2 x.r2 == some true))
theorem fitB_no {st : List Ty} {x : Tup} (h : findRel st x.k x.r = none) : fitB st x = false := by unfold fitB; rw [h]; rfl
theorem fitB_obj {st : List Ty} {x : Tup} (h : (findRel st x.k x.r).isSome = true) (h2 : x.r2 = []) : fitB st x = decide (x.k2 ∈ st.map (·.nm)) := by unfold fitB; rw [h, if_pos h2]; rfl
theorem fitB_set {st : List Ty} {x : Tup} (h : (findRel st x.k x.r).isSome = true) (h2 : x.r2 ≠ []) : fitB st x = (findRel st x.k2 x.r2 == some true) := by unfold fitB; rw [h, if_neg h2]; rfl

set_option maxHeartbeats 4000000 in
theorem sfits_any (S : Nat) (rbT : Option Nat) (zs : List Zt) (st : List Ty) (k i r k2 i2 r2 : ByteArray) (w : World) (h : FRep w S rbT zs st) (hok : StOk st) :
    Calls Tryz.prog 18 #[.pointer (some ⟨S, 0, none⟩), .agg #[.string k, .string i, .string r, .string k2, .string i2, .string r2]] w fun e w' => e = .returned (.bool (fitB st ⟨k.data.toList, i.data.toList, r.data.toList, k2.data.toList, i2.data.toList, r2.data.toList⟩)) ∧ Below w.heap.size w w' := by
  obtain ⟨W0, hW0⟩ : ∃ W0, w.alloc (.cells #[.string k, .string i, .string r, .string k2, .string i2, .string r2] 35) = W0 := ⟨_, rfl⟩
  have hA : Below w.heap.size w W0 := by rw [← hW0]; exact (Below.refl _ _).alloc (Nat.le_refl _) _
  have h0 := h.below hA
  have hM0 : Made W0 w.heap.size #[.string k, .string i, .string r, .string k2, .string i2, .string r2] 35 := by rw [← hW0]; exact ⟨heap_alloc_new _ _⟩
  have hR := Relation_any S rbT zs st k r W0 h0 hok
  have HW0 : Hid _ := hW0
  have HA : Hid _ := hA
  have HH : Hid _ := h0
  have hno : findRel st k.data.toList r.data.toList = none → fitB st ⟨k.data.toList, i.data.toList, r.data.toList, k2.data.toList, i2.data.toList, r2.data.toList⟩ = false := fun h => fitB_no h
  have hobj : (findRel st k.data.toList r.data.toList).isSome = true → r2.data.toList = [] → fitB st ⟨k.data.toList, i.data.toList, r.data.toList, k2.data.toList, i2.data.toList, r2.data.toList⟩ = decide (k2.data.toList ∈ st.map (·.nm)) := fun h1 h2 => fitB_obj h1 h2
  have hset : (findRel st k.data.toList r.data.toList).isSome = true → r2.data.toList ≠ [] → fitB st ⟨k.data.toList, i.data.toList, r.data.toList, k2.data.toList, i2.data.toList, r2.data.toList⟩ = (findRel st k2.data.toList r2.data.toList == some true) := fun h1 h2 => fitB_set h1 h2
  generalize fitB st ⟨k.data.toList, i.data.toList, r.data.toList, k2.data.toList, i2.data.toList, r2.data.toList⟩ = res at *
  have HNo : Hid _ := hno
  have HObj : Hid _ := hobj
  have HSet : Hid _ := hset
  clear hA h h0 hW0 hno hobj hset
  have d0 := hM0.cell 0
  have d2 := hM0.cell 2
  simp only [List.getElem?_toArray, List.getElem?_cons_zero, List.getElem?_cons_succ] at d0 d2
  go_enter Tryz.func18, Tryz.ntmps18
  go_wp2_with fail
  rw [HW0.out]
  go_wp2_with fail
  refine hR.mono ?_
  clear hR d0 d2
  rintro e w1 ⟨⟨y, rfl, hy⟩, hb1⟩
  have HM1 := hM0.below hb1
  have HB1 : Hid (Below w.heap.size w w1) := HA.out.trans (hb1.mono (Nat.le_of_lt hM0.lt))
  have HF1 : Hid (FRep w1 S rbT zs st) := HH.out.below hb1
  have hl1 := HM1.lt
  clear hb1 hM0 hy
  obtain ⟨xkey, xset, xk, xb, xc, xp, xl, xcp, xrank, xline⟩ := y
  unfold relC
  simp only
  cases hf : findRel st k.data.toList r.data.toList with
  | none =>
    have HRes : Hid (res = false) := HNo.out hf
    simp only [Option.isSome_none]
    clear hf
    go_wp2
    go_ret
    exact ⟨by rw [HRes.out]; rfl, HB1.out.alloc (Nat.le_of_lt hl1) _⟩
  | some b0 =>
    have HSo : Hid ((findRel st k.data.toList r.data.toList).isSome = true) := by show _ = _; rw [hf]; rfl
    simp only [Option.isSome_some]
    clear hf
    go_upto_region 2 with fail
    have HM2 := HM1.alloc (.cells #[.bool xset, .int .i64 xk, .string xb, .string xc, .slice xp xl xcp, .int .i64 xrank, .int .i64 xline] 90)
    have hbA : Below w1.heap.size w1 (w1.alloc (.cells #[.bool xset, .int .i64 xk, .string xb, .string xc, .slice xp xl xcp, .int .i64 xrank, .int .i64 xline] 90)) := (Below.refl _ _).alloc (Nat.le_refl _) _
    have HB2 : Hid (Below w.heap.size w (w1.alloc (.cells #[.bool xset, .int .i64 xk, .string xb, .string xc, .slice xp xl xcp, .int .i64 xrank, .int .i64 xline] 90))) := HB1.out.alloc (Nat.le_of_lt hl1) _
    have HF2 : Hid (FRep (w1.alloc (.cells #[.bool xset, .int .i64 xk, .string xb, .string xc, .slice xp xl xcp, .int .i64 xrank, .int .i64 xline] 90)) S rbT zs st) := HF1.out.below hbA
    generalize w1.alloc (.cells #[.bool xset, .int .i64 xk, .string xb, .string xc, .slice xp xl xcp, .int .i64 xrank, .int .i64 xline] 90) = W2 at *
    clear HB1 HF1 HM1 hl1 hbA
    generalize w1.heap.size = B1 at *
    have d3 := HM2.cell 3
    have d4 := HM2.cell 4
    have d5 := HM2.cell 5
    simp only [List.getElem?_toArray, List.getElem?_cons_zero, List.getElem?_cons_succ] at d3 d4 d5
    have hI := IsSet_any k2 i2 r2 W2
    by_cases hr : r2.data.toList = []
    · rw [decide_eq_true hr] at hI
      have hRes := HObj.out HSo.out hr
      clear hr HNo HObj HSet
      go_upto_region 5 with (go_at_call 49; refine hI.mono ?_; rintro e w3 ⟨rfl, hb3⟩)
      have HM3 := HM2.below hb3
      have hl2 := HM2.lt
      have HB3 : Hid (Below w.heap.size w w3) := HB2.out.trans (hb3.mono (Nat.le_of_lt hl2))
      have hF3 := HF2.out.below hb3
      have hT : ∀ n, Calls Tryz.prog 50 #[.pointer (some ⟨S, 0, none⟩), .string k2] (w3.drewN n) fun e w' => e = .returned (.bool res) ∧ Below (w3.drewN n).heap.size (w3.drewN n) w' := fun n => by
        have h1 := HasT_any S (zs.map (·.tv)) k2 (w3.drewN n) (hF3.below (below_drewN w3 n _)).own.list
        have e : decide (k2.data.toList ∈ (zs.map (·.tv)).map (·.key)) = res := by
          rw [hRes, Bool.eq_iff_iff, decide_eq_true_iff, decide_eq_true_iff]
          exact hF3.types _
        rw [e] at h1
        exact h1
      have HT : Hid _ := hT
      have HL3 : Hid (w.heap.size < w3.heap.size) := HM3.lt
      clear hI d3 d4 d5 hb3 hF3 hRes hT
      have e3 := HM3.cell 3
      simp only [List.getElem?_toArray, List.getElem?_cons_zero, List.getElem?_cons_succ] at e3
      clear HB2 HF2 HM2 HM3
      have hl3 : w.heap.size < w3.heap.size := HL3.out
      go_region_with (go_at_call 50; refine (HT.out _).mono ?_; rintro e w4 ⟨rfl, hb4⟩)
      all_goals go_wp2
      all_goals go_ret
      all_goals exact ⟨rfl, HB3.out.trans (⟨hb4.os, hb4.tape, hb4.output, hb4.size, fun k hk => hb4.block k (Nat.lt_of_lt_of_le hk (Nat.le_of_lt hl3))⟩)⟩
    · rw [decide_eq_false hr] at hI
      have hRes := HSet.out HSo.out hr
      clear hr HNo HObj HSet
      go_upto_region 6 with (go_at_call 49; refine hI.mono ?_; rintro e w3 ⟨rfl, hb3⟩)
      have HM3 := HM2.below hb3
      have hl2 := HM2.lt
      have HB3 : Hid (Below w.heap.size w w3) := HB2.out.trans (hb3.mono (Nat.le_of_lt hl2))
      have hR2 := Relation_any S rbT zs st k2 r2 w3 (HF2.out.below hb3) hok
      clear hI d3 d4 d5 hb3 HF2 HB2
      have e3 := HM3.cell 3
      have e5 := HM3.cell 5
      have hl3 := HM3.lt
      simp only [List.getElem?_toArray, List.getElem?_cons_zero, List.getElem?_cons_succ] at e3 e5
      have HRes : Hid _ := hRes
      clear hRes
      go_wp2_with fail
      refine hR2.mono ?_
      clear hR2 e3 e5
      rintro e w4 ⟨⟨y, rfl, hy⟩, hb4⟩
      have hl4 : w.heap.size < w4.heap.size := (HM3.below hb4).lt
      have HB4 : Hid (Below w.heap.size w w4) := HB3.out.trans (hb4.mono (Nat.le_of_lt hl3))
      clear hb4 HM3 HB3
      obtain ⟨ykey, yset, yk, yb, yc, yp, yl, ycp, yrank, yline⟩ := y
      unfold relC
      simp only at hy ⊢
      cases hf : findRel st k2.data.toList r2.data.toList with
      | none =>
        have HRes2 : Hid (res = false) := by show _ = _; rw [HRes.out, hf]; rfl
        simp only [Option.isSome_none]
        clear hf hy HRes
        go_wp2
        go_ret
        exact ⟨by rw [HRes2.out]; rfl, HB4.out.alloc (Nat.le_of_lt hl4) _⟩
      | some b1 =>
        have hyb : yset = b1 := hy b1 hf
        subst hyb
        have HRes2 : Hid (res = yset) := by show _ = _; rw [HRes.out, hf]; cases yset <;> rfl
        simp only [Option.isSome_some]
        clear hf hy HRes
        go_wp2
        go_ret
        exact ⟨by rw [HRes2.out]; rfl, HB4.out.alloc (Nat.le_of_lt hl4) _⟩
end Go.Proofs.YtlgodpadcilcaaaGreatDoor
namespace Go.Proofs.YtlgodpadcilcaaaGreatDoor
open Go.ChangeShapes Go.WideShapes Go.ChangeAt Go.RowKit

/-- the error of a text as a tuple -/
def fitS (st : List Ty) (t : List UInt8) : Nat := match tupS t with
  | none => 5
  | some x => bif fitB st x then 0 else 6
theorem fitS_none {st : List Ty} {t : List UInt8} (h : tupS t = none) : fitS st t = 5 := by unfold fitS; rw [h]
theorem fitS_some {st : List Ty} {t : List UInt8} {x : Tup} (h : tupS t = some x) : fitS st t = bif fitB st x then 0 else 6 := by unfold fitS; rw [h]

set_option maxHeartbeats 4000000 in
theorem ReadTuple_any (S : Nat) (rbT : Option Nat) (zs : List Zt) (st : List Ty) (s : ByteArray) (w : World) (h : FRep w S rbT zs st) (hok : StOk st) (hs : s.size ≤ 9223372036854775807) :
    Calls Tryz.prog 8 #[.pointer (some ⟨S, 0, none⟩), .string s] w fun e w' => (∃ v, e = .returned (.tuple #[v, .int .i64 (fitS st s.data.toList : Nat)])) ∧ Below w.heap.size w w' := by
  obtain ⟨W0, hW0⟩ : ∃ W0, w.alloc (.cells z6.toArray 35) = W0 := ⟨_, rfl⟩
  have hA : Below w.heap.size w W0 := by rw [← hW0]; exact (Below.refl _ _).alloc (Nat.le_refl _) _
  have h0 := h.below hA
  have hM0 : Made W0 w.heap.size z6.toArray 35 := by rw [← hW0]; exact ⟨heap_alloc_new _ _⟩
  have hP := ParseTuple_any s W0 hs
  have HW0 : Hid (w.alloc (.cells #[.string ⟨#[]⟩, .string ⟨#[]⟩, .string ⟨#[]⟩, .string ⟨#[]⟩, .string ⟨#[]⟩, .string ⟨#[]⟩] 35) = W0) := hW0
  have HA : Hid _ := hA
  have HH : Hid _ := h0
  have hfn : tupS s.data.toList = none → fitS st s.data.toList = 5 := fun h => fitS_none h
  have hfs : ∀ x, tupS s.data.toList = some x → fitS st s.data.toList = bif fitB st x then 0 else 6 := fun x h => fitS_some h
  generalize fitS st s.data.toList = res at *
  generalize ho : tupS s.data.toList = o at *
  have HFn : Hid _ := hfn
  have HFs : Hid _ := hfs
  clear hA h h0 hW0 ho hfn hfs
  go_enter Tryz.func8, Tryz.ntmps8
  go_wp2_with fail
  rw [HW0.out]
  refine hP.mono ?_
  clear hP
  rintro e w1 ⟨rfl, hb1⟩
  have HM1 := hM0.below hb1
  have HB1 : Hid (Below w.heap.size w w1) := HA.out.trans (hb1.mono (Nat.le_of_lt hM0.lt))
  have HF1 : Hid (FRep w1 S rbT zs st) := HH.out.below hb1
  have hl1 := HM1.lt
  clear hb1 hM0
  cases o with
  | none =>
    have HRes : Hid (res = 5) := HFn.out rfl
    unfold tupC
    simp only [Option.getD_none, Option.isSome_none]
    unfold strV
    unfold z6 at HM1
    have m0 := HM1.cell 0
    have m1 := HM1.cell 1
    have m2 := HM1.cell 2
    have m3 := HM1.cell 3
    have m4 := HM1.cell 4
    have m5 := HM1.cell 5
    have f0 := HM1.frz 0
    have f1 := HM1.frz 1
    have f2 := HM1.frz 2
    have f3 := HM1.frz 3
    have f4 := HM1.frz 4
    have f5 := HM1.frz 5
    simp only [List.getElem?_toArray, List.getElem?_cons_zero, List.getElem?_cons_succ] at m0 m1 m2 m3 m4 m5
    go_wp2
    refine post_cells rfl w.heap.size z6 (.int .i64 5) rfl rfl rfl Tryz.underlying35 rfl sizeTu (HM1.puts z6 (Nat.le_refl 6) _) ?_
    exact ⟨⟨_, by rw [HRes.out]; rfl⟩, Made.belowPuts HB1.out (Nat.le_refl _) (Nat.le_of_lt hl1) z6 _⟩
  | some x =>
    have hRes := HFs.out x rfl
    unfold tupC
    simp only [Option.getD_some, Option.isSome_some]
    unfold strV
    obtain ⟨k, i, r, k2, i2, r2⟩ := x
    simp only
    obtain ⟨kA, hkA⟩ : ∃ A : ByteArray, (⟨k.toArray⟩ : ByteArray) = A := ⟨_, rfl⟩
    obtain ⟨iA, hiA⟩ : ∃ A : ByteArray, (⟨i.toArray⟩ : ByteArray) = A := ⟨_, rfl⟩
    obtain ⟨rA, hrA⟩ : ∃ A : ByteArray, (⟨r.toArray⟩ : ByteArray) = A := ⟨_, rfl⟩
    obtain ⟨k2A, hk2A⟩ : ∃ A : ByteArray, (⟨k2.toArray⟩ : ByteArray) = A := ⟨_, rfl⟩
    obtain ⟨i2A, hi2A⟩ : ∃ A : ByteArray, (⟨i2.toArray⟩ : ByteArray) = A := ⟨_, rfl⟩
    obtain ⟨r2A, hr2A⟩ : ∃ A : ByteArray, (⟨r2.toArray⟩ : ByteArray) = A := ⟨_, rfl⟩
    have eB : fitB st ⟨k, i, r, k2, i2, r2⟩ = fitB st ⟨kA.data.toList, iA.data.toList, rA.data.toList, k2A.data.toList, i2A.data.toList, r2A.data.toList⟩ := by rw [← hkA, ← hiA, ← hrA, ← hk2A, ← hi2A, ← hr2A]
    rw [eB] at hRes
    rw [hkA, hiA, hrA, hk2A, hi2A, hr2A]
    clear eB hkA hiA hrA hk2A hi2A hr2A
    have hbA : Below w1.heap.size w1 (w1.alloc (.cells #[.string kA, .string iA, .string rA, .string k2A, .string i2A, .string r2A] 35)) := (Below.refl _ _).alloc (Nat.le_refl _) _
    have HM2 := HM1.below hbA
    have HN2 : Made (w1.alloc (.cells #[.string kA, .string iA, .string rA, .string k2A, .string i2A, .string r2A] 35)) w1.heap.size #[.string kA, .string iA, .string rA, .string k2A, .string i2A, .string r2A] 35 := ⟨heap_alloc_new _ _⟩
    have HB2 : Hid (Below w.heap.size w (w1.alloc (.cells #[.string kA, .string iA, .string rA, .string k2A, .string i2A, .string r2A] 35))) := HB1.out.alloc (Nat.le_of_lt hl1) _
    have hF2 := sfits_any S rbT zs st kA iA rA k2A i2A r2A _ (HF1.out.below hbA) hok
    generalize fitB st ⟨kA.data.toList, iA.data.toList, rA.data.toList, k2A.data.toList, i2A.data.toList, r2A.data.toList⟩ = b at *
    go_upto_region 4 with fail
    generalize w1.alloc (.cells #[.string kA, .string iA, .string rA, .string k2A, .string i2A, .string r2A] 35) = W2 at *
    clear HB1 HF1 HM1 hl1 hbA
    generalize w1.heap.size = B1 at *
    have d0 := HN2.cell 0
    have d1 := HN2.cell 1
    have d2 := HN2.cell 2
    have d3 := HN2.cell 3
    have d4 := HN2.cell 4
    have d5 := HN2.cell 5
    simp only [List.getElem?_toArray, List.getElem?_cons_zero, List.getElem?_cons_succ] at d0 d1 d2 d3 d4 d5
    go_wp2_with fail
    refine hF2.mono ?_
    clear hF2 d0 d1 d2 d3 d4 d5
    rintro e w3 ⟨rfl, hb3⟩
    have HM3 := HM2.below hb3
    have HN3 := HN2.below hb3
    have HB3 : Hid (Below w.heap.size w w3) := HB2.out.trans (hb3.mono (Nat.le_of_lt HM2.lt))
    have hl3 := HM3.lt
    clear hb3 HM2 HN2 HB2
    unfold z6 at HM3
    have d0 := HN3.cell 0
    have d1 := HN3.cell 1
    have d2 := HN3.cell 2
    have d3 := HN3.cell 3
    have d4 := HN3.cell 4
    have d5 := HN3.cell 5
    have m0 := HM3.cell 0
    have m1 := HM3.cell 1
    have m2 := HM3.cell 2
    have m3 := HM3.cell 3
    have m4 := HM3.cell 4
    have m5 := HM3.cell 5
    have f0 := HM3.frz 0
    have f1 := HM3.frz 1
    have f2 := HM3.frz 2
    have f3 := HM3.frz 3
    have f4 := HM3.frz 4
    have f5 := HM3.frz 5
    simp only [List.getElem?_toArray, List.getElem?_cons_zero, List.getElem?_cons_succ] at m0 m1 m2 m3 m4 m5 d0 d1 d2 d3 d4 d5
    cases b with
    | false =>
      have HRes : Hid (res = 6) := hRes
      clear hRes
      go_wp2
      refine post_cells rfl w.heap.size z6 (.int .i64 6) rfl rfl rfl Tryz.underlying35 rfl sizeTu (range_puts z6 (Nat.le_refl _) HM3.range) ?_
      exact ⟨⟨_, by rw [HRes.out]; rfl⟩, belowCells (Nat.le_refl _) z6 _ _ HB3.out⟩
    | true =>
      have HRes : Hid (res = 0) := hRes
      clear hRes
      go_wp2
      refine post_cells rfl w.heap.size [.string kA, .string iA, .string rA, .string k2A, .string i2A, .string r2A] (.int .i64 0) rfl rfl rfl Tryz.underlying35 rfl sizeTu (range_puts [.string kA, .string iA, .string rA, .string k2A, .string i2A, .string r2A] (cs := z6) (Nat.le_refl 6) HM3.range) ?_
      exact ⟨⟨_, by rw [HRes.out]; rfl⟩, belowCells (Nat.le_refl _) [.string kA, .string iA, .string rA, .string k2A, .string i2A, .string r2A] _ _ HB3.out⟩

/-- what Fits answers -/
def FitsR (res : Nat × Nat) (ls : List (List UInt8)) (t : List UInt8) (v : Nat) : Prop := (res.2 ≠ 0 → v = res.2) ∧ (res.2 = 0 → ∃ st, linesS [] 0 ls = .inr st ∧ v = fitS st t)
theorem FitsR.one {res : Nat × Nat} {ls : List (List UInt8)} {t : List UInt8} {v u : Nat} (h : FitsR res ls t v) (k : FitsR res ls t u) : v = u := by
  by_cases h0 : res.2 = 0
  · obtain ⟨st, h1, rfl⟩ := h.2 h0
    obtain ⟨st', h2, rfl⟩ := k.2 h0
    rw [h1] at h2
    cases h2
    rfl
  · rw [h.1 h0, k.1 h0]

set_option maxHeartbeats 4000000 in
theorem wFits_any (s t : ByteArray) (w : World) (ht : t.size ≤ 9223372036854775807) :
    Calls Tryz.prog 4 #[.string s, .string t] w fun e w' => (∃ v : Nat, e = .returned (.int .i64 (v : Nat)) ∧ FitsR (schemaS s.data.toList) (splitL 10 s.data.toList) t.data.toList v) ∧ Below w.heap.size w w' := by
  have hP := Parse_any s w
  generalize schemaS s.data.toList = res at *
  generalize splitL 10 s.data.toList = ls at *
  obtain ⟨r1, r2⟩ := res
  simp only at hP
  go_enter Tryz.func4, Tryz.ntmps4
  go_upto_region 2 with (go_at_call 7; refine hP.mono ?_; rintro e w1 ⟨p, rfl, hE, hb1⟩)
  clear hP
  by_cases h0 : r2 = 0
  · subst h0
    obtain ⟨S, rbT, zs, st, rfl, hl, hok, hF⟩ := hE rfl
    have hR := ReadTuple_any S rbT zs st t w1 hF hok ht
    have HV : Hid (FitsR (r1, 0) ls t.data.toList (fitS st t.data.toList)) := ⟨fun h => absurd rfl h, fun _ => ⟨st, hl, rfl⟩⟩
    generalize fitS st t.data.toList = v at *
    have HB1 : Hid _ := hb1
    clear hE hl hok hF hb1
    go_wp2_with (go_at_call 8; refine hR.mono ?_; rintro e w2 ⟨⟨v0, rfl⟩, hb2⟩)
    go_ret
    exact ⟨⟨v, rfl, HV.out⟩, HB1.out.trans (hb2.mono HB1.out.size)⟩
  · have hq : (((r2 : Nat) : Int) == 0) = false := by rw [beq_eq_false_iff_ne]; omega
    have hq2 : ¬ ((r2 : Nat) : Int) = 0 := by omega
    have HV : Hid (FitsR (r1, r2) ls t.data.toList r2) := ⟨fun _ => rfl, fun h => absurd h h0⟩
    clear hE
    go_wp2
    go_ret
    exact ⟨⟨r2, rfl, HV.out⟩, hb1⟩
end Go.Proofs.YtlgodpadcilcaaaGreatDoor
namespace Go.Proofs.YtlgodpadcilcaaaGreatDoor
open Go.ChangeShapes Go.WideShapes Go.ChangeAt Go.RowKit

theorem firstI_find {α : Type} (p : α → Bool) (l : List α) : (l.find? p = none ∧ firstI p l = -1) ∨ ∃ q, ∃ hq : q < l.length, firstI p l = (q : Nat) ∧ l.find? p = some l[q] := by
  unfold firstI
  cases h : l.findIdx? p with
  | none =>
    refine .inl ⟨?_, rfl⟩
    rw [List.find?_eq_none]
    intro x hx
    have := List.findIdx?_eq_none_iff.1 h x hx
    simp [this]
  | some q =>
    obtain ⟨hq, h1, h2⟩ := List.findIdx?_eq_some_iff_getElem.1 h
    refine .inr ⟨q, hq, rfl, List.find?_eq_some_iff_getElem.2 ⟨h1, q, hq, rfl, fun j hj => ?_⟩⟩
    simpa using h2 j hj
theorem firstI_congr {α β : Type} {p : α → Bool} {p' : β → Bool} {l : List α} {l' : List β} (hl : l.length = l'.length) (h : ∀ j (h1 : j < l.length) (h2 : j < l'.length), p l[j] = p' l'[j]) : firstI p l = firstI p' l' := by
  have e : l.map p = l'.map p' := List.ext_getElem (by simpa using hl) (fun j h1 h2 => by rw [List.getElem_map, List.getElem_map]; exact h j (by simpa using h1) (by simpa using h2))
  have f : ∀ {γ : Type} (q : γ → Bool) (m : List γ), m.findIdx? q = (m.map q).findIdx? id := fun q m => by rw [List.findIdx?_map]; rfl
  unfold firstI
  rw [f p l, f p' l', e]

/-- the plan in a world behind Read -/
structure QRep (w : World) (P : Nat) (rs : List RR) (st : List Ty) : Prop where
  types : ∃ v, w.cell? ⟨P, 0, none⟩ = some v ∧ w.ownsRow 0 9 1 v (st.map (·.nm)).length ((st.map (·.nm)).map strV)
  rels : ∃ v, w.cell? ⟨P, 1, none⟩ = some v ∧ RowRR w v rs
  len : rs.length = (relsOf st).length
  ok : ∀ j (h : j < rs.length) (h' : j < (relsOf st).length), (st.map (·.nm))[rs[j].ty]? = some (relsOf st)[j].ty ∧ rs[j].nm = (relsOf st)[j].nm ∧ rs[j].set = (relsOf st)[j].set
theorem QRep.of {V w : World} {P : Nat} {tb rb nb : Option Nat} {N : List NV} {rs : List RR} {st : List Ty} (h : PlanRep V P tb rb nb N rs st) (hz : RdZ V P w) : QRep w P rs st := by
  obtain ⟨v1, a1, a2, a3⟩ := h.types
  obtain ⟨v2, b1, b2, b3⟩ := h.rels
  have hnd := h.nodup
  unfold planM at hnd
  rw [List.nodup_cons] at hnd
  have hne : ∀ g, tb = some g ∨ rb = some g → g ≠ P := fun g hg e => hnd.1 (by
    subst e
    rcases hg with e | e
    · simp [e]
    · simp [e])
  refine ⟨⟨v1, (hz.cells 0 (by decide) (by decide)).trans a1, owns_same a2 (fun g hg => hz.block g (h.lt g (planM_t (by rw [← a3]; exact hg))) (hne g (.inl (by rw [← a3]; exact hg))))⟩, ⟨v2, (hz.cells 1 (by decide) (by decide)).trans b1, owns_same b2 (fun g hg => hz.block g (h.lt g (planM_r (by rw [← b3]; exact hg))) (hne g (.inr (by rw [← b3]; exact hg))))⟩, h.len, fun j h1 h2 => ?_⟩
  obtain ⟨r1, r2, r3, _, _⟩ := h.ok j h1 h2
  exact ⟨r1, r2, r3⟩
theorem QRep.below {w w' : World} {P : Nat} {rs : List RR} {st : List Ty} (h : QRep w P rs st) (hb : Below w.heap.size w w') : QRep w' P rs st := by
  obtain ⟨v1, a1, a2⟩ := h.types
  obtain ⟨v2, b1, b2⟩ := h.rels
  have hP := World.block_lt_of_cell? w ⟨P, 0, none⟩ a1
  exact ⟨⟨v1, by rw [hb.cell (p := ⟨P, 0, none⟩) hP]; exact a1, owns_same a2 (fun g hg => hb.block g (a2.lt g hg).2)⟩, ⟨v2, by rw [hb.cell (p := ⟨P, 1, none⟩) hP]; exact b1, owns_same b2 (fun g hg => hb.block g (World.ownsRow.lt b2 g hg).2)⟩, h.len, h.ok⟩

/-- the type's number -/
def typeI (st : List Ty) (k : List UInt8) : Int := firstI (· == k) (st.map (·.nm))
theorem typeI_cases (st : List Ty) (k : List UInt8) : (k ∉ st.map (·.nm) ∧ typeI st k = -1) ∨ (k ∈ st.map (·.nm) ∧ ∃ q, ∃ hq : q < (st.map (·.nm)).length, typeI st k = (q : Nat) ∧ (st.map (·.nm))[q] = k) := by
  rcases firstI_find (fun x => x == k) (st.map (·.nm)) with ⟨h1, h2⟩ | ⟨q, hq, h1, h2⟩
  · refine .inl ⟨fun hm => ?_, h2⟩
    have := List.find?_eq_none.1 h1 k hm
    simp at this
  · have h3 := List.find?_some h2
    have e : (st.map (·.nm))[q] = k := by simpa using h3
    exact .inr ⟨by rw [← e]; exact List.getElem_mem _, q, hq, h1, e⟩
theorem relAt_eq {w : World} {P : Nat} {rs : List RR} {st : List Ty} (h : QRep w P rs st) (hok : StOk st) (k n : List UInt8) (j : Nat) (h1 : j < rs.length) (h2 : j < (relsOf st).length) :
    relAt (typeI st k) n rs[j] = (((relsOf st)[j].ty == k) && ((relsOf st)[j].nm == n)) := by
  obtain ⟨r1, r2, _⟩ := h.ok j h1 h2
  obtain ⟨hi, he⟩ := List.getElem?_eq_some_iff.1 r1
  unfold relAt
  rw [r2]
  refine congrArg (· && _) ?_
  rw [Bool.eq_iff_iff, beq_iff_eq, beq_iff_eq]
  rcases typeI_cases st k with ⟨hno, e⟩ | ⟨_, q, hq, e, e2⟩
  · rw [e]
    constructor
    · intro h; omega
    · intro h
      exact absurd (List.getElem_mem hi) (by rw [he, h]; exact hno)
  · rw [e]
    constructor
    · intro h
      have hjq : rs[j].ty = q := by omega
      rw [← he, ← e2]
      exact (List.getElem_inj hok.nodup).2 hjq
    · intro h
      have hjq : rs[j].ty = q := (List.getElem_inj (h₀ := hi) (h₁ := hq) hok.nodup).1 (by rw [he, e2, h])
      rw [hjq]
/-- what Rel tells -/
theorem relI {w : World} {P : Nat} {rs : List RR} {st : List Ty} (h : QRep w P rs st) (hok : StOk st) (k n : List UInt8) :
    (findRel st k n = none ∧ firstI (relAt (typeI st k) n) rs = -1) ∨ ∃ q, ∃ hq : q < rs.length, firstI (relAt (typeI st k) n) rs = (q : Nat) ∧ findRel st k n = some rs[q].set := by
  have e := firstI_congr (p := relAt (typeI st k) n) (p' := fun r : Rl => (r.ty == k) && (r.nm == n)) h.len (fun j h1 h2 => relAt_eq h hok k n j h1 h2)
  rw [e]
  unfold findRel
  rcases firstI_find (fun r : Rl => (r.ty == k) && (r.nm == n)) (relsOf st) with ⟨h1, h2⟩ | ⟨q, hq, h1, h2⟩
  · exact .inl ⟨by rw [h1]; rfl, h2⟩
  · refine .inr ⟨q, by rw [h.len]; exact hq, h1, ?_⟩
    rw [h2, (h.ok q (by rw [h.len]; exact hq) hq).2.2]
    rfl
theorem findRel_type {st : List Ty} (hok : StOk st) {k : List UInt8} (hk : k ∉ st.map (·.nm)) (n : List UInt8) : findRel st k n = none := findRel_none (fun r hr ⟨h1, _⟩ => by
  obtain ⟨ty, hty, hrt⟩ := mem_relsOf.1 hr
  exact hk (List.mem_map.2 ⟨ty, hty, by rw [← h1]; exact ((hok.rels ty hty).2.2 r hrt).symm⟩))
theorem fitB_type {st : List Ty} (hok : StOk st) {x : Tup} (h : x.k2 ∉ st.map (·.nm)) : fitB st x = false := by
  unfold fitB
  rw [findRel_type hok h, decide_eq_false h]
  split <;> simp
end Go.Proofs.YtlgodpadcilcaaaGreatDoor
