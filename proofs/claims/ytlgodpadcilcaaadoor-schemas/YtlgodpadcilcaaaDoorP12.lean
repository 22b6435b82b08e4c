import Derived.Test.YtlgodpadcilcaaaDoorP11
import Derived.Test.YtlgodpadcilcaaaDoorP06
import Derived.Test.YtlgodpadcilcaaaDoorP08
import Derived.Test.YtlgodpadcilcaaaDoorP01
import Derived.Deep.QuietTactic
import Derived.BigQuiet
import Derived.OwnWalk
import Derived.Test.YtlgodpadcilcaaaDoorP05
import Derived.Test.YtlgodpadcilcaaaDoorP03
import Derived.Deep.RegionLaw
namespace Go.Proofs.YtlgodpadcilcaaaDoor
open Go.ChangeShapes Go.WideShapes Go.ChangeAt Go.RowKit

set_option maxHeartbeats 4000000 in
set_option maxRecDepth 100000 in
theorem genSplit_new (s : ByteArray) (c : UInt8) (w : World) (hlim : s.size ≤ 1000000) :
    Calls Tryd.prog 21 #[.string s, .string ⟨#[c]⟩, .int .i64 0, .int .i64 (-1)] w fun e w' => ∃ cp, e = .returned (.slice (some ⟨w.heap.size, 0, none⟩) (splitL c s.data.toList).length cp) ∧ (splitL c s.data.toList).length ≤ cp ∧ (∀ i (h : i < (splitL c s.data.toList).length), w'.cell? ⟨w.heap.size, i, none⟩ = some (strV (splitL c s.data.toList)[i])) ∧ Below w.heap.size w w' ∧ w.heap.size < w'.heap.size := by
  have info9 : (Tryd.prog.info? 9).map (fun i => (i.zero, i.size, i.bytes)) = some (some (.string ⟨#[]⟩), 1, 16) := by kernel_rfl
  obtain ⟨i0, hi, hz0, hz1, hz2⟩ := info_parts info9
  clear info9
  have hC := count_one s c w
  have hle := count_le c s.data.toList
  rw [size_list] at hle
  have HL : Hid ((splitL c s.data.toList).length = s.data.toList.count c + 1) := count_split c s.data.toList
  generalize hn : s.data.toList.count c = n at hC hle HL
  have HN : Hid (s.data.toList.count c = n) := hn
  clear hn
  obtain ⟨M, hM⟩ : ∃ M, M = madeCells (Value.string ⟨#[]⟩).cells (((n + 1 : Nat) : Int).toNat * i0.size) := ⟨_, rfl⟩
  have hMs : M.size = n + 1 := by rw [hM, size_madeCells, hz1]; simp
  have hmk : ∀ W : World, (Instr.makeSlice 35 (.int .i64 ((n : Int) + 1)) (.int .i64 ((n : Int) + 1))).run Tryd.prog W = .ok (.slice (some ⟨W.heap.size, 0, none⟩) (n + 1) (n + 1)) (W.alloc (.cells M 9)) := fun W => by
    have h := run_make (P := Tryd.prog) W 35 9 i0 (.string ⟨#[]⟩) Tryd.underlying35 hi hz0 .i64 .i64 ((n + 1 : Nat) : Int) ((n + 1 : Nat) : Int) (by omega) (by omega) (by rw [hz2]; omega) (by omega)
    rw [← hM] at h
    simpa using h
  clear hM
  have hmin : min ((n : Int) + 1) ((s.size : Int) + 1) = (n : Int) + 1 := by omega
  go_enter Tryd.func21, Tryd.ntmps21
  go_wp2_with (go_at_call 42; refine hC.mono ?_; rintro e w' ⟨rfl, rfl⟩)
  go_loopw [0, 10] (fun v0 vi wr => ∃ (k : Nat) (done : List (List UInt8)) (rest : ByteArray), v0 = .string rest ∧ vi = .int .i64 k ∧ k ≤ n ∧ rest.size ≤ s.size ∧ Below w'.heap.size w' wr ∧ wr.heap.size = w'.heap.size + 1 ∧ (∀ j, j ≤ n → (wr.cell? ⟨w'.heap.size, j, none⟩).isSome = true ∧ wr.frozen? ⟨w'.heap.size, j, none⟩ = false) ∧ Hid (done.length = k ∧ splitL c s.data.toList = done ++ splitL c rest.data.toList ∧ k + rest.data.toList.count c = n ∧ ∀ j (h : j < done.length), wr.cell? ⟨w'.heap.size, j, none⟩ = some (strV done[j]))) (fun _ i _ => n - (intOf i).toNat)
  case atStart =>
    refine ⟨0, [], s, rfl, rfl, Nat.zero_le _, Nat.le_refl _, (Below.refl _ _).alloc (Nat.le_refl _) _, by simp, fun j hj => ⟨?_, ?_⟩, show _ ∧ _ from ⟨rfl, rfl, by rw [HN.out]; omega, fun j h => by simp at h⟩⟩
    · rw [World.cell?_alloc_new, Array.getElem?_eq_getElem (by omega)]; rfl
    · exact World.frozen?_alloc_new _ _ _ _
  case round =>
    obtain ⟨k, done, rest, rfl, rfl, hk, hrs, hb, hsz, hcells, HI⟩ := hrel
    by_cases hlt : k < n
    · have hX := index_one rest c wr
      rcases idx_cases rest.data.toList c with ⟨h1, h2⟩ | ⟨p, r, h1, h2, h3⟩
      · exfalso
        have h4 := HI.out.2.2.1
        rw [List.count_eq_zero.2 (fun hm => h2 c hm rfl)] at h4
        omega
      · rw [h3] at hX
        have hl : p.length + 1 ≤ rest.size := by rw [← size_list, h1]; simp
        have HP : Hid (strV p = .string (rest.extract 0 p.length)) := by
          show _ = _
          rw [← strV_of, extract_list, h1]; simp
        have HR : Hid ((rest.extract (p.length + 1) rest.size).data.toList = r) := by
          show _ = _
          rw [extract_list, h1, List.take_of_length_le (by rw [← h1, List.length_drop, size_list]; omega)]
          have e : p ++ c :: r = (p ++ [c]) ++ r := by simp
          rw [e, List.drop_left' (by simp)]
        have HI2 : Hid ((done ++ [p]).length = k + 1 ∧ splitL c s.data.toList = (done ++ [p]) ++ splitL c r ∧ k + 1 + r.count c = n) := by
          refine ⟨by simp [HI.out.1], split_snoc (by rw [← h1]; exact HI.out.2.1) h2, ?_⟩
          have h4 := HI.out.2.2.1
          rw [h1, List.count_append, List.count_cons_self, List.count_eq_zero.2 (fun hm => h2 c hm rfl)] at h4
          omega
        have hd1 := HI.out.1
        have HC : Hid (∀ j (h : j < done.length), wr.cell? ⟨w'.heap.size, j, none⟩ = some (strV done[j])) := HI.out.2.2.2
        clear h1 h2 h3 HI
        generalize hpk : p.length = q at *
        obtain ⟨hc1, hc2⟩ := hcells k (by omega)
        obtain ⟨u, hu⟩ := Option.isSome_iff_exists.1 hc1
        have hsA : ∀ u : World, (Instr.slice 9 (.string rest) none (some (.int .i64 (q : Int))) none).run Tryd.prog u = .ok (.string (rest.extract 0 q)) u := fun u => by
          rw [run_slice_string_to_if u 9 rest .i64 (q : Int) Tryd.underlying9, if_pos (by omega)]
          simp
        go_wp2_with (go_at_call 43; refine hX.mono ?_; rintro e w2 ⟨rfl, rfl⟩)
        go_roundw
        case rel =>
          refine ⟨k + 1, done ++ [p], rest.extract (q + 1) rest.size, rfl, by go_num, by omega, by rw [ByteArray.size_extract]; omega, hb.setCell (p := ⟨w'.heap.size, k, none⟩) (Nat.le_refl _) _, by simp [hsz], fun j hj => ⟨?_, ?_⟩, show _ ∧ _ from ⟨HI2.out.1, by rw [HR.out]; exact HI2.out.2.1, by rw [HR.out]; exact HI2.out.2.2, fun j hj => ?_⟩⟩
          · by_cases e : j = k
            · subst e; rw [World.cell?_setCell_same' _ _ _ hc1]; rfl
            · rw [cell_set_ne e]; exact (hcells j hj).1
          · rw [World.frozen?_setCell]; exact (hcells j hj).2
          · by_cases e : j = k
            · subst e
              rw [World.cell?_setCell_same' _ _ _ hc1, List.getElem_append_right (by omega)]
              simp [hd1, HP.out]
            · rw [cell_set_ne e]
              simp at hj
              rw [HC.out j (by omega), List.getElem_append_left]
        case measure => simp [intOf]; omega
    · obtain rfl : k = n := by omega
      have h0 : rest.data.toList.count c = 0 := by have := HI.out.2.2.1; omega
      have hnone : ∀ x ∈ rest.data.toList, x ≠ c := fun x hx e => by
        subst e
        exact absurd hx (List.count_eq_zero.1 h0)
      have HS : Hid (splitL c s.data.toList = done ++ [rest.data.toList]) := by
        show _ = _
        rw [HI.out.2.1, splitL_all c _ hnone]
      have hd1 := HI.out.1
      have HC : Hid (∀ j (h : j < done.length), wr.cell? ⟨w'.heap.size, j, none⟩ = some (strV done[j])) := HI.out.2.2.2
      clear HI h0 hnone
      obtain ⟨hc1, hc2⟩ := hcells k (by omega)
      obtain ⟨u, hu⟩ := Option.isSome_iff_exists.1 hc1
      go_wp2
      go_ret
      have hlen : (splitL c s.data.toList).length = k + 1 := by rw [HS.out]; simp [hd1]
      have hget : ∀ j (h : j < (splitL c s.data.toList).length) (h2 : j < (done ++ [rest.data.toList]).length), (splitL c s.data.toList)[j] = (done ++ [rest.data.toList])[j] := fun j h h2 => by simp only [HS.out]
      refine ⟨k + 1, ?_, by omega, fun j hj => ?_, hb.setCell (p := ⟨w'.heap.size, k, none⟩) (Nat.le_refl _) _, by simp [hsz]⟩
      · rw [hlen]
        first | rfl | (simp; done)
      · rw [hget j hj (by simp [hd1]; omega)]
        by_cases e : j = k
        · subst e
          rw [World.cell?_setCell_same' _ _ _ hc1, List.getElem_append_right (by omega)]
          simp [hd1, strV_of]
        · rw [cell_set_ne e]
          rw [HC.out j (by omega), List.getElem_append_left]

set_option maxHeartbeats 400000 in
theorem split_new (s : ByteArray) (c : UInt8) (w : World) (hlim : s.size ≤ 1000000) :
    Calls Tryd.prog 9 #[.string s, .string ⟨#[c]⟩] w fun e w' => ∃ cp, e = .returned (.slice (some ⟨w.heap.size, 0, none⟩) (splitL c s.data.toList).length cp) ∧ (splitL c s.data.toList).length ≤ cp ∧ (∀ i (h : i < (splitL c s.data.toList).length), w'.cell? ⟨w.heap.size, i, none⟩ = some (strV (splitL c s.data.toList)[i])) ∧ Below w.heap.size w w' ∧ w.heap.size < w'.heap.size := by
  go_enter Tryd.func9, Tryd.ntmps9
  go_wp2_with fail
  refine (genSplit_new s c w hlim).mono ?_
  rintro e w1 ⟨cp, rfl, h1, h2, h3, h4⟩
  have H2 : Hid _ := h2
  clear h2
  go_wp2
  go_ret
  exact ⟨cp, rfl, h1, H2.out, h3, h4⟩

theorem relLine_any (Rd S : Nat) (rbT : Option Nat) (zs : List Zt) (st : List Ty) (ps : List (List UInt8)) (b o c num : Nat) (set : Bool) (w : World) (h : PRep w Rd S rbT zs st) (hok : StOk st) (hcap : ps.length ≤ c)
    (hcells : ∀ i (hi : i < ps.length), w.cell? ⟨b, o + i, none⟩ = some (strV ps[i])) (hl : ps.length ≤ 1000000) (hz : ∀ x ∈ ps, x.length ≤ 1000000) :
    Calls Tryd.prog 25 #[.pointer (some ⟨Rd, 0, none⟩), .slice (some ⟨b, o, none⟩) ps.length c, .agg (saidV set num)] w fun e w' => LAns Rd S rbT zs w (relS st num set ps) e w' := by
  rcases h.rd1 with ⟨rfl, _⟩ | ⟨z, hz', hlast, hq⟩
  · have e : relS [] num set ps = (2, []) := by cases ps <;> rfl
    rw [e]
    exact relLine_none Rd S rbT zs ps b o c num set w h
  · obtain ⟨A, B, rfl⟩ := List.append_of_mem hz'
    cases ps with
    | nil => exact relLine_empty Rd S rbT _ st _ b o c num set w h hq
    | cons n ex =>
      cases hn : nameL n with
      | false =>
        have e : relS st num set (n :: ex) = (2, st) := by unfold relS; simp only [hlast, hn]; rfl
        rw [e]
        have hc0 : w.cell? ⟨b, o, none⟩ = some (strV n) := hcells 0 (by simp)
        exact relLine_badName Rd S rbT _ st _ n ex.length b o c num set w h hq hc0 hn
      | true =>
        have e : relS st num set (n :: ex) = relMain st z.ty num set n ex := by unfold relS relMain; simp only [hlast, hn]; rfl
        rw [e]
        exact relLine_main Rd S rbT A B z st n ex b o c num set w h hok hlast hq (by simpa using hcap) hcells (by simp at hl; omega) (fun x hx => hz x (List.mem_cons_of_mem _ hx)) hn

theorem typeLine_any (Rd S : Nat) (rbT : Option Nat) (zs : List Zt) (st : List Ty) (ps : List (List UInt8)) (b o c : Nat) (w : World) (h : PRep w Rd S rbT zs st) (hok : StOk st)
    (hcells : ∀ i (hi : i < ps.length), w.cell? ⟨b, o + i, none⟩ = some (strV ps[i])) (hbM : b ∉ allBlocks Rd S rbT zs) :
    Calls Tryd.prog 24 #[.pointer (some ⟨Rd, 0, none⟩), .slice (some ⟨b, o, none⟩) ps.length c] w fun e w' => LAns Rd S rbT zs w (typeS st ps) e w' := by
  by_cases h1 : ps.length = 1
  · obtain ⟨n, rfl⟩ : ∃ n, ps = [n] := List.length_eq_one_iff.1 h1
    exact typeLine_one Rd S rbT zs st n b o c w h hok (hcells 0 (by simp)) hbM
  · have e : typeS st ps = (2, st) := by
      unfold typeS
      split
      · simp at h1
      · rfl
    rw [e]
    refine (typeLine_wrong Rd b o c ps w h1).mono ?_
    rintro e w' ⟨rfl, rfl⟩
    exact LAns.same h (Below.refl _ _)
end Go.Proofs.YtlgodpadcilcaaaDoor
namespace Go.Proofs.YtlgodpadcilcaaaDoor
open Go.ChangeShapes Go.WideShapes Go.ChangeAt Go.RowKit

theorem LAns.after {Rd S : Nat} {rbT : Option Nat} {zs : List Zt} {w w1 w' : World} {r : Nat × List Ty} {e : Ending} (h : LAns Rd S rbT zs w1 r e w') (hb : Below w.heap.size w w1) : LAns Rd S rbT zs w r e w' := by
  obtain ⟨h1, h2, rbT', zs', h3, h4⟩ := h
  have hs := hb.size
  exact ⟨h1, ⟨h2.os.trans hb.os, h2.tape.trans hb.tape, h2.output.trans hb.output, by have := h2.size; omega, fun k hk hn => (h2.block k (by omega) hn).trans (hb.block k hk)⟩, rbT', zs', h3, fun g hg => orTo (h4 g hg) (fun e => by omega)⟩

theorem splitL_len (c : UInt8) (l : List UInt8) : ∀ x ∈ splitL c l, x.length ≤ l.length := by
  induction l with
  | nil => simp [splitL]
  | cons b r ih =>
    intro x hx
    unfold splitL at hx
    split at hx
    · rcases List.mem_cons.1 hx with rfl | hx
      · simp
      · have := ih x hx; simp; omega
    · split at hx
      · rename_i h; exact absurd h (splitL_ne c r)
      · rename_i h t he
        rw [he] at ih
        rcases List.mem_cons.1 hx with rfl | hx
        · have := ih h (by simp); simp; omega
        · have := ih x (by simp [hx]); simp; omega

set_option maxHeartbeats 4000000 in
set_option maxRecDepth 100000 in
theorem line_any (Rd S : Nat) (rbT : Option Nat) (zs : List Zt) (st : List Ty) (num : Nat) (s : ByteArray) (w : World) (h : PRep w Rd S rbT zs st) (hok : StOk st) (hsz : s.size ≤ 10000) :
    Calls Tryd.prog 11 #[.pointer (some ⟨Rd, 0, none⟩), .int .i64 (num : Int), .string s] w fun e w' => LAns Rd S rbT zs w (lineS st num s.data.toList) e w' := by
  have hT : s.toList = s.data.toList := ByteArray.toList_eq s
  have hP := hasPrefix_slashes s w (by omega)
  by_cases h0 : s.data.toList = []
  · have e : lineS st num s.data.toList = (0, st) := by unfold lineS; rw [if_pos (.inl h0)]
    rw [e]
    obtain rfl : s = ⟨#[]⟩ := by
      apply ByteArray.ext
      apply Array.toList_inj.1
      exact h0
    clear hT hP e h0
    go_enter Tryd.func11, Tryd.ntmps11
    go_wp2
    go_ret
    exact LAns.same h (Below.refl _ _)
  have q0 : (s.toList == []) = false := by rw [hT, beq_eq_false_iff_ne]; exact h0
  by_cases h2 : s.data.toList.take 2 = [47, 47]
  · have e : lineS st num s.data.toList = (0, st) := by unfold lineS; rw [if_pos (.inr h2)]
    rw [e]
    have e2 : (s.data.toList.take 2 == [47, 47]) = true := by rw [h2]; rfl
    rw [e2] at hP
    clear hT e h0 h2 e2
    go_enter Tryd.func11, Tryd.ntmps11
    go_wp2_with (go_at_call 23; refine hP.mono ?_; rintro e w' ⟨rfl, hw'⟩; subst hw')
    go_ret
    exact LAns.same h (Below.refl _ _)
  have e2 : (s.data.toList.take 2 == [47, 47]) = false := by rw [beq_eq_false_iff_ne]; exact h2
  rw [e2] at hP
  have hSp := split_new s 32 w (by omega)
  have hcnt := count_split 32 s.data.toList
  have hcl := count_le 32 s.data.toList
  rw [size_list] at hcl
  have hwl := splitL_len 32 s.data.toList
  rw [size_list] at hwl
  obtain ⟨x, ps, hws⟩ : ∃ x ps, splitL 32 s.data.toList = x :: ps := by
    cases hh : splitL 32 s.data.toList with
    | nil => exact absurd hh (splitL_ne _ _)
    | cons x ps => exact ⟨x, ps, rfl⟩
  have HL : Hid (lineS st num s.data.toList = if x = [116, 121, 112, 101] then typeS st ps else if x = [114, 101, 108] then relS st num false ps else if x = [115, 101, 116] then relS st num true ps else (2, st)) := by
    show _ = _
    unfold lineS
    rw [if_neg (by rintro (e | e); exact h0 e; exact h2 e), hws]
  generalize lineS st num s.data.toList = res at *
  rw [hws] at hSp hwl hcnt
  have hpl : ps.length ≤ 10000 := by rw [List.length_cons] at hcnt; omega
  have hpz : ∀ y ∈ ps, y.length ≤ 1000000 := fun y hy => by have := hwl y (List.mem_cons_of_mem _ hy); omega
  clear hT h0 h2 e2 hws hwl hcnt hcl
  go_enter Tryd.func11, Tryd.ntmps11
  go_upto_region 3 with (go_at_call 23; refine hP.mono ?_; rintro e w' ⟨rfl, hw'⟩; subst hw')
  go_wp2_with fail
  refine hSp.mono ?_
  rintro e w1 ⟨cp, rfl, hcp, hcells, hb1, hs1⟩
  clear hSp hP
  have h1 := h.below hb1
  have c0 : w1.cell? ⟨w'.heap.size, 0, none⟩ = some (.string ⟨x.toArray⟩) := hcells 0 (by simp)
  have hbM : w'.heap.size ∉ allBlocks Rd S rbT zs := fun hm => by have := h.lt _ hm; omega
  obtain ⟨o', c', ho', hc', hsl⟩ := slice_one w'.heap.size 0 ps.length cp (by simpa using hcp)
  have hcell1 : ∀ i (hi : i < ps.length), w1.cell? ⟨w'.heap.size, o' + i, none⟩ = some (strV ps[i]) := fun i hi => by
    rcases ho' with rfl | e
    · have := hcells (i + 1) (by simp; omega)
      rw [show 0 + 1 + i = i + 1 by omega]
      simpa using this
    · omega
  rw [List.length_cons]
  have hX : (⟨x.toArray⟩ : ByteArray).toList = x := by rw [ByteArray.toList_eq]
  have HX : Hid ((⟨x.toArray⟩ : ByteArray).toList = x) := hX
  clear hX hcells hcp
  generalize (⟨x.toArray⟩ : ByteArray) = X at *
  by_cases hx1 : x = [116, 121, 112, 101]
  · have q1 : (X.toList == [116, 121, 112, 101]) = true := by rw [HX.out, hx1]; rfl
    have HR : Hid (res = typeS st ps) := by show _ = _; rw [HL.out, if_pos hx1]
    clear HL hx1 HX
    go_upto_region 6 with fail
    generalize hpv : Value.slice (some ⟨w'.heap.size, 0, none⟩) (ps.length + 1) cp = pv at hsl ⊢
    go_wp2_with fail
    refine (typeLine_any Rd S rbT zs st ps w'.heap.size o' c' w1 h1 hok hcell1 hbM).mono ?_
    rintro e w2 hA
    obtain ⟨rfl, hA2⟩ := hA
    have HA : Hid (LAns Rd S rbT zs w1 (typeS st ps) (.returned (.int .i64 ((typeS st ps).1 : Nat))) w2) := ⟨rfl, hA2⟩
    clear hA2
    generalize (typeS st ps) = rr at *
    subst hpv
    go_wp2
    go_ret
    rw [HR.out]
    exact HA.out.after hb1
  have q1 : (X.toList == [116, 121, 112, 101]) = false := by rw [HX.out, beq_eq_false_iff_ne]; exact hx1
  by_cases hx2 : x = [114, 101, 108]
  · have q2 : (X.toList == [114, 101, 108]) = true := by rw [HX.out, hx2]; rfl
    have HR : Hid (res = relS st num false ps) := by show _ = _; rw [HL.out, if_neg hx1, if_pos hx2]
    clear HL hx1 hx2 HX
    go_upto_region 8 with fail
    generalize hpv : Value.slice (some ⟨w'.heap.size, 0, none⟩) (ps.length + 1) cp = pv at hsl ⊢
    go_wp2_with fail
    refine (relLine_any Rd S rbT zs st ps w'.heap.size o' c' num false w1 h1 hok hc' hcell1 (by omega) hpz).mono ?_
    rintro e w2 hA
    obtain ⟨rfl, hA2⟩ := hA
    have HA : Hid (LAns Rd S rbT zs w1 (relS st num false ps) (.returned (.int .i64 ((relS st num false ps).1 : Nat))) w2) := ⟨rfl, hA2⟩
    clear hA2
    generalize (relS st num false ps) = rr at *
    subst hpv
    go_wp2
    go_ret
    rw [HR.out]
    exact HA.out.after hb1
  have q2 : (X.toList == [114, 101, 108]) = false := by rw [HX.out, beq_eq_false_iff_ne]; exact hx2
  by_cases hx3 : x = [115, 101, 116]
  · have q3 : (X.toList == [115, 101, 116]) = true := by rw [HX.out, hx3]; rfl
    have HR : Hid (res = relS st num true ps) := by show _ = _; rw [HL.out, if_neg hx1, if_neg hx2, if_pos hx3]
    clear HL hx1 hx2 hx3 HX
    go_upto_region 10 with fail
    generalize hpv : Value.slice (some ⟨w'.heap.size, 0, none⟩) (ps.length + 1) cp = pv at hsl ⊢
    go_wp2_with fail
    refine (relLine_any Rd S rbT zs st ps w'.heap.size o' c' num true w1 h1 hok hc' hcell1 (by omega) hpz).mono ?_
    rintro e w2 hA
    obtain ⟨rfl, hA2⟩ := hA
    have HA : Hid (LAns Rd S rbT zs w1 (relS st num true ps) (.returned (.int .i64 ((relS st num true ps).1 : Nat))) w2) := ⟨rfl, hA2⟩
    clear hA2
    generalize (relS st num true ps) = rr at *
    subst hpv
    go_wp2
    go_ret
    rw [HR.out]
    exact HA.out.after hb1
  have q3 : (X.toList == [115, 101, 116]) = false := by rw [HX.out, beq_eq_false_iff_ne]; exact hx3
  have HR : Hid (res = (2, st)) := by show _ = _; rw [HL.out, if_neg hx1, if_neg hx2, if_neg hx3]
  clear HL hx1 hx2 hx3 HX
  go_wp2
  go_ret
  rw [HR.out]
  exact LAns.same h hb1
end Go.Proofs.YtlgodpadcilcaaaDoor
namespace Go.Proofs.YtlgodpadcilcaaaDoor
/-- what is answered behind the lines: of the relations, the number of types and that of lines -/
def afterS (R : List Rl) (nt n : Nat) : Nat × Nat :=
  match R.find? (unkR (knowB R)) with
  | some r => (r.line, 3)
  | none => bif ringB R then (n, 4) else (nt, 0)
theorem afterS_some {R : List Rl} {r : Rl} (h : R.find? (unkR (knowB R)) = some r) (nt n : Nat) : afterS R nt n = (r.line, 3) := by unfold afterS; rw [h]
theorem afterS_ring {R : List Rl} (h : R.find? (unkR (knowB R)) = none) (hr : ringP R) (nt n : Nat) : afterS R nt n = (n, 4) := by unfold afterS; rw [h]; simp only [ringB_t hr, cond_true]
theorem afterS_fine {R : List Rl} (h : R.find? (unkR (knowB R)) = none) (hr : ¬ ringP R) (nt n : Nat) : afterS R nt n = (nt, 0) := by unfold afterS; rw [h]; simp only [ringB_f hr, cond_false]
theorem schemaS_long {t : List UInt8} (h : 2000 < t.length) : schemaS t = (0, 1) := by unfold schemaS; rw [if_pos h]
theorem schemaS_inl {t : List UInt8} (h : ¬ 2000 < t.length) {p : Nat × Nat} (hl : linesS [] 0 (splitL 10 t) = .inl p) : schemaS t = p := by
  unfold schemaS; rw [if_neg h, hl]
theorem schemaS_inr {t : List UInt8} (h : ¬ 2000 < t.length) {st : List Ty} (hl : linesS [] 0 (splitL 10 t) = .inr st) : schemaS t = afterS (relsOf st) st.length (splitL 10 t).length := by
  unfold schemaS afterS; rw [if_neg h, hl]; rfl
theorem linesS_stop {ls : List (List UInt8)} {st0 st : List Ty} {k i : Nat} (h : linesS st0 k ls = linesS st i (ls.drop i)) (hi : i < ls.length) (h0 : (lineS st i ls[i]).1 ≠ 0) : linesS st0 k ls = .inl (i, (lineS st i ls[i]).1) := by
  rw [h, List.drop_eq_getElem_cons hi, linesS]
  generalize lineS st i ls[i] = r at *
  obtain ⟨r1, r2⟩ := r
  simp only at h0 ⊢
theorem linesS_next {ls : List (List UInt8)} {st0 st : List Ty} {k i : Nat} (h : linesS st0 k ls = linesS st i (ls.drop i)) (hi : i < ls.length) (h0 : (lineS st i ls[i]).1 = 0) : linesS st0 k ls = linesS (lineS st i ls[i]).2 (i + 1) (ls.drop (i + 1)) := by
  rw [h, List.drop_eq_getElem_cons hi, linesS]
  generalize lineS st i ls[i] = r at *
  obtain ⟨r1, r2⟩ := r
  simp only at h0 ⊢
  subst h0
  rfl
end Go.Proofs.YtlgodpadcilcaaaDoor
namespace Go.Proofs.YtlgodpadcilcaaaDoor
open Go.ChangeShapes Go.WideShapes Go.ChangeAt Go.RowKit Go.Shelf

/-- an empty reader -/
theorem PRep.empty {w : World} {Rd S : Nat} {tR tS : Nat} (hne : Rd ≠ S) (hS : w.heap[S]? = some (.cells #[.slice none 0 0] tS)) (hR : w.heap[Rd]? = some (.cells #[.pointer (some ⟨S, 0, none⟩), .pointer none] tR)) : PRep w Rd S none [] [] := by
  have lS : S < w.heap.size := by rcases Nat.lt_or_ge S w.heap.size with h | h; exact h; rw [Array.getElem?_eq_none h] at hS; cases hS
  have lR : Rd < w.heap.size := by rcases Nat.lt_or_ge Rd w.heap.size with h | h; exact h; rw [Array.getElem?_eq_none h] at hR; cases hR
  exact ⟨⟨⟨.slice none 0 0, by simp [World.cell?, hS], ⟨rfl, .inl ⟨rfl, rfl⟩⟩, rfl⟩, by simp, by simp [World.frozen?, hS], by simp [Rising], by simp⟩, by simp, by simp, by simp [allBlocks, hne], by simp [allBlocks, lS, lR], by simp [World.cell?, hR], .inl ⟨rfl, by simp [World.cell?, hR]⟩, fun j => by simp [World.frozen?, hR]⟩

/-- what the loop over lines keeps -/
structure PsI (w0 : World) (ls : List (List UInt8)) (bL Rd S i : Nat) (st : List Ty) (rbT : Option Nat) (zs : List Zt) (wr : World) : Prop where
  lines : linesS [] 0 ls = linesS st i (ls.drop i)
  ok : StOk st
  ln : StLn 10000 st i
  rep : PRep wr Rd S rbT zs st
  cells : ∀ j (h : j < ls.length), wr.cell? ⟨bL, j, none⟩ = some (strV ls[j])
  out : bL ∉ allBlocks Rd S rbT zs
  lt : bL < wr.heap.size
  low : ∀ g ∈ allBlocks Rd S rbT zs, w0.heap.size ≤ g
  below : Below w0.heap.size w0 wr
theorem PsI.frame {w0 : World} {ls : List (List UInt8)} {bL Rd S i : Nat} {st : List Ty} {rbT : Option Nat} {zs : List Zt} {wr w' : World} (h : PsI w0 ls bL Rd S i st rbT zs wr) (hb : ButM (allBlocks Rd S rbT zs) wr w') : Below w0.heap.size w0 w' :=
  ⟨hb.os.trans h.below.os, hb.tape.trans h.below.tape, hb.output.trans h.below.output, Nat.le_trans h.below.size hb.size, fun k hk => (hb.block k (Nat.lt_of_lt_of_le hk h.below.size) (fun hm => by have := h.low k hm; omega)).trans (h.below.block k hk)⟩
theorem PsI.next {w0 : World} {ls : List (List UInt8)} {bL Rd S i : Nat} {st : List Ty} {rbT : Option Nat} {zs : List Zt} {wr w' : World} {e : Ending} (h : PsI w0 ls bL Rd S i st rbT zs wr) (hi : i < ls.length) (hl : ls[i].length ≤ 10000) (h0 : (lineS st i ls[i]).1 = 0) (hA : LAns Rd S rbT zs wr (lineS st i ls[i]) e w') :
    ∃ st' rbT' zs', PsI w0 ls bL Rd S (i + 1) st' rbT' zs' w' := by
  obtain ⟨_, hb, rbT', zs', hp, hg⟩ := hA
  refine ⟨(lineS st i ls[i]).2, rbT', zs', ?_, lineS_ok h.ok i _, lineS_ln h.ln _ hl, hp, fun j hj => ?_, fun hm => ?_, ?_, fun g hm => ?_, h.frame hb⟩
  · exact linesS_next h.lines hi h0
  · rw [World.cell?_of_block (w := wr) (a := ⟨bL, j, none⟩) (hb.block bL h.lt h.out)]
    exact h.cells j hj
  · rcases hg bL hm with h1 | h1
    · exact h.out h1
    · have := h.lt; omega
  · have := h.lt; have := hb.size; omega
  · rcases hg g hm with h1 | h1
    · exact h.low g h1
    · have := h.below.size; omega
/-- a schema that was read, in block S: of each relation its name, and whether it is a set -/
structure FRep (w : World) (S : Nat) (rbT : Option Nat) (zs : List Zt) (st : List Ty) : Prop where
  own : OwnT w S rbT (zs.map (·.tv))
  zl : ∀ z ∈ zs, ∃ es', OwnR w z.tv.blk z.rb es' ∧ es'.map kst = z.es.map kst
  perm : (zs.map (·.ty)).Perm st
  zk : ∀ z ∈ zs, z.tv.key = z.ty.nm ∧ (z.es.map kst).Perm (z.ty.rels.map (fun r => (r.nm, r.set)))
theorem FRep.below {w w' : World} {S : Nat} {rbT : Option Nat} {zs : List Zt} {st : List Ty} (h : FRep w S rbT zs st) (hb : Below w.heap.size w w') : FRep w' S rbT zs st :=
  ⟨h.own.keep (hb.block S h.own.lt.1) (fun k hk => hb.block k (h.own.lt.2 k hk)), fun z hz => by
    obtain ⟨es', h1, h2⟩ := h.zl z hz
    exact ⟨es', h1.keep (hb.block _ h1.lt.1) (fun k hk => hb.block k (h1.lt.2 k hk)), h2⟩, h.perm, h.zk⟩
theorem PRep.frep {w w' : World} {Rd S : Nat} {rbT : Option Nat} {zs : List Zt} {st : List Ty} (h : PRep w Rd S rbT zs st) (h1 : OwnT w' S rbT (zs.map (·.tv))) (h2 : ∀ z ∈ zs, ∃ es', OwnR w' z.tv.blk z.rb es' ∧ es'.map kst = z.es.map kst) : FRep w' S rbT zs st := by
  refine ⟨h1, h2, h.perm, fun z hz => ⟨(h.zok z hz).key, ?_⟩⟩
  have hk := h.zok z hz
  have e : z.es.map kst = z.rs.map (fun r => (r.nm, r.set)) := by
    refine List.ext_getElem (by simpa using hk.len) (fun j h1 h2 => ?_)
    rw [List.getElem_map, List.getElem_map]
    obtain ⟨r1, r2, _, _⟩ := hk.rep j (by simpa using h1) (by simpa using h2)
    show (_, _) = (_, _)
    rw [r1, r2]
  rw [e]
  exact hk.perm.map _
/-- what Parse gives where it finds no error -/
def PEnd (res : Nat × Nat) (ls : List (List UInt8)) (p : Option Addr) (w' : World) : Prop :=
  res.2 = 0 → ∃ S rbT zs st, p = some ⟨S, 0, none⟩ ∧ linesS [] 0 ls = .inr st ∧ StOk st ∧ FRep w' S rbT zs st
theorem PEnd.no {res : Nat × Nat} {ls : List (List UInt8)} {p : Option Addr} {w' : World} (h : res.2 ≠ 0) : PEnd res ls p w' := fun h0 => absurd h0 h

set_option maxRecDepth 100000 in
set_option maxHeartbeats 8000000 in
theorem Parse_any (s : ByteArray) (w : World) :
    Calls Tryd.prog 7 #[.string s] w fun e w' => ∃ p, e = .returned (.tuple #[.pointer p, .int .i64 ((schemaS s.data.toList).1 : Nat), .int .i64 ((schemaS s.data.toList).2 : Nat)]) ∧ PEnd (schemaS s.data.toList) (splitL 10 s.data.toList) p w' ∧ Below w.heap.size w w' := by
  by_cases h2 : 2000 < s.size
  · have e : schemaS s.data.toList = (0, 1) := schemaS_long (by rw [size_list]; exact h2)
    rw [e]
    have q : ((s.size : Int) > 2000) := by omega
    have HE : Hid (∀ p w', PEnd (0, 1) (splitL 10 s.data.toList) p w') := fun p w' => PEnd.no (by decide)
    go_enter Tryd.func7, Tryd.ntmps7
    go_wp2
    go_ret3
    exact ⟨_, rfl, HE.out _ _, Below.refl _ _⟩
  · have q : ¬ ((s.size : Int) > 2000) := by omega
    have hC := clone_any s w (by omega)
    have HSl : Hid (∀ p, linesS [] 0 (splitL 10 s.data.toList) = .inl p → schemaS s.data.toList = p) := fun p hp => schemaS_inl (by rw [size_list]; exact h2) hp
    have HSr : Hid (∀ st, linesS [] 0 (splitL 10 s.data.toList) = .inr st → schemaS s.data.toList = afterS (relsOf st) st.length (splitL 10 s.data.toList).length) := fun p hp => schemaS_inr (by rw [size_list]; exact h2) hp
    have hcount := splitL_count 10 s.data.toList
    rw [size_list] at hcount
    have hlen : ∀ x ∈ splitL 10 s.data.toList, x.length ≤ 10000 := fun x hx => by have := splitL_mlen 10 s.data.toList x hx; rw [size_list] at this; omega
    generalize schemaS s.data.toList = res at *
    go_enter Tryd.func7, Tryd.ntmps7
    go_upto_region 4 with (first | (go_at_call 10; refine hC.mono ?_; rintro e w1 ⟨rfl, hb1⟩) | (go_at_call 9; refine (split_new s 10 w1 (by omega)).mono ?_; rintro e w2 ⟨cp, rfl, hcp, hcells, hb2, hs2⟩))
    generalize hLs : splitL 10 s.data.toList = ls at *
    have HLs : Hid (splitL 10 s.data.toList = ls) := hLs
    clear hC hLs
    go_upto_region 5 with fail
    have hI0 : PsI w ls w1.heap.size (w2.heap.size + 1) w2.heap.size 0 [] none [] ((w2.alloc (Obj.cells #[Value.slice none 0 0] 42)).alloc (Obj.cells #[Value.pointer (some ⟨w2.heap.size, 0, none⟩), Value.pointer none] 45)) := by
      have hsz1 := hb1.size
      have hsz2 := hb2.size
      refine ⟨rfl, StOk.nil, StLn.nil _ _, PRep.empty (tS := 42) (tR := 45) (by omega) ?_ ?_, fun j hj => ?_, ?_, ?_, ?_, ?_⟩
      · rw [Below.heap_alloc _ _ _ (by simp)]; exact heap_alloc_new _ _
      · have := heap_alloc_new (w2.alloc (Obj.cells #[Value.slice none 0 0] 42)) (Obj.cells #[Value.pointer (some ⟨w2.heap.size, 0, none⟩), Value.pointer none] 45)
        simpa using this
      · rw [World.cell?_alloc_lt _ _ _ (by simp; omega), World.cell?_alloc_lt _ _ _ (by simp; omega)]; exact hcells j hj
      · simp [allBlocks]; omega
      · simp; omega
      · simp [allBlocks]; omega
      · exact ((hb1.trans (hb2.mono hsz1)).alloc (by omega) _).alloc (by simp; omega) _
    have HI0 : Hid _ := hI0
    have HL : Hid _ := hlen
    obtain ⟨n, hn⟩ : ∃ n, ls.length = n := ⟨_, rfl⟩
    have HN : Hid (ls.length = n) := hn
    rw [hn] at hcp hcount ⊢
    clear hI0 hlen hcells hn
    generalize (w2.alloc (Obj.cells #[Value.slice none 0 0] 42)).alloc (Obj.cells #[Value.pointer (some ⟨w2.heap.size, 0, none⟩), Value.pointer none] 45) = W at *
    generalize w2.heap.size = S at *
    generalize w1.heap.size = bL at *
    go_wp2
    go_loopw [22] (fun s22 wr => ∃ i : Nat, i ≤ n ∧ s22 = .int .i64 (i : Int) ∧ Hid (∃ st rbT zs, PsI w ls bL (S + 1) S i st rbT zs wr)) (fun s22 _ => n - (intOf s22).toNat)
    case atStart => exact ⟨0, Nat.zero_le _, rfl, _, _, _, HI0.out⟩
    case round =>
      obtain ⟨i, hi, rfl, HI⟩ := hrel
      obtain ⟨st, rbT, zs, hI⟩ := HI.out
      clear HI HI0
      have HI : Hid _ := hI
      by_cases hlt : i < n
      · have hip : i < ls.length := by have := HN.out; omega
        have hc := hI.cells i hip
        have hA := line_any (S + 1) S rbT zs st i ⟨ls[i].toArray⟩ wr hI.rep hI.ok (by have := HL.out ls[i] (List.getElem_mem _); simpa [ByteArray.size] using this)
        have HNx : Hid ((lineS st i ls[i]).1 = 0 → ∀ w3, LAns (S + 1) S rbT zs wr (lineS st i ls[i]) (.returned (.int .i64 ((lineS st i ls[i]).1 : Nat))) w3 → ∃ st' rbT' zs', PsI w ls bL (S + 1) S (i + 1) st' rbT' zs' w3) := fun h0 w3 h3 => hI.next hip (HL.out _ (List.getElem_mem _)) h0 h3
        have HFr : Hid (∀ w3, LAns (S + 1) S rbT zs wr (lineS st i ls[i]) (.returned (.int .i64 ((lineS st i ls[i]).1 : Nat))) w3 → Below w.heap.size w w3) := fun w3 h3 => hI.frame h3.2.1
        have HSt : Hid ((lineS st i ls[i]).1 ≠ 0 → res = (i, (lineS st i ls[i]).1)) := fun h0 => HSl.out _ (linesS_stop hI.lines hip h0)
        clear hI HI
        unfold strV at hc
        rw [show (ByteArray.mk ls[i].toArray).data.toList = ls[i] by simp] at hA
        generalize (ByteArray.mk ls[i].toArray) = B at *
        generalize lineS st i ls[i] = r at *
        obtain ⟨r1, r2⟩ := r
        simp only [] at hA HNx HSt HFr
        go_upto_region 9 with (go_at_call 11; refine hA.mono ?_; rintro e w3 ⟨rfl, hA3⟩)
        clear hA
        have HA3 : Hid (LAns (S + 1) S rbT zs wr (r1, r2) (.returned (.int .i64 (r1 : Nat))) w3) := ⟨rfl, hA3⟩
        clear hA3
        by_cases h0 : r1 = 0
        · subst h0
          go_wp2
          go_roundw
          case rel => exact ⟨i + 1, by omega, by go_num, HNx.out rfl w3 HA3.out⟩
          case measure => simp [intOf]; omega
        · have hq : (((r1 : Nat) : Int) == 0) = false := by rw [beq_eq_false_iff_ne]; omega
          have hq2 : ¬ ((r1 : Nat) : Int) = 0 := by omega
          have HE := HSt.out h0
          have HE' : Hid _ := HE
          clear HE
          go_wp2
          go_ret3
          rw [HE'.out]
          have hF := HFr.out w3 HA3.out
          exact ⟨_, rfl, PEnd.no h0, ⟨hF.os, hF.tape, hF.output, hF.size, hF.block⟩⟩
      · obtain rfl : i = n := by omega
        have hlines : linesS [] 0 ls = .inr st := by rw [hI.lines, ← HN.out, List.drop_length]; rfl
        have hres : res = afterS (relsOf st) st.length i := by rw [HSr.out st hlines, HN.out]
        have HRes : Hid _ := hres
        have HLines : Hid (linesS [] 0 ls = .inr st) := hlines
        have rd0 := hI.rep.rd0
        have hsz : ∀ r ∈ rlsOf zs, r.ex.sz ≤ 1000000 := fun r hr => by have := hI.ln.sz r ((rls_mem hI.rep r).1 hr); omega
        have hFU := firstUnknown_any (S + 1) S rbT zs st i wr hI.rep (fun z hz r hr => hsz r (List.mem_flatMap.2 ⟨z, hz, hr⟩))
        rw [fuZ_eq hI.rep hI.ok hI.ln] at hFU
        have HSz : Hid _ := hsz
        have HLn : Hid (∀ r ∈ relsOf st, r.line < i) := hI.ln.lt
        clear hres hlines HSl HSr HL hsz hI
        cases hf : (relsOf st).find? (unkR (knowB (relsOf st))) with
        | some r =>
          have hRes : res = (r.line, 3) := HRes.out.trans (afterS_some hf _ _)
          have hr := HLn.out r (List.mem_of_find?_eq_some hf)
          have HRes2 : Hid _ := hRes
          clear hRes
          rw [hf] at hFU
          simp only [] at hFU
          generalize r.line = rl at *
          have hq : ((rl : Nat) : Int) < (i : Nat) := by omega
          go_wp2_with (go_at_call 12; refine hFU.mono ?_; rintro e w4 ⟨rfl, hb4⟩)
          go_ret3
          rw [HRes2.out]
          have hF := HI.out.frame (ButM.of_below hb4)
          exact ⟨_, rfl, PEnd.no (by decide : (3 : Nat) ≠ 0), ⟨hF.os, hF.tape, hF.output, hF.size, hF.block⟩⟩
        | none =>
          rw [hf] at hFU
          simp only [] at hFU
          have HF : Hid _ := hf
          have hRk : ∀ w4, Below wr.heap.size wr w4 → Calls Tryd.prog 13 #[.pointer (some ⟨S, 0, none⟩)] w4 fun e w' => ∃ q : Bool, e = .returned (.bool q) ∧ (q = true ↔ ¬ ringP (relsOf st)) ∧ (q = true → OwnT w' S rbT (zs.map (·.tv)) ∧ w'.heap[S + 1]? = w4.heap[S + 1]? ∧ ∀ z ∈ zs, ∃ es', OwnR w' z.tv.blk z.rb es' ∧ es'.map kst = z.es.map kst) ∧ ButM (allBlocks (S + 1) S rbT zs) w4 w' := fun w4 hb => rank_any (S + 1) S rbT zs st w4 (HI.out.rep.below hb) HI.out.ok HSz.out
          have hRd := HI.out.rep.lt (S + 1) mem_Rd
          have HRk : Hid _ := hRk
          clear hf hRk
          go_upto_region 15 with (go_at_call 12; refine hFU.mono ?_; rintro e w4 ⟨rfl, hb4⟩)
          have hRk := HRk.out w4 hb4
          have rd4 : w4.cell? ⟨S + 1, 0, none⟩ = some (.pointer (some ⟨S, 0, none⟩)) := by
            rw [World.cell?_of_block (w := wr) (a := ⟨S + 1, 0, none⟩) (hb4.block _ hRd)]; exact rd0
          clear rd0 HRk hFU
          go_wp2_with (go_at_call 13; refine hRk.mono ?_; rintro e w5 ⟨q, rfl, hq, hq2, hbm5⟩; have HF5 : Hid (Below w.heap.size w w5) := HI.out.frame ((ButM.of_below hb4).trans hbm5))
          · cases q with
            | true => exact absurd ‹(!true) = true› (by decide)
            | false =>
              go_ret3
              have hR : ringP (relsOf st) := Classical.byContradiction fun h => by have := hq.2 h; cases this
              rw [HRes.out, afterS_ring HF.out hR]
              exact ⟨_, rfl, PEnd.no (by decide : (4 : Nat) ≠ 0), ⟨HF5.out.os, HF5.out.tape, HF5.out.output, HF5.out.size, HF5.out.block⟩⟩
          · cases q with
            | false => exact absurd ‹(!false) = false› (by decide)
            | true =>
              obtain ⟨hO, hb5, hZl⟩ := hq2 rfl
              have HFR : Hid (FRep w5 S rbT zs st) := HI.out.rep.frep hO hZl
              have HLn2 : Hid (linesS [] 0 ls = .inr st ∧ StOk st) := ⟨HLines.out, HI.out.ok⟩
              have rd5 : w5.cell? ⟨S + 1, 0, none⟩ = some (.pointer (some ⟨S, 0, none⟩)) := by
                rw [World.cell?_of_block (w := w4) (a := ⟨S + 1, 0, none⟩) hb5]; exact rd4
              have hL5 : ∀ n, Calls Tryd.prog 14 #[.pointer (some ⟨S, 0, none⟩)] (w5.drewN n) fun e w' => e = .returned (.int .i64 ((zs.map (·.tv)).length : Nat)) ∧ w' = w5.drewN n := fun n => LenT_any S (zs.map (·.tv)) (w5.drewN n) (hO.keep ((below_drewN w5 n (S+1)).block S (by omega)) (fun k _ => (below_drewN w5 n (k+1)).block k (by omega))).list
              have hLen : (zs.map (·.tv)).length = st.length := by rw [List.length_map]; exact HI.out.rep.length
              rw [hLen] at hL5
              have hR : ¬ ringP (relsOf st) := hq.1 rfl
              have HE : Hid (res = (st.length, 0)) := by show _ = _; rw [HRes.out, afterS_fine HF.out hR]
              clear hRk rd4 hq2 hq
              generalize st.length = nt at *
              go_quiet ((go_at_call 14; exact Calls.quiet_of_same (hL5 _)))
              go_wp2
              go_ret3
              rw [HE.out]
              exact ⟨_, rfl, fun _ => ⟨S, rbT, zs, st, rfl, by rw [HLs.out]; exact HLn2.out.1, HLn2.out.2, HFR.out.below (below_drewN _ _ _)⟩, ⟨HF5.out.os, HF5.out.tape, HF5.out.output, HF5.out.size, HF5.out.block⟩⟩
end Go.Proofs.YtlgodpadcilcaaaDoor
namespace Go.Proofs.YtlgodpadcilcaaaDoor
open Go.ChangeShapes Go.WideShapes Go.ChangeAt Go.RowKit

/-- the first place at which p holds, or -1 -/
def firstI {α : Type} (p : α → Bool) (l : List α) : Int := match l.findIdx? p with | some i => (i : Int) | none => -1
theorem firstI_at {α : Type} {p : α → Bool} {l : List α} {k : Nat} (hk : k < l.length) (h : p l[k] = true) (hl : ∀ j (hj : j < l.length), j < k → p l[j] = false) : firstI p l = (k : Int) := by
  unfold firstI
  have : l.findIdx? p = some k := List.findIdx?_eq_some_iff_getElem.2 ⟨hk, h, fun j hj => by rw [hl j (by omega) hj]; simp⟩
  rw [this]
theorem firstI_none {α : Type} {p : α → Bool} {l : List α} (hl : ∀ j (hj : j < l.length), p l[j] = false) : firstI p l = -1 := by
  unfold firstI
  have : l.findIdx? p = none := by
    rw [List.findIdx?_eq_none_iff]
    intro x hx
    obtain ⟨j, hj, rfl⟩ := List.getElem_of_mem hx
    exact hl j hj
  rw [this]

set_option maxHeartbeats 1000000 in
theorem rType_any (P : Nat) (v : Value) (xs : List (List UInt8)) (s : ByteArray) (w : World) (hc : w.cell? ⟨P, 0, none⟩ = some v) (h : w.ownsRow 0 9 1 v xs.length (xs.map strV)) (hl : xs.length ≤ 1000000) :
    Calls Tryd.prog 38 #[.pointer (some ⟨P, 0, none⟩), .string s] w fun e w' => e = .returned (.int .i64 (firstI (· == s.data.toList) xs)) ∧ w' = w := by
  have hcell : ∀ a cap, v = .slice (some a) xs.length cap → ∀ j (hj : j < xs.length), w.cell? (a.add j) = some (strV xs[j]) := fun a cap hv j hj => by
    rcases h.2 with ⟨e, _⟩ | ⟨g, cap', cur, e, _⟩
    · rw [hv] at e; cases e
    · rw [hv] at e
      cases e
      rw [Addr.add_mid, Nat.zero_add]
      have h' := h
      rw [hv] at h'
      rw [h'.cellAt j (by omega)]
      simp [List.getElem?_eq_getElem hj]
  obtain ⟨a0, c0, rfl⟩ : ∃ a c, v = .slice a xs.length c := by
    rcases h.2 with ⟨e, h0⟩ | ⟨g, cap', cur, e, _⟩
    · rw [h0]; exact ⟨_, _, e⟩
    · exact ⟨_, _, e⟩
  have hnil : a0 = none → xs.length = 0 := fun e => by
    rcases h.2 with ⟨_, h0⟩ | ⟨g, cap', cur, e2, _⟩
    · exact h0
    · rw [e] at e2; cases e2
  clear h
  have HF : Hid (∀ k (hk : k < xs.length), xs[k] = s.data.toList → (∀ j (hj : j < xs.length), j < k → xs[j] ≠ s.data.toList) → firstI (· == s.data.toList) xs = (k : Int)) := fun k hk h1 h2 => firstI_at hk (by simp [h1]) (fun j hj hjk => by simp [h2 j hj hjk])
  have HG : Hid ((∀ j (hj : j < xs.length), xs[j] ≠ s.data.toList) → firstI (· == s.data.toList) xs = -1) := fun h2 => firstI_none (fun j hj => by simp [h2 j hj])
  generalize firstI (· == s.data.toList) xs = r at *
  have HC : Hid _ := hcell
  clear hcell
  generalize hn : xs.length = n at hl hc hnil
  have HN : Hid (xs.length = n) := hn
  clear hn
  go_enter Tryd.func38, Tryd.ntmps38
  go_wp2
  go_loop [5] (fun i => ∃ k : Nat, k ≤ n ∧ i = .int .i64 k ∧ Hid (∀ j (hj : j < xs.length), j < k → xs[j] ≠ s.data.toList)) (fun i => n - (intOf i).toNat)
  case atStart => exact ⟨0, Nat.zero_le _, rfl, fun j hj h => by omega⟩
  case round =>
    obtain ⟨k, hk, rfl, H⟩ := hrel
    by_cases hlt : k < n
    · obtain ⟨a, rfl⟩ : ∃ a, a0 = some a := by
        cases a0 with
        | none => have := hnil rfl; omega
        | some a => exact ⟨a, rfl⟩
      have hkx : k < xs.length := by have := HN.out; omega
      have h1 : w.cell? (a.add k) = some (.string ⟨xs[k].toArray⟩) := by
        have := HC.out a c0 rfl k (by omega)
        exact this
      by_cases hq : xs[k] = s.data.toList
      · have hqb : ((⟨xs[k].toArray⟩ : ByteArray).toList == s.toList) = true := by rw [ByteArray.toList_eq, ByteArray.toList_eq, beq_iff_eq]; exact hq
        have e : r = (k : Int) := HF.out k hkx hq H.out
        subst e
        clear HF HG HC hq
        generalize (⟨xs[k].toArray⟩ : ByteArray) = y at *
        go_wp2
        go_ret
        exact ⟨rfl, rfl⟩
      · have hqb : ((⟨xs[k].toArray⟩ : ByteArray).toList == s.toList) = false := by rw [ByteArray.toList_eq, ByteArray.toList_eq, beq_eq_false_iff_ne]; exact hq
        have H2 : Hid (∀ j (hj : j < xs.length), j < k + 1 → xs[j] ≠ s.data.toList) := fun j hj hjk => by
          by_cases e : j = k
          · subst e; exact hq
          · exact H.out j hj (by omega)
        clear HF HG HC hq
        generalize (⟨xs[k].toArray⟩ : ByteArray) = y at *
        go_wp2
        go_round
        case rel => exact ⟨k + 1, by omega, by go_num, H2.out⟩
        case measure => simp [intOf]; omega
    · have e : r = -1 := HG.out (fun j hj => H.out j hj (by have := HN.out; omega))
      subst e
      clear HF HG HC
      go_wp2
      go_ret
      exact ⟨rfl, rfl⟩
end Go.Proofs.YtlgodpadcilcaaaDoor
namespace Go.Proofs.YtlgodpadcilcaaaDoor
open Go.ChangeShapes Go.WideShapes Go.ChangeAt Go.RowKit

/-- a relation of the reference's: its cells -/
structure RR where
  ty : Nat
  nm : List UInt8
  set : Bool
  top : Nat
  line : Nat
def RR.cells (x : RR) : List Value := [.int .i64 (x.ty : Int), strV x.nm, .bool x.set, .int .i64 (x.top : Int), .int .i64 (x.line : Int)]
theorem RR.len (x : RR) : x.cells.length = 5 := rfl
def RowRR (w : World) (v : Value) (rs : List RR) : Prop := w.ownsRow 0 59 5 v rs.length (rs.map RR.cells).flatten
theorem RowRR.cell {w : World} {g cap : Nat} {rs : List RR} (h : RowRR w (.slice (some ⟨g, 0, none⟩) rs.length cap) rs) (j : Nat) (hj : j < rs.length) (i : Nat) (hi : i < 5) : w.cell? ⟨g, j * 5 + i, none⟩ = rs[j].cells[i]? := by
  rw [Nat.mul_comm j, h.cellAt _ (by omega), flattenK 5 (rs.map RR.cells) (fun cs hcs => by obtain ⟨x, _, rfl⟩ := List.mem_map.1 hcs; exact x.len) j (by simpa using hj) i hi]
  simp

def relAt (kind : Int) (s : List UInt8) (x : RR) : Bool := ((x.ty : Int) == kind) && (x.nm == s)

set_option maxHeartbeats 2000000 in
theorem rRel_any (P : Nat) (v : Value) (rs : List RR) (kind : Int) (s : ByteArray) (w : World) (hc : w.cell? ⟨P, 1, none⟩ = some v) (h : RowRR w v rs) (hl : rs.length ≤ 1000000) :
    Calls Tryd.prog 40 #[.pointer (some ⟨P, 0, none⟩), .int .i64 kind, .string s] w fun e w' => e = .returned (.int .i64 (firstI (relAt kind s.data.toList) rs)) ∧ w' = w := by
  have hcell : ∀ g cap, v = .slice (some ⟨g, 0, none⟩) rs.length cap → ∀ j (hj : j < rs.length), w.cell? ⟨g, j * 5, none⟩ = some (.int .i64 (rs[j].ty : Int)) ∧ w.cell? ⟨g, j * 5 + 1, none⟩ = some (strV rs[j].nm) := fun g cap hv j hj => by
    rw [hv] at h
    exact ⟨by have := RowRR.cell h j hj 0 (by decide); rw [Nat.add_zero] at this; rw [this]; rfl, by rw [RowRR.cell h j hj 1 (by decide)]; rfl⟩
  obtain ⟨a0, c0, rfl, hform⟩ : ∃ a c, v = .slice a rs.length c ∧ ∀ q, a = some q → ∃ g, q = ⟨g, 0, none⟩ := by
    rcases h.2 with ⟨e, h0⟩ | ⟨g, cap', cur, e, _⟩
    · rw [h0]; exact ⟨_, _, e, fun q hq => by cases hq⟩
    · exact ⟨_, _, e, fun q hq => by cases hq; exact ⟨g, rfl⟩⟩
  have hnil : a0 = none → rs.length = 0 := fun e => by
    rcases h.2 with ⟨_, h0⟩ | ⟨g, cap', cur, e2, _⟩
    · exact h0
    · rw [e] at e2; cases e2
  clear h
  have HF : Hid (∀ k (hk : k < rs.length), relAt kind s.data.toList rs[k] = true → (∀ j (hj : j < rs.length), j < k → relAt kind s.data.toList rs[j] = false) → firstI (relAt kind s.data.toList) rs = (k : Int)) := fun k hk h1 h2 => firstI_at hk h1 h2
  have HG : Hid ((∀ j (hj : j < rs.length), relAt kind s.data.toList rs[j] = false) → firstI (relAt kind s.data.toList) rs = -1) := fun h2 => firstI_none h2
  generalize firstI (relAt kind s.data.toList) rs = r at *
  have HC : Hid _ := hcell
  clear hcell
  generalize hn : rs.length = n at hl hc hnil
  have HN : Hid (rs.length = n) := hn
  clear hn
  go_enter Tryd.func40, Tryd.ntmps40
  go_wp2
  go_loop [7] (fun i => ∃ k : Nat, k ≤ n ∧ i = .int .i64 k ∧ Hid (∀ j (hj : j < rs.length), j < k → relAt kind s.data.toList rs[j] = false)) (fun i => n - (intOf i).toNat)
  case atStart => exact ⟨0, Nat.zero_le _, rfl, fun j hj h => by omega⟩
  case round =>
    obtain ⟨k, hk, rfl, H⟩ := hrel
    by_cases hlt : k < n
    · obtain ⟨g, rfl⟩ : ∃ g, a0 = some ⟨g, 0, none⟩ := by
        cases a0 with
        | none => have := hnil rfl; omega
        | some a => obtain ⟨g, rfl⟩ := hform a rfl; exact ⟨g, rfl⟩
      have hkx : k < rs.length := by have := HN.out; omega
      obtain ⟨h1, h2⟩ := HC.out g c0 rfl k hkx
      unfold strV at h2
      have HRel : Hid (relAt kind s.data.toList rs[k] = (((rs[k].ty : Int) == kind) && ((⟨rs[k].nm.toArray⟩ : ByteArray).toList == s.toList))) := by show _ = _; unfold relAt; rw [ByteArray.toList_eq, ByteArray.toList_eq]
      have HK := fun hh => HF.out k hkx hh H.out
      have HK2 : Hid (relAt kind s.data.toList rs[k] = true → r = (k : Int)) := HK
      have HK3 : Hid (relAt kind s.data.toList rs[k] = false → ∀ j (hj : j < rs.length), j < k + 1 → relAt kind s.data.toList rs[j] = false) := fun hq j hj hjk => by
        by_cases e : j = k
        · subst e; exact hq
        · exact H.out j hj (by omega)
      clear HK HF HG HC hform hnil
      generalize relAt kind s.data.toList rs[k] = ra at *
      generalize (⟨rs[k].nm.toArray⟩ : ByteArray) = y at *
      generalize rs[k].ty = t at *
      cases hq1 : ((t : Int) == kind) with
      | true =>
        rw [hq1] at HRel
        cases hq2 : (y.toList == s.toList) with
        | true =>
          rw [hq2] at HRel
          have e : r = (k : Int) := HK2.out HRel.out
          subst e
          go_wp2
          go_ret
          exact ⟨rfl, rfl⟩
        | false =>
          rw [hq2] at HRel
          have e := HK3.out HRel.out
          have HE : Hid _ := e
          clear e
          go_wp2
          go_round
          case rel => exact ⟨k + 1, by omega, by go_num, HE.out⟩
          case measure => simp [intOf]; omega
      | false =>
        rw [hq1] at HRel
        have e := HK3.out HRel.out
        have HE : Hid _ := e
        clear e
        go_wp2
        go_round
        case rel => exact ⟨k + 1, by omega, by go_num, HE.out⟩
        case measure => simp [intOf]; omega
    · have e : r = -1 := HG.out (fun j hj => H.out j hj (by have := HN.out; omega))
      subst e
      clear HF HG HC
      go_wp2
      go_ret
      exact ⟨rfl, rfl⟩
end Go.Proofs.YtlgodpadcilcaaaDoor
namespace Go.Proofs.YtlgodpadcilcaaaDoor
open Go.ChangeShapes Go.WideShapes Go.ChangeAt Go.RowKit

theorem infoN : (Tryd.prog.info? 102).map (fun i => (i.zero, i.size, i.bytes)) = some (some (.agg #[.int .u8 0, .string ⟨#[]⟩, .string ⟨#[]⟩, .slice none 0 0]), 4, 64) := by kernel_rfl

/-- a node's four cells -/
def NodeV (sg : Int) (a b : ByteArray) (p : Option Addr) (l c : Nat) : List Value := [.int .u8 sg, .string a, .string b, .slice p l c]

set_option maxHeartbeats 4000000 in
set_option maxRecDepth 100000 in
theorem node_any (P : Nat) (v : Value) (n : Nat) (XS : List Value) (sg : Int) (a b : ByteArray) (p : Option Addr) (l c : Nat) (w : World) (hc : w.cell? ⟨P, 2, none⟩ = some v) (hf : w.frozen? ⟨P, 2, none⟩ = false) (h : w.ownsRow 0 102 4 v n XS) (hvP : v.ownBlock ≠ some P) (hl : n ≤ 1000000) :
    Calls Tryd.prog 63 #[.pointer (some ⟨P, 0, none⟩), .agg (NodeV sg a b p l c).toArray] w fun e w' => e = .returned (.int .i64 (n : Nat)) ∧
      ∃ g cap, w'.cell? ⟨P, 2, none⟩ = some (.slice (some ⟨g, 0, none⟩) (n + 1) cap) ∧ w'.ownsRow 0 102 4 (.slice (some ⟨g, 0, none⟩) (n + 1) cap) (n + 1) (XS ++ NodeV sg a b p l c) ∧ (v.ownBlock = some g ∨ w.heap.size ≤ g) ∧ g ≠ P ∧
        w'.os = w.os ∧ w'.tape = w.tape ∧ w'.output = w.output ∧ w.heap.size ≤ w'.heap.size ∧ (∀ k, k < w.heap.size → k ≠ P → v.ownBlock ≠ some k → w'.heap[k]? = w.heap[k]?) ∧ (∀ i, i ≠ 2 → w'.cell? ⟨P, i, none⟩ = w.cell? ⟨P, i, none⟩) ∧ ∀ i, w'.frozen? ⟨P, i, none⟩ = w.frozen? ⟨P, i, none⟩ := by
  obtain ⟨i0, hi, hz0, hz1, hz2⟩ := info_parts infoN
  have hPw : P < w.heap.size := World.block_lt_of_cell? w ⟨P, 2, none⟩ hc
  obtain ⟨a0, c0, rfl⟩ : ∃ a c, v = .slice a n c := by
    rcases h.2 with ⟨e, h0⟩ | ⟨g, cap', cur, e, _⟩
    · rw [h0]; exact ⟨_, _, e⟩
    · exact ⟨_, _, e⟩
  have eV : (NodeV sg a b p l c).toArray = #[.int .u8 sg, .string a, .string b, .slice p l c] := rfl
  rw [eV]
  clear eV
  have hal : Below w.heap.size w (w.alloc (.cells #[.int .u8 sg, .string a, .string b, .slice p l c] 102)) := (Below.refl _ _).alloc (Nat.le_refl _) _
  have hV := range_new w #[.int .u8 sg, .string a, .string b, .slice p l c] 102
  have hc0 : (w.alloc (.cells #[.int .u8 sg, .string a, .string b, .slice p l c] 102)).cell? ⟨P, 2, none⟩ = some (.slice a0 n c0) := by rw [hal.cell (p := ⟨P, 2, none⟩) hPw]; exact hc
  have hf0 : (w.alloc (.cells #[.int .u8 sg, .string a, .string b, .slice p l c] 102)).frozen? ⟨P, 2, none⟩ = false := by rw [hal.frozen (p := ⟨P, 2, none⟩) hPw]; exact hf
  have hown0 : (w.alloc (.cells #[.int .u8 sg, .string a, .string b, .slice p l c] 102)).ownsRow 0 102 4 (.slice a0 n c0) n XS := h.alloc _
  have hs0 : (w.alloc (.cells #[.int .u8 sg, .string a, .string b, .slice p l c] 102)).heap.size = w.heap.size + 1 := by simp
  go_enter Tryd.func63, Tryd.ntmps63
  go_upto_region 1 with fail
  generalize w.alloc (.cells #[.int .u8 sg, .string a, .string b, .slice p l c] 102) = w0 at *
  have v0 : w0.cell? ⟨w.heap.size, 0, none⟩ = some (.int .u8 sg) := hV 0 _ rfl
  have v1 : w0.cell? ⟨w.heap.size, 1, none⟩ = some (.string a) := hV 1 _ rfl
  have v2 : w0.cell? ⟨w.heap.size, 2, none⟩ = some (.string b) := hV 2 _ rfl
  have v3 : w0.cell? ⟨w.heap.size, 3, none⟩ = some (.slice p l c) := hV 3 _ rfl
  clear hV
  have hown1 : ((w0.alloc (.cells #[.int .u8 sg, .string a, .string b, .slice p l c] 102)).drew).ownsRow 0 102 4 (.slice a0 n c0) n XS := hown0.alloc _
  have hnews : ∀ j u, (NodeV sg a b p l c)[j]? = some u → ((w0.alloc (.cells #[.int .u8 sg, .string a, .string b, .slice p l c] 102)).drew).cell? ((⟨w0.heap.size, 0, none⟩ : Addr).add j) = some u :=
    World.news_of_block (w := (w0.alloc (.cells #[.int .u8 sg, .string a, .string b, .slice p l c] 102)).drew) (cs := #[.int .u8 sg, .string a, .string b, .slice p l c]) (t := 102) (fr := (0, 0)) (heap_alloc_new w0 _)
  have hone : ∀ u ∈ NodeV sg a b p l c, u.oneCell' = true := fun u hu => by simp [NodeV] at hu; rcases hu with rfl | rfl | rfl | rfl <;> rfl
  have HG : Hid (∀ w1 : World, ((w0.alloc (.cells #[.int .u8 sg, .string a, .string b, .slice p l c] 102)).drew).grownBy w1 (Value.slice a0 n c0).ownBlock → w1.heap[P]? = w0.heap[P]?) := fun w1 hg => by
    refine (hg.block P ?_ (fun e => hvP e.symm)).trans (Below.heap_alloc _ _ _ (by omega))
    show P < (w0.alloc _).heap.size
    simp; omega
  have HS0 : Hid (w0.heap.size = w.heap.size + 1) := hs0
  have hP0 : P < w0.heap.size := by omega
  have hV0 : w.heap.size < w0.heap.size := by omega
  clear hs0
  go_region_law (refine step_append_lies _ rfl (.tmp 9) (.tmp 11) 51 rfl 0 102 i0 _ 4 64 Tryd.underlying51 hi hz0 hz1 hz2 rfl (by decide) (.slice a0 n c0) n XS (by simp [Act.eval]) hown1 ⟨w0.heap.size, 0, none⟩ 1 1 (NodeV sg a b p l c) (by simp [Act.eval]) rfl hnews hone (by decide) (by unfold maxLen; omega) (by omega) (Nat.zero_le _) (w0.heap.size + 1) (by simp) ?_; intro g cap w1 hown2 hgrow2 hat2 hlt2; have hP1 : w1.cell? ⟨P, 2, none⟩ = some (.slice a0 n c0) := (World.cell?_of_block (w := w0) (a := ⟨P, 2, none⟩) (HG.out w1 hgrow2)).trans hc0; have hPf : w1.frozen? ⟨P, 2, none⟩ = false := (World.frozen?_of_block (w := w0) (a := ⟨P, 2, none⟩) (HG.out w1 hgrow2)).trans hf0)
  all_goals have hgP : g ≠ P := by
              have hs := HS0.out
              rcases hat2 with e | e
              · intro e2; rw [e2] at e; exact hvP e
              · omega
  all_goals have hs2 : (w0.alloc (.cells #[.int .u8 sg, .string a, .string b, .slice p l c] 102)).drew.heap.size = w0.heap.size + 1 := by show (w0.alloc _).heap.size = _; simp
  all_goals have hg2s := hgrow2.size
  all_goals have hset : (w1.setCell ⟨P, 2, none⟩ (.slice (some ⟨g, 0, none⟩) (n + 1) cap)).cell? ⟨P, 2, none⟩ = some (.slice (some ⟨g, 0, none⟩) (n + 1) cap) := World.cell?_setCell_same' _ _ _ (by rw [hP1]; rfl)
  all_goals have HSet : Hid _ := hset
  all_goals go_wp2
  all_goals go_ret
  all_goals
    have hs := HS0.out
    have hgb : ∀ k, k < w.heap.size → (Value.slice a0 n c0).ownBlock ≠ some k → w1.heap[k]? = w.heap[k]? := fun k hk hkr => by
      refine (hgrow2.block k (by omega) (fun e => hkr e.symm)).trans ((Below.heap_alloc w0 _ k (by omega)).trans (hal.block k hk))
    refine ⟨by first | rfl | (congr 2; omega) | simp, g, cap, HSet.out, World.ownsRow.kept hown2 (setCell_grown w1 P 2 _) (.inr (fun e => hgP (by cases e; rfl))), orTo hat2 (fun e => by omega), hgP, ?_, ?_, ?_, by simp; omega, fun k hk hkP hkr => ?_, fun i hi2 => ?_, fun i => ?_⟩
    · show w1.os = w.os; rw [hgrow2.os]; exact hal.os
    · show w1.tape = w.tape; rw [hgrow2.tape]; exact hal.tape
    · show w1.output = w.output; rw [hgrow2.output]; exact hal.output
    · rw [Below.heap_setCell _ _ _ _ hkP]; exact hgb k hk hkr
    · rw [cell_set_ne hi2]; exact World.cell?_of_block (w := w) (a := ⟨P, i, none⟩) (hgb P hPw hvP)
    · rw [World.frozen?_setCell]; exact World.frozen?_of_block (w := w) (a := ⟨P, i, none⟩) (hgb P hPw hvP)
end Go.Proofs.YtlgodpadcilcaaaDoor
namespace Go.Proofs.YtlgodpadcilcaaaDoor
open Go.ChangeShapes Go.WideShapes Go.ChangeAt Go.RowKit

/-- a node of the reference's, as it lies -/
structure NV where
  sg : Int
  a : List UInt8
  b : List UInt8
  p : Option Addr
  l : Nat
  c : Nat
def NV.cells (x : NV) : List Value := NodeV x.sg ⟨x.a.toArray⟩ ⟨x.b.toArray⟩ x.p x.l x.c
theorem NV.len (x : NV) : x.cells.length = 4 := rfl
def RowN (w : World) (v : Value) (N : List NV) : Prop := w.ownsRow 0 102 4 v N.length (N.map NV.cells).flatten
theorem RowN.cell {w : World} {g cap : Nat} {N : List NV} (h : RowN w (.slice (some ⟨g, 0, none⟩) N.length cap) N) (j : Nat) (hj : j < N.length) (i : Nat) (hi : i < 4) : w.cell? ⟨g, j * 4 + i, none⟩ = N[j].cells[i]? := by
  rw [Nat.mul_comm j, h.cellAt _ (by omega), flattenK 4 (N.map NV.cells) (fun cs hcs => by obtain ⟨x, _, rfl⟩ := List.mem_map.1 hcs; exact x.len) j (by simpa using hj) i hi]
  simp

/-- the plan's nodes: in block nb -/
structure NRep (w : World) (P : Nat) (nb : Option Nat) (N : List NV) : Prop where
  row : ∃ v, w.cell? ⟨P, 2, none⟩ = some v ∧ RowN w v N ∧ v.ownBlock = nb
  ne : nb ≠ some P
  frz : w.frozen? ⟨P, 2, none⟩ = false
theorem NRep.lt {w : World} {P : Nat} {nb : Option Nat} {N : List NV} (h : NRep w P nb N) : P < w.heap.size ∧ ∀ k, nb = some k → k < w.heap.size := by
  obtain ⟨v, h1, h2, h3⟩ := h.row
  exact ⟨World.block_lt_of_cell? w ⟨P, 2, none⟩ h1, fun k hk => (h2.lt k (by rw [h3]; exact hk)).2⟩
theorem NRep.below {w w' : World} {P : Nat} {nb : Option Nat} {N : List NV} (h : NRep w P nb N) (hb : Below w.heap.size w w') : NRep w' P nb N := by
  have hlt := h.lt
  obtain ⟨v, h1, h2, h3⟩ := h.row
  refine ⟨⟨v, by rw [hb.cell (p := ⟨P, 2, none⟩) hlt.1]; exact h1, h2.kept (row := none) ⟨hb.os, hb.tape, hb.output, hb.size, fun k hk _ => hb.block k hk⟩ ?_, h3⟩, h.ne, by rw [hb.frozen (p := ⟨P, 2, none⟩) hlt.1]; exact h.frz⟩
  cases hv : v.ownBlock with
  | none => exact .inl rfl
  | some g => exact .inr (by simp)

/-- the nodes have grown by N'; all other blocks are as they were -/
structure NGrow (P : Nat) (nb : Option Nat) (N : List NV) (w w' : World) (nb' : Option Nat) (N' : List NV) : Prop where
  but : ButM (P :: nb.toList) w w'
  rep : NRep w' P nb' (N ++ N')
  nbs : nb' = nb ∨ ∃ g, nb' = some g ∧ w.heap.size ≤ g
  cells : ∀ i, i ≠ 2 → w'.cell? ⟨P, i, none⟩ = w.cell? ⟨P, i, none⟩
  frz : ∀ i, w'.frozen? ⟨P, i, none⟩ = w.frozen? ⟨P, i, none⟩
theorem NGrow.refl {P : Nat} {nb : Option Nat} {N : List NV} {w w' : World} (h : NRep w P nb N) (hb : Below w.heap.size w w') : NGrow P nb N w w' nb [] :=
  ⟨ButM.of_below hb, by rw [List.append_nil]; exact h.below hb, .inl rfl, fun i _ => hb.cell (p := ⟨P, i, none⟩) h.lt.1, fun i => hb.frozen (p := ⟨P, i, none⟩) h.lt.1⟩
theorem NGrow.sub {P : Nat} {nb : Option Nat} {N : List NV} {w w' : World} {nb' : Option Nat} {N' : List NV} (h : NGrow P nb N w w' nb' N') : ∀ g ∈ P :: nb'.toList, g ∈ P :: nb.toList ∨ w.heap.size ≤ g := fun g hg => by
  rcases List.mem_cons.1 hg with rfl | hg
  · exact .inl (List.mem_cons_self ..)
  · rcases h.nbs with e | ⟨g', e, hle⟩
    · exact .inl (List.mem_cons_of_mem _ (by rw [← e]; exact hg))
    · rw [e] at hg; simp at hg; subst hg; exact .inr hle
theorem NGrow.trans {P : Nat} {nb nb' nb'' : Option Nat} {N N' N'' : List NV} {w w' w'' : World} (h : NGrow P nb N w w' nb' N') (k : NGrow P nb' (N ++ N') w' w'' nb'' N'') : NGrow P nb N w w'' nb'' (N' ++ N'') := by
  have hs := h.but.size
  refine ⟨⟨k.but.os.trans h.but.os, k.but.tape.trans h.but.tape, k.but.output.trans h.but.output, Nat.le_trans hs k.but.size, fun i hi hm => ?_⟩, by rw [← List.append_assoc]; exact k.rep, ?_, fun i hi => (k.cells i hi).trans (h.cells i hi), fun i => (k.frz i).trans (h.frz i)⟩
  · refine (k.but.block i (by omega) (fun hm' => ?_)).trans (h.but.block i hi hm)
    rcases h.sub i hm' with e | e
    · exact hm e
    · omega
  · rcases k.nbs with e | ⟨g, e, hle⟩
    · rw [e]; exact h.nbs
    · exact .inr ⟨g, e, by omega⟩

/-- how an expression lies in nodes -/
def sgn (k : Nat) : Int := if k = 3 then 124 else if k = 4 then 38 else 45
def Tree (S : Nat → Prop) (w : World) (N : List NV) : Exp → Nat → Prop
  | ⟨.inl none⟩, i => N[i]? = some ⟨115, [], [], none, 0, 0⟩
  | ⟨.inl (some (x, none))⟩, i => N[i]? = some ⟨110, x, [], none, 0, 0⟩
  | ⟨.inl (some (x, some y))⟩, i => N[i]? = some ⟨46, x, y, none, 0, 0⟩
  | ⟨.inr (k, es)⟩, i => ∃ g c ps, N[i]? = some ⟨sgn k, [], [], some ⟨g, 0, none⟩, es.length, c⟩ ∧ S g ∧ (k = 3 ∨ k = 4 ∨ (k = 5 ∧ es.length = 2)) ∧ ps.length = es.length ∧ w.rangeAt g 0 (ps.map fun (j : Nat) => .int .i64 (j : Int)) ∧ all ps es
where all : List Nat → List Exp → Prop
  | [], [] => True
  | [], _ :: _ => False
  | p :: ps, es => match es with
    | [] => False
    | e :: r => Tree S w N e p ∧ all ps r
theorem Tree.keep {S T : Nat → Prop} {w w' : World} {N M : List NV} (hT : ∀ k, S k → T k) (hb : ∀ k, S k → w'.heap[k]? = w.heap[k]?) (hM : ∀ (i : Nat) (x : NV), N[i]? = some x → M[i]? = some x) : ∀ (e : Exp) (i : Nat), Tree S w N e i → Tree T w' M e i
  | ⟨.inl none⟩, i, h => by simp only [Tree] at h ⊢; exact hM _ _ h
  | ⟨.inl (some (x, none))⟩, i, h => by simp only [Tree] at h ⊢; exact hM _ _ h
  | ⟨.inl (some (x, some y))⟩, i, h => by simp only [Tree] at h ⊢; exact hM _ _ h
  | ⟨.inr (k, es)⟩, i, h => by
    simp only [Tree] at h ⊢
    obtain ⟨g, c, ps, h1, h2, h3, h4, h5, h6⟩ := h
    exact ⟨g, c, ps, hM _ _ h1, hT g h2, h3, h4, fun j v hv => by rw [World.cell?_of_block (w := w) (hb g h2)]; exact h5 j v hv, keepAll es ps h6⟩
where keepAll : ∀ (es : List Exp) (ps : List Nat), Tree.all S w N ps es → Tree.all T w' M ps es
  | [], [], h => by simp only [Tree.all]
  | [], _ :: _, h => by simp only [Tree.all] at h
  | _ :: _, [], h => by simp only [Tree.all] at h
  | e :: r, p :: ps, h => by
    simp only [Tree.all] at h ⊢
    exact ⟨Tree.keep hT hb hM e p h.1, keepAll r ps h.2⟩
theorem get_append {N M : List NV} : ∀ (i : Nat) (x : NV), N[i]? = some x → (N ++ M)[i]? = some x := fun i x h => by
  rw [List.getElem?_append_left (List.getElem?_eq_some_iff.1 h).1]; exact h
theorem Tree.grow {B P : Nat} {nb nb' : Option Nat} {N N' : List NV} {w w' : World} {e : Exp} {i : Nat} (h : Tree (fun g => B ≤ g ∧ g < w.heap.size ∧ g ∉ P :: nb.toList) w N e i) (k : NGrow P nb N w w' nb' N') : Tree (fun g => B ≤ g ∧ g < w'.heap.size ∧ g ∉ P :: nb'.toList) w' (N ++ N') e i := by
  have hs := k.but.size
  refine Tree.keep (fun g hg => ⟨hg.1, by omega, fun hm => ?_⟩) (fun g hg => k.but.block g hg.2.1 hg.2.2) get_append e i h
  rcases k.sub g hm with e | e
  · exact hg.2.2 e
  · omega
/-- the terms by their places -/
theorem Tree.all_iff {S : Nat → Prop} {w : World} {N : List NV} : ∀ (ps : List Nat) (es : List Exp), ps.length = es.length → (Tree.all S w N ps es ↔ ∀ j (h : j < es.length) (h' : j < ps.length), Tree S w N es[j] ps[j])
  | [], [], _ => by simp [Tree.all]
  | [], _ :: _, h => by simp at h
  | _ :: _, [], h => by simp at h
  | p :: ps, e :: r, h => by
    simp only [Tree.all]
    rw [Tree.all_iff ps r (by simpa using h)]
    constructor
    · rintro ⟨h1, h2⟩ j hj hj'
      cases j with
      | zero => exact h1
      | succ j => exact h2 j (by simpa using hj) (by simpa using hj')
    · intro h
      exact ⟨h 0 (by simp) (by simp), fun j hj hj' => h (j + 1) (by simp; omega) (by simp; omega)⟩

theorem node_grow (P : Nat) (nb : Option Nat) (N : List NV) (x : NV) (w : World) (h : NRep w P nb N) (hl : N.length ≤ 1000000) :
    Calls Tryd.prog 63 #[.pointer (some ⟨P, 0, none⟩), .agg x.cells.toArray] w fun e w' => e = .returned (.int .i64 (N.length : Nat)) ∧ ∃ nb', NGrow P nb N w w' nb' [x] := by
  obtain ⟨v, h1, h2, h3⟩ := h.row
  refine (node_any P v N.length (N.map NV.cells).flatten x.sg ⟨x.a.toArray⟩ ⟨x.b.toArray⟩ x.p x.l x.c w h1 h.frz h2 (by rw [h3]; exact h.ne) hl).mono ?_
  rintro e w' ⟨he, g, cap, a1, a2, a3, a4, a5, a6, a7, a8, a9, a10, a11⟩
  refine ⟨he, some g, ⟨⟨a5, a6, a7, a8, fun k hk hm => ?_⟩, ⟨⟨_, a1, ?_, rfl⟩, fun e => a4 (by cases e; rfl), by rw [a11]; exact h.frz⟩, ?_, a10, a11⟩⟩
  · refine a9 k hk (fun e => hm (by rw [e]; exact List.mem_cons_self ..)) (fun e => hm (List.mem_cons_of_mem _ (by rw [← h3, e]; simp)))
  · unfold RowN
    rw [List.length_append, List.length_singleton, List.map_append, List.flatten_append]
    have e2 : (List.map NV.cells [x]).flatten = NodeV x.sg ⟨x.a.toArray⟩ ⟨x.b.toArray⟩ x.p x.l x.c := by simp [NV.cells]
    rw [e2]
    exact a2
  · rcases a3 with e | e
    · exact .inl (by rw [← e, h3])
    · exact .inr ⟨g, rfl, e⟩

/-- the words, in a block that is none of M -/
def WordsR (w : World) (M : List Nat) (v : Value) (xs : List (List UInt8)) : Prop :=
  ∃ b o c, v = .slice (some ⟨b, o, none⟩) xs.length c ∧ xs.length ≤ c ∧ b < w.heap.size ∧ b ∉ M ∧ ∀ i (h : i < xs.length), w.cell? ⟨b, o + i, none⟩ = some (strV xs[i])
theorem WordsR.grow {P : Nat} {nb nb' : Option Nat} {N N' : List NV} {w w' : World} {v : Value} {xs : List (List UInt8)} (h : WordsR w (P :: nb.toList) v xs) (k : NGrow P nb N w w' nb' N') : WordsR w' (P :: nb'.toList) v xs := by
  obtain ⟨b, o, c, h1, h2, h3, h4, h5⟩ := h
  have hs := k.but.size
  refine ⟨b, o, c, h1, h2, by omega, fun hm => ?_, fun i hi => by rw [World.cell?_of_block (w := w) (a := ⟨b, o + i, none⟩) (k.but.block b h3 h4)]; exact h5 i hi⟩
  rcases k.sub b hm with e | e
  · exact h4 e
  · omega

theorem NGrow.thenBut {P : Nat} {nb nb' : Option Nat} {N N' : List NV} {w w' w'' : World} (h : NGrow P nb N w w' nb' N') (k : ButM (P :: nb'.toList) w' w'') : ButM (P :: nb.toList) w w'' :=
  ⟨k.os.trans h.but.os, k.tape.trans h.but.tape, k.output.trans h.but.output, Nat.le_trans h.but.size k.size, fun g hg hn => (k.block g (Nat.lt_of_lt_of_le hg h.but.size) (fun hm => by
    rcases h.sub g hm with e | e
    · exact hn e
    · omega)).trans (h.but.block g hg hn)⟩
/-- what term and expression of the reference answer -/
def RAns (P : Nat) (nb : Option Nat) (N : List NV) (w : World) (xs : List (List UInt8)) (i : Nat) (r : Option (Exp × List (List UInt8))) (e : Ending) (w' : World) : Prop :=
  match r with
  | none => (∃ k : Int, e = .returned (.tuple #[.int .i64 (-1), .int .i64 k])) ∧ ButM (P :: nb.toList) w w'
  | some (x, rest) => ∃ top k nb' N', e = .returned (.tuple #[.int .i64 ((top : Nat) : Int), .int .i64 ((k : Nat) : Int)]) ∧ k ≤ xs.length ∧ i < k ∧ rest = xs.drop k ∧ NGrow P nb N w w' nb' N' ∧ i + N'.length ≤ k ∧ Tree (fun g => w.heap.size ≤ g ∧ g < w'.heap.size ∧ g ∉ P :: nb'.toList) w' (N ++ N') x top
def RTermOK (f : Nat) : Prop := ∀ (P : Nat) (nb : Option Nat) (N : List NV) (v : Value) (xs : List (List UInt8)) (i : Nat) (w : World), NRep w P nb N → WordsR w (P :: nb.toList) v xs → i ≤ xs.length → xs.length - i ≤ f → xs.length ≤ 1000000 → N.length + xs.length - i ≤ 1000000 → (∀ x ∈ xs, x.length ≤ 1000000) →
  Calls Tryd.prog 62 #[.pointer (some ⟨P, 0, none⟩), v, .int .i64 (i : Int)] w (RAns P nb N w xs i (termL (xs.drop i)))
def RExprOK (f : Nat) : Prop := ∀ (P : Nat) (nb : Option Nat) (N : List NV) (v : Value) (xs : List (List UInt8)) (i : Nat) (w : World), NRep w P nb N → WordsR w (P :: nb.toList) v xs → i ≤ xs.length → xs.length - i ≤ f → xs.length ≤ 1000000 → N.length + xs.length - i ≤ 1000000 → (∀ x ∈ xs, x.length ≤ 1000000) →
  Calls Tryd.prog 39 #[.pointer (some ⟨P, 0, none⟩), v, .int .i64 (i : Int)] w (RAns P nb N w xs i (exprL (xs.drop i)))
end Go.Proofs.YtlgodpadcilcaaaDoor
