import Derived.Test.YtlgodpadcilcaaaGreatDoorP01
import Derived.Test.YtlgodpadcilcaaaGreatDoorP06
import Derived.Test.YtlgodpadcilcaaaGreatDoorP04
import Derived.Test.YtlgodpadcilcaaaGreatDoorP02
import Derived.Deep.RegionLaw
import Derived.Test.YtlgodpadcilcaaaGreatDoorP05
import Derived.Deep.RegionHeld
namespace Go.Proofs.YtlgodpadcilcaaaGreatDoor
open Go.ChangeShapes Go.WideShapes Go.ChangeAt Go.RowKit

theorem range_puts {W : World} {B : Nat} (xs : List Value) {cs : List Value} (hl : xs.length ≤ cs.length) (h : W.rangeAt B 0 cs) : (W.setCells B 0 xs).rangeAt B 0 xs := fun j v hv => by
  obtain ⟨hj, rfl⟩ := List.getElem?_eq_some_iff.1 hv
  exact World.cell?_setCells_in B xs 0 W (fun i hi => by rw [h i (cs[i]'(by omega)) (List.getElem?_eq_getElem _)]; rfl) j hj
theorem post_cells {fn : Func} {T r s : Nat} {d : TypeDesc} (hres : fn.results = #[.cell r T, .tmp s]) {R : Ending → World → Prop} {a : Act} {w : World} (B : Nat) (cs : List Value) (ok : Value) (hd : a.defers = [])
    (h2 : a.tmps.getD r undef = .pointer (some ⟨B, 0, none⟩)) (h3 : a.tmps.getD s undef = ok) (hu : Tryz.prog.underlying T = some d) (hr : d.isRow = true) (hz : (Tryz.prog.info? T).map (·.size) = some cs.length) (hc : w.rangeAt B 0 cs) (hR : R (.returned (.tuple #[.agg cs.toArray, ok])) w) : bodyPost Tryz.prog fn R .ret a w := by
  refine bodyPost_ret (v := .tuple #[.agg cs.toArray, ok]) ?_ hd hR
  rw [results_cell_tmp hres, h2, h3]
  simp only [asAddr, Sem.run_pure, Result.andThen]
  rw [run_loadVar_mid w B 0 T cs _ hc hu hr hz]

set_option maxHeartbeats 400000 in
theorem liteCut_big (s : ByteArray) (c : UInt8) (w : World) (hs : s.size ≤ 9223372036854775807) :
    Calls Tryz.prog 72 #[.string s, .string ⟨#[c]⟩] w fun e w' => ∃ n, w' = w.drewN n ∧
      (((∀ x ∈ s.data.toList, x ≠ c) ∧ e = .returned (.tuple #[.string s, .string ⟨#[]⟩, .bool false])) ∨
       ∃ p r, s.data.toList = p ++ c :: r ∧ (∀ x ∈ p, x ≠ c) ∧ e = .returned (.tuple #[strV p, strV r, .bool true])) := by
  have hI := liteIndex_one s c w
  rcases idx_cases s.data.toList c with ⟨h1, h2⟩ | ⟨p, r, h1, h2, h3⟩
  · rw [h1] at hI
    have H2 : Hid (∀ x ∈ s.data.toList, x ≠ c) := h2
    clear h1 h2
    go_enter Tryz.func72, Tryz.ntmps72
    go_wp2_with (go_at_call 84; refine hI.mono ?_; rintro e w' ⟨rfl, rfl⟩)
    go_ret3
    exact ⟨0, rfl, .inl ⟨H2.out, rfl⟩⟩
  · rw [h3] at hI
    have hl : p.length + 1 ≤ s.size := by rw [← size_list, h1]; simp
    have HP : Hid (strV p = .string (s.extract 0 p.length)) := by
      show _ = _
      rw [← strV_of, extract_list, h1]; simp
    have HR : Hid (strV r = .string (s.extract (p.length + 1) s.size)) := by
      show _ = _
      rw [← strV_of, extract_list, h1, List.take_of_length_le (by rw [← h1, List.length_drop, size_list]; omega)]
      have e : p ++ c :: r = (p ++ [c]) ++ r := by simp
      rw [e, List.drop_left' (by simp)]
    have H1 : Hid (s.data.toList = p ++ c :: r) := h1
    have H2 : Hid (∀ x ∈ p, x ≠ c) := h2
    clear h1 h2 h3
    generalize hk : p.length = k at *
    have hsA : ∀ u : World, (Instr.slice 9 (.string s) none (some (.int .i64 (k : Int))) none).run Tryz.prog u = .ok (.string (s.extract 0 k)) u := fun u => by
      rw [run_slice_string_to_if u 9 s .i64 (k : Int) Tryz.underlying9, if_pos (by omega)]
      simp
    go_enter Tryz.func72, Tryz.ntmps72
    go_wp2_with (go_at_call 84; refine hI.mono ?_; rintro e w' ⟨rfl, rfl⟩)
    go_quiet (fail)
    go_wp2
    go_ret3
    exact ⟨_, rfl, .inr ⟨p, r, H1.out, H2.out, by rw [HP.out, HR.out]; rfl⟩⟩

/-- what Cut answers -/
def cutV (c : UInt8) (s : ByteArray) : Value := match cutF c s.data.toList with
  | none => .tuple #[.string s, .string ⟨#[]⟩, .bool false]
  | some (p, r) => .tuple #[strV p, strV r, .bool true]
set_option maxHeartbeats 400000 in
theorem cut_big (s : ByteArray) (c : UInt8) (w : World) (hs : s.size ≤ 9223372036854775807) :
    Calls Tryz.prog 44 #[.string s, .string ⟨#[c]⟩] w fun e w' => ∃ n, w' = w.drewN n ∧ e = .returned (cutV c s) := by
  go_enter Tryz.func44, Tryz.ntmps44
  go_wp2_with fail
  refine (liteCut_big s c w hs).mono ?_
  rintro e w' ⟨n, rfl, hh⟩
  rcases hh with ⟨h1, rfl⟩ | ⟨p, r, h1, h2, rfl⟩
  · have H1 : Hid (cutV c s = .tuple #[.string s, .string ⟨#[]⟩, .bool false]) := by show _ = _; unfold cutV; rw [cutF_none h1]
    clear h1
    go_wp2
    go_ret3
    exact ⟨n, rfl, by rw [H1.out]; rfl⟩
  · have H1 : Hid (cutV c s = .tuple #[strV p, strV r, .bool true]) := by show _ = _; unfold cutV; rw [h1, cutF_some _ h2]
    clear h1 h2
    unfold strV at *
    go_wp2
    go_ret3
    exact ⟨n, rfl, by rw [H1.out]; rfl⟩

set_option maxHeartbeats 400000 in
theorem isLD_any (b : UInt8) (w : World) :
    Calls Tryz.prog 92 #[.int .u8 (b.toNat : Int)] w fun e w' => e = .returned (.bool (isLD b)) ∧ w' = w := by
  have hb : b.toNat < 256 := b.toNat_lt
  have hL := isLetter_any b.toNat w hb
  have HD : Hid (isLD b = (isLow b || (decide (48 ≤ b.toNat) && decide (b.toNat ≤ 57)))) := rfl
  have e : (decide (97 ≤ b.toNat) && decide (b.toNat ≤ 122)) = isLow b := rfl
  rw [e] at hL
  clear e
  generalize isLD b = r at *
  generalize isLow b = c at *
  generalize b.toNat = k at *
  cases c with
  | true =>
    go_enter Tryz.func92, Tryz.ntmps92
    go_wp2_with (go_at_call 74; refine hL.mono ?_; rintro e w' ⟨rfl, rfl⟩)
    go_ret
    exact ⟨ret_bool (by rw [HD.out]; rfl), rfl⟩
  | false =>
    by_cases h1 : 48 ≤ k
    · have q1 : ((48 : Int) ≤ (k : Int)) := by omega
      by_cases h2 : k ≤ 57
      · have q2 : ((k : Int) ≤ 57) := by omega
        have E : Hid (r = true) := by show _ = _; rw [HD.out]; simp [h1, h2]
        clear HD
        go_enter Tryz.func92, Tryz.ntmps92
        go_wp2_with (go_at_call 74; refine hL.mono ?_; rintro e w' ⟨rfl, rfl⟩)
        go_ret
        exact ⟨ret_bool (by rw [E.out]; first | done | (simp <;> omega)), rfl⟩
      · have q2 : ¬ ((k : Int) ≤ 57) := by omega
        have E : Hid (r = false) := by show _ = _; rw [HD.out]; simp [h2]
        clear HD
        go_enter Tryz.func92, Tryz.ntmps92
        go_wp2_with (go_at_call 74; refine hL.mono ?_; rintro e w' ⟨rfl, rfl⟩)
        go_ret
        exact ⟨ret_bool (by rw [E.out]; first | done | (simp <;> omega)), rfl⟩
    · have q1 : ¬ ((48 : Int) ≤ (k : Int)) := by omega
      have E : Hid (r = false) := by show _ = _; rw [HD.out]; simp [h1]
      clear HD
      go_enter Tryz.func92, Tryz.ntmps92
      go_wp2_with (go_at_call 74; refine hL.mono ?_; rintro e w' ⟨rfl, rfl⟩)
      go_ret
      exact ⟨ret_bool (by rw [E.out]; first | done | simp), rfl⟩

set_option maxHeartbeats 400000 in
theorem fitsD_any (s : ByteArray) (w : World) :
    Calls Tryz.prog 73 #[.string s, .int .i64 8, .func (.func 92) #[] #[]] w fun e w' => e = .returned (.bool (idL s.data.toList)) ∧ w' = w := by
  generalize hR : idL s.data.toList = r
  have HR : Hid (idL s.data.toList = r) := hR
  clear hR
  by_cases h1 : s.size < 1
  · have e : r = false := by rw [← HR.out]; unfold idL; rw [size_list]; simp; omega
    subst e
    go_enter Tryz.func73, Tryz.ntmps73
    go_wp2
    go_ret
    exact ⟨rfl, rfl⟩
  by_cases h8 : 8 < s.size
  · have e : r = false := by rw [← HR.out]; unfold idL; rw [size_list]; simp; omega
    subst e
    go_enter Tryz.func73, Tryz.ntmps73
    go_wp2
    go_ret
    exact ⟨rfl, rfl⟩
  have HR2 : Hid (r = s.data.toList.all isLD) := by
    show _ = _
    rw [← HR.out]; unfold idL; rw [size_list, decide_eq_true (show 1 ≤ s.size by omega), decide_eq_true (show s.size ≤ 8 by omega)]; rfl
  clear HR
  go_enter Tryz.func73, Tryz.ntmps73
  go_wp2
  go_loop [19] (fun i => ∃ k : Nat, k ≤ s.size ∧ i = .int .i64 k ∧ Hid ((s.data.toList.take k).all isLD = true)) (fun i => s.size - (intOf i).toNat)
  case atStart => exact ⟨0, Nat.zero_le _, rfl, by show _ = _; simp⟩
  case round =>
    obtain ⟨k, hk, rfl, H⟩ := hrel
    by_cases hlt : k < s.size
    · have HT : Hid ((s.data.toList.take (k + 1)).all isLD = isLD s[k]) := by
        show _ = _
        rw [take_snoc s k hlt, List.all_append, H.out]
        simp
      have HD : Hid (isLD s[k] = false → r = false) := fun h => by
        rw [HR2.out, List.all_eq_false]
        refine ⟨s[k], ?_, by rw [h]; simp⟩
        have e : s.data.toList[k]'(by rw [size_list]; exact hlt) = s[k] := rfl
        rw [← e]
        exact List.getElem_mem _
      have hL := isLD_any s[k] w
      generalize isLD s[k] = c at *
      cases c with
      | true =>
        go_wp2_with (go_at_call 92; refine hL.mono ?_; rintro e w' ⟨rfl, rfl⟩)
        go_round
        case rel => exact ⟨k + 1, by omega, by go_num, HT⟩
        case measure => simp [intOf]; omega
      | false =>
        have e : r = false := HD.out rfl
        subst e
        go_wp2_with (go_at_call 92; refine hL.mono ?_; rintro e w' ⟨rfl, rfl⟩)
        go_ret
        exact ⟨rfl, rfl⟩
    · have e : r = true := by
        rw [HR2.out]
        have := H.out
        rw [List.take_of_length_le (by rw [size_list]; omega)] at this
        exact this
      subst e
      go_wp2
      go_ret
      exact ⟨rfl, rfl⟩
theorem isID_any (s : ByteArray) (w : World) :
    Calls Tryz.prog 75 #[.string s] w fun e w' => e = .returned (.bool (idL s.data.toList)) ∧ w' = w := by
  have hF := fitsD_any s w
  generalize idL s.data.toList = c at *
  go_enter Tryz.func75, Tryz.ntmps75
  go_wp2_with (go_at_call 73; refine hF.mono ?_; rintro e w' ⟨rfl, rfl⟩)
  go_ret
  exact ⟨rfl, rfl⟩
end Go.Proofs.YtlgodpadcilcaaaGreatDoor
namespace Go.Proofs.YtlgodpadcilcaaaGreatDoor
open Go.ChangeShapes Go.WideShapes Go.ChangeAt Go.RowKit

theorem sizeO : (Tryz.prog.info? 31).map (·.size) = some 2 := by kernel_rfl
theorem sizeSu : (Tryz.prog.info? 33).map (·.size) = some 3 := by kernel_rfl
theorem sizeTu : (Tryz.prog.info? 35).map (·.size) = some 6 := by kernel_rfl

def objC (o : Option (List UInt8 × List UInt8)) : List Value := [strV (o.getD ([], [])).1, strV (o.getD ([], [])).2]
def subC (o : Option (List UInt8 × List UInt8 × List UInt8)) : List Value := [strV (o.getD ([], [], [])).1, strV (o.getD ([], [], [])).2.1, strV (o.getD ([], [], [])).2.2]
def tupC (o : Option Tup) : List Value := [strV (o.getD ⟨[], [], [], [], [], []⟩).k, strV (o.getD ⟨[], [], [], [], [], []⟩).i, strV (o.getD ⟨[], [], [], [], [], []⟩).r, strV (o.getD ⟨[], [], [], [], [], []⟩).k2, strV (o.getD ⟨[], [], [], [], [], []⟩).i2, strV (o.getD ⟨[], [], [], [], [], []⟩).r2]

theorem extract_le {a b : List UInt8} {c : UInt8} {s : ByteArray} (h : cutF c s.data.toList = some (a, b)) : a.length < s.size ∧ b.length < s.size := by
  have := congrArg List.length (cutF_spec h).1
  rw [size_list] at this
  simp at this
  omega

set_option maxHeartbeats 2000000 in
theorem parseObject_any (s : ByteArray) (w : World) (hs : s.size ≤ 9223372036854775807) :
    Calls Tryz.prog 46 #[.string s] w fun e w' => e = .returned (.tuple #[.agg (objC (objS s.data.toList)).toArray, .bool (objS s.data.toList).isSome]) ∧ Below w.heap.size w w' := by
  have hO : ∃ o, o = objS s.data.toList := ⟨_, rfl⟩
  obtain ⟨o, ho⟩ := hO
  rw [← ho]
  unfold objS at ho
  have hC := fun u => cut_big s 58 u hs
  unfold cutV at hC
  cases hc : cutF 58 s.data.toList with
  | none =>
    rw [hc] at ho hC
    simp only at ho hC
    subst ho
    clear hc
    go_enter Tryz.func46, Tryz.ntmps46
    go_wp2_with (go_at_call 44; refine (hC _).mono ?_; rintro e w1 ⟨n, rfl, rfl⟩)
    refine post_cells rfl w.heap.size [.string ⟨#[]⟩, .string ⟨#[]⟩] (.bool false) rfl rfl rfl Tryz.underlying31 rfl sizeO (range_puts [.string ⟨#[]⟩, .string ⟨#[]⟩] (Nat.le_refl _) (range_newD w #[.string ⟨#[]⟩, .string ⟨#[]⟩] 31 n)) ?_
    exact ⟨rfl, belowCells (Nat.le_refl _) [.string ⟨#[]⟩, .string ⟨#[]⟩] _ _ (below_newD _ _ _)⟩
  | some x =>
    obtain ⟨p, r⟩ := x
    rw [hc] at ho hC
    simp only at ho hC
    clear hc
    have hN := fun u => isName_any ⟨p.toArray⟩ u
    have hI := fun u => isID_any ⟨r.toArray⟩ u
    rw [show (⟨p.toArray⟩ : ByteArray).data.toList = p from rfl] at hN
    rw [show (⟨r.toArray⟩ : ByteArray).data.toList = r from rfl] at hI
    have HO : Hid _ := ho
    clear ho
    generalize hn : nameL p = c at *
    generalize hi : idL r = d at *
    clear hn hi
    unfold strV at hC
    cases c with
    | false =>
      have ho : o = none := HO.out.trans (by simp)
      subst ho
      clear HO
      go_enter Tryz.func46, Tryz.ntmps46
      go_wp2_with first | (go_at_call 44; refine (hC _).mono ?_; rintro e w1 ⟨n, rfl, rfl⟩) | (go_at_call 45; refine (hN _).mono ?_; rintro e w2 ⟨rfl, rfl⟩)
      refine post_cells rfl w.heap.size [.string ⟨#[]⟩, .string ⟨#[]⟩] (.bool false) rfl rfl rfl Tryz.underlying31 rfl sizeO (range_puts [.string ⟨#[]⟩, .string ⟨#[]⟩] (Nat.le_refl _) (range_newD w #[.string ⟨#[]⟩, .string ⟨#[]⟩] 31 n)) ?_
      exact ⟨rfl, belowCells (Nat.le_refl _) [.string ⟨#[]⟩, .string ⟨#[]⟩] _ _ (below_newD _ _ _)⟩
    | true =>
      cases d with
      | false =>
        have ho : o = none := HO.out.trans (by simp)
        subst ho
        clear HO
        go_enter Tryz.func46, Tryz.ntmps46
        go_wp2_with first | (go_at_call 44; refine (hC _).mono ?_; rintro e w1 ⟨n, rfl, rfl⟩) | (go_at_call 45; refine (hN _).mono ?_; rintro e w2 ⟨rfl, rfl⟩) | (go_at_call 75; refine (hI _).mono ?_; rintro e w2 ⟨rfl, rfl⟩)
        refine post_cells rfl w.heap.size [.string ⟨#[]⟩, .string ⟨#[]⟩] (.bool false) rfl rfl rfl Tryz.underlying31 rfl sizeO (range_puts [.string ⟨#[]⟩, .string ⟨#[]⟩] (Nat.le_refl _) (range_newD w #[.string ⟨#[]⟩, .string ⟨#[]⟩] 31 n)) ?_
        exact ⟨rfl, belowCells (Nat.le_refl _) [.string ⟨#[]⟩, .string ⟨#[]⟩] _ _ (below_newD _ _ _)⟩
      | true =>
        have ho : o = some (p, r) := HO.out.trans (by simp)
        subst ho
        clear HO
        go_enter Tryz.func46, Tryz.ntmps46
        go_wp2_with first | (go_at_call 44; refine (hC _).mono ?_; rintro e w1 ⟨n, rfl, rfl⟩) | (go_at_call 45; refine (hN _).mono ?_; rintro e w2 ⟨rfl, rfl⟩) | (go_at_call 75; refine (hI _).mono ?_; rintro e w2 ⟨rfl, rfl⟩)
        refine post_cells rfl w.heap.size [.string ⟨p.toArray⟩, .string ⟨r.toArray⟩] (.bool true) rfl rfl rfl Tryz.underlying31 rfl sizeO (range_puts [.string ⟨p.toArray⟩, .string ⟨r.toArray⟩] (cs := [.string ⟨#[]⟩, .string ⟨#[]⟩]) (Nat.le_refl 2) (range_newD w #[.string ⟨#[]⟩, .string ⟨#[]⟩] 31 n)) ?_
        exact ⟨rfl, belowCells (Nat.le_refl _) [.string ⟨p.toArray⟩, .string ⟨r.toArray⟩] _ _ (below_newD _ _ _)⟩
end Go.Proofs.YtlgodpadcilcaaaGreatDoor
namespace Go.Proofs.YtlgodpadcilcaaaGreatDoor
open Go.ChangeShapes Go.WideShapes Go.ChangeAt Go.RowKit

/-- a block that is still as it was made -/
structure Made (w : World) (B : Nat) (C : Array Value) (T : TypeId) : Prop where
  at' : w.heap[B]? = some (.cells C T)
theorem Made.new (w : World) (C : Array Value) (T : TypeId) (n : Nat) : Made ((w.alloc (.cells C T)).drewN n) w.heap.size C T := ⟨heap_alloc_new _ _⟩
theorem Made.lt {w : World} {B : Nat} {C : Array Value} {T : TypeId} (h : Made w B C T) : B < w.heap.size := by
  rcases Nat.lt_or_ge B w.heap.size with h1 | h1
  · exact h1
  · have := h.at'; rw [Array.getElem?_eq_none h1] at this; cases this
theorem Made.below {w w' : World} {B : Nat} {C : Array Value} {T : TypeId} (h : Made w B C T) (hb : Below w.heap.size w w') : Made w' B C T := ⟨by rw [hb.block B h.lt]; exact h.at'⟩
theorem Made.cell {w : World} {B : Nat} {C : Array Value} {T : TypeId} (h : Made w B C T) (i : Nat) : w.cell? ⟨B, i, none⟩ = C[i]? := by simp [World.cell?, h.at']
theorem Made.frz {w : World} {B : Nat} {C : Array Value} {T : TypeId} (h : Made w B C T) (i : Nat) : w.frozen? ⟨B, i, none⟩ = false := by simp [World.frozen?, h.at']
theorem Made.range {w : World} {B : Nat} {C : Array Value} {T : TypeId} (h : Made w B C T) : w.rangeAt B 0 C.toList := fun j v hv => by rw [Nat.zero_add, h.cell]; simpa using hv
theorem Made.alloc {w : World} {B : Nat} {C : Array Value} {T : TypeId} (h : Made w B C T) (o : Obj) : Made (w.alloc o) B C T := ⟨by rw [Below.heap_alloc _ _ _ h.lt]; exact h.at'⟩

theorem Made.puts {w : World} {B : Nat} {C : Array Value} {T : TypeId} (h : Made w B C T) (xs : List Value) (hl : xs.length ≤ C.size) (o : Obj) : ((w.setCells B 0 xs).alloc o).rangeAt B 0 xs := fun j v hv => by
  rw [World.cell?_alloc_lt _ _ _ (by rw [setCells_size]; exact h.lt)]
  exact range_puts xs (cs := C.toList) (by simpa using hl) h.range j v hv
theorem Made.belowPuts {V w : World} {B n : Nat} (hb : Below n V w) (hB : n ≤ B) (hs : n ≤ w.heap.size) (xs : List Value) (o : Obj) : Below n V ((w.setCells B 0 xs).alloc o) :=
  (belowCells hB xs 0 w hb).alloc (by rw [setCells_size]; exact hs) _

set_option maxHeartbeats 2000000 in
theorem parseSubject_none (s : ByteArray) (w : World) (hs : s.size ≤ 9223372036854775807) (hc : cutF 35 s.data.toList = none) :
    Calls Tryz.prog 47 #[.string s] w fun e w' => e = .returned (.tuple #[.agg (subC (subS s.data.toList)).toArray, .bool (subS s.data.toList).isSome]) ∧ Below w.heap.size w w' := by
  have hS : subS s.data.toList = (objS s.data.toList).map (fun x => (x.1, x.2, [])) := by unfold subS; rw [hc]
  rw [hS]
  have hC := fun u => cut_big s 35 u hs
  unfold cutV at hC
  rw [hc] at hC
  simp only at hC
  have hO := fun u => parseObject_any s u hs
  generalize objS s.data.toList = o at *
  clear hS hc
  cases o with
  | none =>
    have hO2 : ∀ u, Calls Tryz.prog 46 #[.string s] u fun e w' => e = .returned (.tuple #[.agg #[.string ⟨#[]⟩, .string ⟨#[]⟩], .bool false]) ∧ Below u.heap.size u w' := hO
    clear hO
    go_enter Tryz.func47, Tryz.ntmps47
    go_upto_region 4 with (go_at_call 44; refine (hC _).mono ?_; rintro e w1 ⟨n, rfl, rfl⟩)
    go_wp2_with (go_at_call 46; refine (hO2 _).mono ?_; rintro e w2 ⟨rfl, hb2⟩; have HM := (Made.new w #[.string ⟨#[]⟩, .string ⟨#[]⟩, .string ⟨#[]⟩] 33 n).below hb2; have hlt := HM.lt; have c0 := HM.cell 0; have c1 := HM.cell 1; have c2 := HM.cell 2; have f0 := HM.frz 0; have f1 := HM.frz 1; have f2 := HM.frz 2; simp only [List.getElem?_toArray, List.getElem?_cons_zero, List.getElem?_cons_succ] at c0 c1 c2; have HB : Hid _ := hb2; clear hb2)
    refine post_cells rfl w.heap.size [.string ⟨#[]⟩, .string ⟨#[]⟩, .string ⟨#[]⟩] (.bool false) rfl rfl rfl Tryz.underlying33 rfl sizeSu (HM.puts [.string ⟨#[]⟩, .string ⟨#[]⟩, .string ⟨#[]⟩] (Nat.le_refl 3) _) ?_
    exact ⟨rfl, Made.belowPuts ((below_newD _ _ _).trans (HB.out.mono (by simp))) (Nat.le_refl _) (Nat.le_of_lt hlt) [.string ⟨#[]⟩, .string ⟨#[]⟩, .string ⟨#[]⟩] _⟩
  | some x =>
    obtain ⟨p, r⟩ := x
    have hO2 : ∀ u, Calls Tryz.prog 46 #[.string s] u fun e w' => e = .returned (.tuple #[.agg #[.string ⟨p.toArray⟩, .string ⟨r.toArray⟩], .bool true]) ∧ Below u.heap.size u w' := hO
    clear hO
    go_enter Tryz.func47, Tryz.ntmps47
    go_upto_region 4 with (go_at_call 44; refine (hC _).mono ?_; rintro e w1 ⟨n, rfl, rfl⟩)
    go_wp2_with (go_at_call 46; refine (hO2 _).mono ?_; rintro e w2 ⟨rfl, hb2⟩; have HM := (Made.new w #[.string ⟨#[]⟩, .string ⟨#[]⟩, .string ⟨#[]⟩] 33 n).below hb2; have hlt := HM.lt; have c0 := HM.cell 0; have c1 := HM.cell 1; have c2 := HM.cell 2; have f0 := HM.frz 0; have f1 := HM.frz 1; have f2 := HM.frz 2; simp only [List.getElem?_toArray, List.getElem?_cons_zero, List.getElem?_cons_succ] at c0 c1 c2; have HB : Hid _ := hb2; clear hb2)
    refine post_cells rfl w.heap.size [.string ⟨p.toArray⟩, .string ⟨r.toArray⟩, .string ⟨#[]⟩] (.bool true) rfl rfl rfl Tryz.underlying33 rfl sizeSu (HM.puts [.string ⟨p.toArray⟩, .string ⟨r.toArray⟩, .string ⟨#[]⟩] (Nat.le_refl 3) _) ?_
    exact ⟨rfl, Made.belowPuts ((below_newD _ _ _).trans (HB.out.mono (by simp))) (Nat.le_refl _) (Nat.le_of_lt hlt) [.string ⟨p.toArray⟩, .string ⟨r.toArray⟩, .string ⟨#[]⟩] _⟩
set_option maxHeartbeats 2000000 in
theorem parseSubject_some (s : ByteArray) (w : World) (hs : s.size ≤ 9223372036854775807) {a b : List UInt8} (hc : cutF 35 s.data.toList = some (a, b)) :
    Calls Tryz.prog 47 #[.string s] w fun e w' => e = .returned (.tuple #[.agg (subC (subS s.data.toList)).toArray, .bool (subS s.data.toList).isSome]) ∧ Below w.heap.size w w' := by
  have hl := extract_le hc
  have hS : subS s.data.toList = if nameL b then (objS a).map (fun x => (x.1, x.2, b)) else none := by unfold subS; rw [hc]
  rw [hS]
  have hC := fun u => cut_big s 35 u hs
  unfold cutV at hC
  rw [hc] at hC
  simp only at hC
  have hO := fun u => parseObject_any ⟨a.toArray⟩ u (by simp [ByteArray.size]; omega)
  have hN := fun u => isName_any ⟨b.toArray⟩ u
  rw [show (⟨a.toArray⟩ : ByteArray).data.toList = a from rfl] at hO
  rw [show (⟨b.toArray⟩ : ByteArray).data.toList = b from rfl] at hN
  generalize objS a = o at *
  generalize hn : nameL b = c at *
  clear hS hc hn hl
  unfold strV at hC
  have HE : Hid (∀ p r : List UInt8, subC (some (p, r, b)) = [.string ⟨p.toArray⟩, .string ⟨r.toArray⟩, .string ⟨b.toArray⟩]) := fun _ _ => rfl
  generalize (⟨a.toArray⟩ : ByteArray) = A at *
  cases c with
  | false =>
    go_enter Tryz.func47, Tryz.ntmps47
    go_wp2_with first | (go_at_call 44; refine (hC _).mono ?_; rintro e w1 ⟨n, rfl, rfl⟩) | (go_at_call 45; refine (hN _).mono ?_; rintro e w2 ⟨rfl, rfl⟩)
    refine post_cells rfl w.heap.size [.string ⟨#[]⟩, .string ⟨#[]⟩, .string ⟨#[]⟩] (.bool false) rfl rfl rfl Tryz.underlying33 rfl sizeSu (range_puts [.string ⟨#[]⟩, .string ⟨#[]⟩, .string ⟨#[]⟩] (Nat.le_refl _) (range_newD w #[.string ⟨#[]⟩, .string ⟨#[]⟩, .string ⟨#[]⟩] 33 n)) ?_
    exact ⟨rfl, belowCells (Nat.le_refl _) [.string ⟨#[]⟩, .string ⟨#[]⟩, .string ⟨#[]⟩] _ _ (below_newD _ _ _)⟩
  | true =>
    cases o with
    | none =>
      have hO2 : ∀ u, Calls Tryz.prog 46 #[.string A] u fun e w' => e = .returned (.tuple #[.agg #[.string ⟨#[]⟩, .string ⟨#[]⟩], .bool false]) ∧ Below u.heap.size u w' := hO
      clear hO
      go_enter Tryz.func47, Tryz.ntmps47
      go_upto_region 4 with first | (go_at_call 44; refine (hC _).mono ?_; rintro e w1 ⟨n, rfl, rfl⟩) | (go_at_call 45; refine (hN _).mono ?_; rintro e w2 ⟨rfl, rfl⟩)
      go_wp2_with (go_at_call 46; refine (hO2 _).mono ?_; rintro e w2 ⟨rfl, hb2⟩; have HM := (Made.new w #[.string ⟨#[]⟩, .string ⟨#[]⟩, .string ⟨#[]⟩] 33 n).below hb2; have hlt := HM.lt; have c0 := HM.cell 0; have c1 := HM.cell 1; have c2 := HM.cell 2; have f0 := HM.frz 0; have f1 := HM.frz 1; have f2 := HM.frz 2; simp only [List.getElem?_toArray, List.getElem?_cons_zero, List.getElem?_cons_succ] at c0 c1 c2; have HB : Hid _ := hb2; clear hb2)
      refine post_cells rfl w.heap.size [.string ⟨#[]⟩, .string ⟨#[]⟩, .string ⟨#[]⟩] (.bool false) rfl rfl rfl Tryz.underlying33 rfl sizeSu (HM.puts [.string ⟨#[]⟩, .string ⟨#[]⟩, .string ⟨#[]⟩] (Nat.le_refl 3) _) ?_
      exact ⟨rfl, Made.belowPuts ((below_newD _ _ _).trans (HB.out.mono (by simp))) (Nat.le_refl _) (Nat.le_of_lt hlt) [.string ⟨#[]⟩, .string ⟨#[]⟩, .string ⟨#[]⟩] _⟩
    | some x =>
      obtain ⟨p, r⟩ := x
      have hO2 : ∀ u, Calls Tryz.prog 46 #[.string A] u fun e w' => e = .returned (.tuple #[.agg #[.string ⟨p.toArray⟩, .string ⟨r.toArray⟩], .bool true]) ∧ Below u.heap.size u w' := hO
      clear hO
      go_enter Tryz.func47, Tryz.ntmps47
      go_upto_region 4 with first | (go_at_call 44; refine (hC _).mono ?_; rintro e w1 ⟨n, rfl, rfl⟩) | (go_at_call 45; refine (hN _).mono ?_; rintro e w2 ⟨rfl, rfl⟩)
      go_wp2_with (go_at_call 46; refine (hO2 _).mono ?_; rintro e w2 ⟨rfl, hb2⟩; have HM := (Made.new w #[.string ⟨#[]⟩, .string ⟨#[]⟩, .string ⟨#[]⟩] 33 n).below hb2; have hlt := HM.lt; have c0 := HM.cell 0; have c1 := HM.cell 1; have c2 := HM.cell 2; have f0 := HM.frz 0; have f1 := HM.frz 1; have f2 := HM.frz 2; simp only [List.getElem?_toArray, List.getElem?_cons_zero, List.getElem?_cons_succ] at c0 c1 c2; have HB : Hid _ := hb2; clear hb2)
      refine post_cells rfl w.heap.size [.string ⟨p.toArray⟩, .string ⟨r.toArray⟩, .string ⟨b.toArray⟩] (.bool true) rfl rfl rfl Tryz.underlying33 rfl sizeSu (HM.puts [.string ⟨p.toArray⟩, .string ⟨r.toArray⟩, .string ⟨b.toArray⟩] (Nat.le_refl 3) _) ?_
      exact ⟨rfl, Made.belowPuts ((below_newD _ _ _).trans (HB.out.mono (by simp))) (Nat.le_refl _) (Nat.le_of_lt hlt) [.string ⟨p.toArray⟩, .string ⟨r.toArray⟩, .string ⟨b.toArray⟩] _⟩
theorem parseSubject_any (s : ByteArray) (w : World) (hs : s.size ≤ 9223372036854775807) :
    Calls Tryz.prog 47 #[.string s] w fun e w' => e = .returned (.tuple #[.agg (subC (subS s.data.toList)).toArray, .bool (subS s.data.toList).isSome]) ∧ Below w.heap.size w w' := by
  cases hc : cutF 35 s.data.toList with
  | none => exact parseSubject_none s w hs hc
  | some x => exact parseSubject_some s w hs (a := x.1) (b := x.2) hc
end Go.Proofs.YtlgodpadcilcaaaGreatDoor
namespace Go.Proofs.YtlgodpadcilcaaaGreatDoor
open Go.ChangeShapes Go.WideShapes Go.ChangeAt Go.RowKit

/-- the first place at which p holds, or -1 -/
def firstI {α : Type} (p : α → Bool) (l : List α) : Int := match l.findIdx? p with | some i => (i : Int) | none => -1
theorem firstI_at {α : Type} {p : α → Bool} {l : List α} {k : Nat} (hk : k < l.length) (h : p l[k] = true) (hl : ∀ j (hj : j < l.length), j < k → p l[j] = false) : firstI p l = (k : Int) := by
  unfold firstI
  have : l.findIdx? p = some k := List.findIdx?_eq_some_iff_getElem.2 ⟨hk, h, fun j hj => by rw [hl j (by omega) hj]; simp⟩
  rw [this]
theorem firstI_none {α : Type} {p : α → Bool} {l : List α} (hl : ∀ j (hj : j < l.length), p l[j] = false) : firstI p l = -1 := by
  unfold firstI
  have : l.findIdx? p = none := by
    rw [List.findIdx?_eq_none_iff]
    intro x hx
    obtain ⟨j, hj, rfl⟩ := List.getElem_of_mem hx
    exact hl j hj
  rw [this]

set_option maxHeartbeats 1000000 in
theorem rType_any (P : Nat) (v : Value) (xs : List (List UInt8)) (s : ByteArray) (w : World) (hc : w.cell? ⟨P, 0, none⟩ = some v) (h : w.ownsRow 0 9 1 v xs.length (xs.map strV)) (hl : xs.length ≤ 1000000) :
    Calls Tryz.prog 27 #[.pointer (some ⟨P, 0, none⟩), .string s] w fun e w' => e = .returned (.int .i64 (firstI (· == s.data.toList) xs)) ∧ w' = w := by
  have hcell : ∀ a cap, v = .slice (some a) xs.length cap → ∀ j (hj : j < xs.length), w.cell? (a.add j) = some (strV xs[j]) := fun a cap hv j hj => by
    rcases h.2 with ⟨e, _⟩ | ⟨g, cap', cur, e, _⟩
    · rw [hv] at e; cases e
    · rw [hv] at e
      cases e
      rw [Addr.add_mid, Nat.zero_add]
      have h' := h
      rw [hv] at h'
      rw [h'.cellAt j (by omega)]
      simp [List.getElem?_eq_getElem hj]
  obtain ⟨a0, c0, rfl⟩ : ∃ a c, v = .slice a xs.length c := by
    rcases h.2 with ⟨e, h0⟩ | ⟨g, cap', cur, e, _⟩
    · rw [h0]; exact ⟨_, _, e⟩
    · exact ⟨_, _, e⟩
  have hnil : a0 = none → xs.length = 0 := fun e => by
    rcases h.2 with ⟨_, h0⟩ | ⟨g, cap', cur, e2, _⟩
    · exact h0
    · rw [e] at e2; cases e2
  clear h
  have HF : Hid (∀ k (hk : k < xs.length), xs[k] = s.data.toList → (∀ j (hj : j < xs.length), j < k → xs[j] ≠ s.data.toList) → firstI (· == s.data.toList) xs = (k : Int)) := fun k hk h1 h2 => firstI_at hk (by simp [h1]) (fun j hj hjk => by simp [h2 j hj hjk])
  have HG : Hid ((∀ j (hj : j < xs.length), xs[j] ≠ s.data.toList) → firstI (· == s.data.toList) xs = -1) := fun h2 => firstI_none (fun j hj => by simp [h2 j hj])
  generalize firstI (· == s.data.toList) xs = r at *
  have HC : Hid _ := hcell
  clear hcell
  generalize hn : xs.length = n at hl hc hnil
  have HN : Hid (xs.length = n) := hn
  clear hn
  go_enter Tryz.func27, Tryz.ntmps27
  go_wp2
  go_loop [5] (fun i => ∃ k : Nat, k ≤ n ∧ i = .int .i64 k ∧ Hid (∀ j (hj : j < xs.length), j < k → xs[j] ≠ s.data.toList)) (fun i => n - (intOf i).toNat)
  case atStart => exact ⟨0, Nat.zero_le _, rfl, fun j hj h => by omega⟩
  case round =>
    obtain ⟨k, hk, rfl, H⟩ := hrel
    by_cases hlt : k < n
    · obtain ⟨a, rfl⟩ : ∃ a, a0 = some a := by
        cases a0 with
        | none => have := hnil rfl; omega
        | some a => exact ⟨a, rfl⟩
      have hkx : k < xs.length := by have := HN.out; omega
      have h1 : w.cell? (a.add k) = some (.string ⟨xs[k].toArray⟩) := by
        have := HC.out a c0 rfl k (by omega)
        exact this
      by_cases hq : xs[k] = s.data.toList
      · have hqb : ((⟨xs[k].toArray⟩ : ByteArray).toList == s.toList) = true := by rw [ByteArray.toList_eq, ByteArray.toList_eq, beq_iff_eq]; exact hq
        have e : r = (k : Int) := HF.out k hkx hq H.out
        subst e
        clear HF HG HC hq
        generalize (⟨xs[k].toArray⟩ : ByteArray) = y at *
        go_wp2
        go_ret
        exact ⟨rfl, rfl⟩
      · have hqb : ((⟨xs[k].toArray⟩ : ByteArray).toList == s.toList) = false := by rw [ByteArray.toList_eq, ByteArray.toList_eq, beq_eq_false_iff_ne]; exact hq
        have H2 : Hid (∀ j (hj : j < xs.length), j < k + 1 → xs[j] ≠ s.data.toList) := fun j hj hjk => by
          by_cases e : j = k
          · subst e; exact hq
          · exact H.out j hj (by omega)
        clear HF HG HC hq
        generalize (⟨xs[k].toArray⟩ : ByteArray) = y at *
        go_wp2
        go_round
        case rel => exact ⟨k + 1, by omega, by go_num, H2.out⟩
        case measure => simp [intOf]; omega
    · have e : r = -1 := HG.out (fun j hj => H.out j hj (by have := HN.out; omega))
      subst e
      clear HF HG HC
      go_wp2
      go_ret
      exact ⟨rfl, rfl⟩
end Go.Proofs.YtlgodpadcilcaaaGreatDoor
namespace Go.Proofs.YtlgodpadcilcaaaGreatDoor
open Go.ChangeShapes Go.WideShapes Go.ChangeAt Go.RowKit

/-- a relation of the reference's: its cells -/
structure RR where
  ty : Nat
  nm : List UInt8
  set : Bool
  top : Nat
  line : Nat
def RR.cells (x : RR) : List Value := [.int .i64 (x.ty : Int), strV x.nm, .bool x.set, .int .i64 (x.top : Int), .int .i64 (x.line : Int)]
theorem RR.len (x : RR) : x.cells.length = 5 := rfl
def RowRR (w : World) (v : Value) (rs : List RR) : Prop := w.ownsRow 0 69 5 v rs.length (rs.map RR.cells).flatten
theorem RowRR.cell {w : World} {g cap : Nat} {rs : List RR} (h : RowRR w (.slice (some ⟨g, 0, none⟩) rs.length cap) rs) (j : Nat) (hj : j < rs.length) (i : Nat) (hi : i < 5) : w.cell? ⟨g, j * 5 + i, none⟩ = rs[j].cells[i]? := by
  rw [Nat.mul_comm j, h.cellAt _ (by omega), flattenK 5 (rs.map RR.cells) (fun cs hcs => by obtain ⟨x, _, rfl⟩ := List.mem_map.1 hcs; exact x.len) j (by simpa using hj) i hi]
  simp

def relAt (kind : Int) (s : List UInt8) (x : RR) : Bool := ((x.ty : Int) == kind) && (x.nm == s)

set_option maxHeartbeats 2000000 in
theorem rRel_any (P : Nat) (v : Value) (rs : List RR) (kind : Int) (s : ByteArray) (w : World) (hc : w.cell? ⟨P, 1, none⟩ = some v) (h : RowRR w v rs) (hl : rs.length ≤ 1000000) :
    Calls Tryz.prog 26 #[.pointer (some ⟨P, 0, none⟩), .int .i64 kind, .string s] w fun e w' => e = .returned (.int .i64 (firstI (relAt kind s.data.toList) rs)) ∧ w' = w := by
  have hcell : ∀ g cap, v = .slice (some ⟨g, 0, none⟩) rs.length cap → ∀ j (hj : j < rs.length), w.cell? ⟨g, j * 5, none⟩ = some (.int .i64 (rs[j].ty : Int)) ∧ w.cell? ⟨g, j * 5 + 1, none⟩ = some (strV rs[j].nm) := fun g cap hv j hj => by
    rw [hv] at h
    exact ⟨by have := RowRR.cell h j hj 0 (by decide); rw [Nat.add_zero] at this; rw [this]; rfl, by rw [RowRR.cell h j hj 1 (by decide)]; rfl⟩
  obtain ⟨a0, c0, rfl, hform⟩ : ∃ a c, v = .slice a rs.length c ∧ ∀ q, a = some q → ∃ g, q = ⟨g, 0, none⟩ := by
    rcases h.2 with ⟨e, h0⟩ | ⟨g, cap', cur, e, _⟩
    · rw [h0]; exact ⟨_, _, e, fun q hq => by cases hq⟩
    · exact ⟨_, _, e, fun q hq => by cases hq; exact ⟨g, rfl⟩⟩
  have hnil : a0 = none → rs.length = 0 := fun e => by
    rcases h.2 with ⟨_, h0⟩ | ⟨g, cap', cur, e2, _⟩
    · exact h0
    · rw [e] at e2; cases e2
  clear h
  have HF : Hid (∀ k (hk : k < rs.length), relAt kind s.data.toList rs[k] = true → (∀ j (hj : j < rs.length), j < k → relAt kind s.data.toList rs[j] = false) → firstI (relAt kind s.data.toList) rs = (k : Int)) := fun k hk h1 h2 => firstI_at hk h1 h2
  have HG : Hid ((∀ j (hj : j < rs.length), relAt kind s.data.toList rs[j] = false) → firstI (relAt kind s.data.toList) rs = -1) := fun h2 => firstI_none h2
  generalize firstI (relAt kind s.data.toList) rs = r at *
  have HC : Hid _ := hcell
  clear hcell
  generalize hn : rs.length = n at hl hc hnil
  have HN : Hid (rs.length = n) := hn
  clear hn
  go_enter Tryz.func26, Tryz.ntmps26
  go_wp2
  go_loop [7] (fun i => ∃ k : Nat, k ≤ n ∧ i = .int .i64 k ∧ Hid (∀ j (hj : j < rs.length), j < k → relAt kind s.data.toList rs[j] = false)) (fun i => n - (intOf i).toNat)
  case atStart => exact ⟨0, Nat.zero_le _, rfl, fun j hj h => by omega⟩
  case round =>
    obtain ⟨k, hk, rfl, H⟩ := hrel
    by_cases hlt : k < n
    · obtain ⟨g, rfl⟩ : ∃ g, a0 = some ⟨g, 0, none⟩ := by
        cases a0 with
        | none => have := hnil rfl; omega
        | some a => obtain ⟨g, rfl⟩ := hform a rfl; exact ⟨g, rfl⟩
      have hkx : k < rs.length := by have := HN.out; omega
      obtain ⟨h1, h2⟩ := HC.out g c0 rfl k hkx
      unfold strV at h2
      have HRel : Hid (relAt kind s.data.toList rs[k] = (((rs[k].ty : Int) == kind) && ((⟨rs[k].nm.toArray⟩ : ByteArray).toList == s.toList))) := by show _ = _; unfold relAt; rw [ByteArray.toList_eq, ByteArray.toList_eq]
      have HK := fun hh => HF.out k hkx hh H.out
      have HK2 : Hid (relAt kind s.data.toList rs[k] = true → r = (k : Int)) := HK
      have HK3 : Hid (relAt kind s.data.toList rs[k] = false → ∀ j (hj : j < rs.length), j < k + 1 → relAt kind s.data.toList rs[j] = false) := fun hq j hj hjk => by
        by_cases e : j = k
        · subst e; exact hq
        · exact H.out j hj (by omega)
      clear HK HF HG HC hform hnil
      generalize relAt kind s.data.toList rs[k] = ra at *
      generalize (⟨rs[k].nm.toArray⟩ : ByteArray) = y at *
      generalize rs[k].ty = t at *
      cases hq1 : ((t : Int) == kind) with
      | true =>
        rw [hq1] at HRel
        cases hq2 : (y.toList == s.toList) with
        | true =>
          rw [hq2] at HRel
          have e : r = (k : Int) := HK2.out HRel.out
          subst e
          go_wp2
          go_ret
          exact ⟨rfl, rfl⟩
        | false =>
          rw [hq2] at HRel
          have e := HK3.out HRel.out
          have HE : Hid _ := e
          clear e
          go_wp2
          go_round
          case rel => exact ⟨k + 1, by omega, by go_num, HE.out⟩
          case measure => simp [intOf]; omega
      | false =>
        rw [hq1] at HRel
        have e := HK3.out HRel.out
        have HE : Hid _ := e
        clear e
        go_wp2
        go_round
        case rel => exact ⟨k + 1, by omega, by go_num, HE.out⟩
        case measure => simp [intOf]; omega
    · have e : r = -1 := HG.out (fun j hj => H.out j hj (by have := HN.out; omega))
      subst e
      clear HF HG HC
      go_wp2
      go_ret
      exact ⟨rfl, rfl⟩
end Go.Proofs.YtlgodpadcilcaaaGreatDoor
namespace Go.Proofs.YtlgodpadcilcaaaGreatDoor
open Go.ChangeShapes Go.WideShapes Go.ChangeAt Go.RowKit

theorem infoN : (Tryz.prog.info? 124).map (fun i => (i.zero, i.size, i.bytes)) = some (some (.agg #[.int .u8 0, .string ⟨#[]⟩, .string ⟨#[]⟩, .slice none 0 0]), 4, 64) := by kernel_rfl

/-- a node's four cells -/
def NodeV (sg : Int) (a b : ByteArray) (p : Option Addr) (l c : Nat) : List Value := [.int .u8 sg, .string a, .string b, .slice p l c]

set_option maxHeartbeats 4000000 in
set_option maxRecDepth 100000 in
theorem node_any (P : Nat) (v : Value) (n : Nat) (XS : List Value) (sg : Int) (a b : ByteArray) (p : Option Addr) (l c : Nat) (w : World) (hc : w.cell? ⟨P, 2, none⟩ = some v) (hf : w.frozen? ⟨P, 2, none⟩ = false) (h : w.ownsRow 0 124 4 v n XS) (hvP : v.ownBlock ≠ some P) (hl : n ≤ 1000000) :
    Calls Tryz.prog 80 #[.pointer (some ⟨P, 0, none⟩), .agg (NodeV sg a b p l c).toArray] w fun e w' => e = .returned (.int .i64 (n : Nat)) ∧
      ∃ g cap, w'.cell? ⟨P, 2, none⟩ = some (.slice (some ⟨g, 0, none⟩) (n + 1) cap) ∧ w'.ownsRow 0 124 4 (.slice (some ⟨g, 0, none⟩) (n + 1) cap) (n + 1) (XS ++ NodeV sg a b p l c) ∧ (v.ownBlock = some g ∨ w.heap.size ≤ g) ∧ g ≠ P ∧
        w'.os = w.os ∧ w'.tape = w.tape ∧ w'.output = w.output ∧ w.heap.size ≤ w'.heap.size ∧ (∀ k, k < w.heap.size → k ≠ P → v.ownBlock ≠ some k → w'.heap[k]? = w.heap[k]?) ∧ (∀ i, i ≠ 2 → w'.cell? ⟨P, i, none⟩ = w.cell? ⟨P, i, none⟩) ∧ ∀ i, w'.frozen? ⟨P, i, none⟩ = w.frozen? ⟨P, i, none⟩ := by
  obtain ⟨i0, hi, hz0, hz1, hz2⟩ := info_parts infoN
  have hPw : P < w.heap.size := World.block_lt_of_cell? w ⟨P, 2, none⟩ hc
  obtain ⟨a0, c0, rfl⟩ : ∃ a c, v = .slice a n c := by
    rcases h.2 with ⟨e, h0⟩ | ⟨g, cap', cur, e, _⟩
    · rw [h0]; exact ⟨_, _, e⟩
    · exact ⟨_, _, e⟩
  have eV : (NodeV sg a b p l c).toArray = #[.int .u8 sg, .string a, .string b, .slice p l c] := rfl
  rw [eV]
  clear eV
  have hal : Below w.heap.size w (w.alloc (.cells #[.int .u8 sg, .string a, .string b, .slice p l c] 124)) := (Below.refl _ _).alloc (Nat.le_refl _) _
  have hV := range_new w #[.int .u8 sg, .string a, .string b, .slice p l c] 124
  have hc0 : (w.alloc (.cells #[.int .u8 sg, .string a, .string b, .slice p l c] 124)).cell? ⟨P, 2, none⟩ = some (.slice a0 n c0) := by rw [hal.cell (p := ⟨P, 2, none⟩) hPw]; exact hc
  have hf0 : (w.alloc (.cells #[.int .u8 sg, .string a, .string b, .slice p l c] 124)).frozen? ⟨P, 2, none⟩ = false := by rw [hal.frozen (p := ⟨P, 2, none⟩) hPw]; exact hf
  have hown0 : (w.alloc (.cells #[.int .u8 sg, .string a, .string b, .slice p l c] 124)).ownsRow 0 124 4 (.slice a0 n c0) n XS := h.alloc _
  have hs0 : (w.alloc (.cells #[.int .u8 sg, .string a, .string b, .slice p l c] 124)).heap.size = w.heap.size + 1 := by simp
  go_enter Tryz.func80, Tryz.ntmps80
  go_upto_region 1 with fail
  generalize w.alloc (.cells #[.int .u8 sg, .string a, .string b, .slice p l c] 124) = w0 at *
  have v0 : w0.cell? ⟨w.heap.size, 0, none⟩ = some (.int .u8 sg) := hV 0 _ rfl
  have v1 : w0.cell? ⟨w.heap.size, 1, none⟩ = some (.string a) := hV 1 _ rfl
  have v2 : w0.cell? ⟨w.heap.size, 2, none⟩ = some (.string b) := hV 2 _ rfl
  have v3 : w0.cell? ⟨w.heap.size, 3, none⟩ = some (.slice p l c) := hV 3 _ rfl
  clear hV
  have hown1 : ((w0.alloc (.cells #[.int .u8 sg, .string a, .string b, .slice p l c] 124)).drew).ownsRow 0 124 4 (.slice a0 n c0) n XS := hown0.alloc _
  have hnews : ∀ j u, (NodeV sg a b p l c)[j]? = some u → ((w0.alloc (.cells #[.int .u8 sg, .string a, .string b, .slice p l c] 124)).drew).cell? ((⟨w0.heap.size, 0, none⟩ : Addr).add j) = some u :=
    World.news_of_block (w := (w0.alloc (.cells #[.int .u8 sg, .string a, .string b, .slice p l c] 124)).drew) (cs := #[.int .u8 sg, .string a, .string b, .slice p l c]) (t := 124) (fr := (0, 0)) (heap_alloc_new w0 _)
  have hone : ∀ u ∈ NodeV sg a b p l c, u.oneCell' = true := fun u hu => by simp [NodeV] at hu; rcases hu with rfl | rfl | rfl | rfl <;> rfl
  have HG : Hid (∀ w1 : World, ((w0.alloc (.cells #[.int .u8 sg, .string a, .string b, .slice p l c] 124)).drew).grownBy w1 (Value.slice a0 n c0).ownBlock → w1.heap[P]? = w0.heap[P]?) := fun w1 hg => by
    refine (hg.block P ?_ (fun e => hvP e.symm)).trans (Below.heap_alloc _ _ _ (by omega))
    show P < (w0.alloc _).heap.size
    simp; omega
  have HS0 : Hid (w0.heap.size = w.heap.size + 1) := hs0
  have hP0 : P < w0.heap.size := by omega
  have hV0 : w.heap.size < w0.heap.size := by omega
  clear hs0
  go_region_law (refine step_append_lies _ rfl (.tmp 9) (.tmp 11) 61 rfl 0 124 i0 _ 4 64 Tryz.underlying61 hi hz0 hz1 hz2 rfl (by decide) (.slice a0 n c0) n XS (by simp [Act.eval]) hown1 ⟨w0.heap.size, 0, none⟩ 1 1 (NodeV sg a b p l c) (by simp [Act.eval]) rfl hnews hone (by decide) (by unfold maxLen; omega) (by omega) (Nat.zero_le _) (w0.heap.size + 1) (by simp) ?_; intro g cap w1 hown2 hgrow2 hat2 hlt2; have hP1 : w1.cell? ⟨P, 2, none⟩ = some (.slice a0 n c0) := (World.cell?_of_block (w := w0) (a := ⟨P, 2, none⟩) (HG.out w1 hgrow2)).trans hc0; have hPf : w1.frozen? ⟨P, 2, none⟩ = false := (World.frozen?_of_block (w := w0) (a := ⟨P, 2, none⟩) (HG.out w1 hgrow2)).trans hf0)
  all_goals have hgP : g ≠ P := by
              have hs := HS0.out
              rcases hat2 with e | e
              · intro e2; rw [e2] at e; exact hvP e
              · omega
  all_goals have hs2 : (w0.alloc (.cells #[.int .u8 sg, .string a, .string b, .slice p l c] 124)).drew.heap.size = w0.heap.size + 1 := by show (w0.alloc _).heap.size = _; simp
  all_goals have hg2s := hgrow2.size
  all_goals have hset : (w1.setCell ⟨P, 2, none⟩ (.slice (some ⟨g, 0, none⟩) (n + 1) cap)).cell? ⟨P, 2, none⟩ = some (.slice (some ⟨g, 0, none⟩) (n + 1) cap) := World.cell?_setCell_same' _ _ _ (by rw [hP1]; rfl)
  all_goals have HSet : Hid _ := hset
  all_goals go_wp2
  all_goals go_ret
  all_goals
    have hs := HS0.out
    have hgb : ∀ k, k < w.heap.size → (Value.slice a0 n c0).ownBlock ≠ some k → w1.heap[k]? = w.heap[k]? := fun k hk hkr => by
      refine (hgrow2.block k (by omega) (fun e => hkr e.symm)).trans ((Below.heap_alloc w0 _ k (by omega)).trans (hal.block k hk))
    refine ⟨by first | rfl | (congr 2; omega) | simp, g, cap, HSet.out, World.ownsRow.kept hown2 (setCell_grown w1 P 2 _) (.inr (fun e => hgP (by cases e; rfl))), orTo hat2 (fun e => by omega), hgP, ?_, ?_, ?_, by simp; omega, fun k hk hkP hkr => ?_, fun i hi2 => ?_, fun i => ?_⟩
    · show w1.os = w.os; rw [hgrow2.os]; exact hal.os
    · show w1.tape = w.tape; rw [hgrow2.tape]; exact hal.tape
    · show w1.output = w.output; rw [hgrow2.output]; exact hal.output
    · rw [Below.heap_setCell _ _ _ _ hkP]; exact hgb k hk hkr
    · rw [cell_set_ne hi2]; exact World.cell?_of_block (w := w) (a := ⟨P, i, none⟩) (hgb P hPw hvP)
    · rw [World.frozen?_setCell]; exact World.frozen?_of_block (w := w) (a := ⟨P, i, none⟩) (hgb P hPw hvP)
end Go.Proofs.YtlgodpadcilcaaaGreatDoor
namespace Go.Proofs.YtlgodpadcilcaaaGreatDoor
open Go.ChangeShapes Go.WideShapes Go.ChangeAt Go.RowKit

/-- a node of the reference's, as it lies -/
structure NV where
  sg : Int
  a : List UInt8
  b : List UInt8
  p : Option Addr
  l : Nat
  c : Nat
def NV.cells (x : NV) : List Value := NodeV x.sg ⟨x.a.toArray⟩ ⟨x.b.toArray⟩ x.p x.l x.c
theorem NV.len (x : NV) : x.cells.length = 4 := rfl
def RowN (w : World) (v : Value) (N : List NV) : Prop := w.ownsRow 0 124 4 v N.length (N.map NV.cells).flatten
theorem RowN.cell {w : World} {g cap : Nat} {N : List NV} (h : RowN w (.slice (some ⟨g, 0, none⟩) N.length cap) N) (j : Nat) (hj : j < N.length) (i : Nat) (hi : i < 4) : w.cell? ⟨g, j * 4 + i, none⟩ = N[j].cells[i]? := by
  rw [Nat.mul_comm j, h.cellAt _ (by omega), flattenK 4 (N.map NV.cells) (fun cs hcs => by obtain ⟨x, _, rfl⟩ := List.mem_map.1 hcs; exact x.len) j (by simpa using hj) i hi]
  simp

/-- the plan's nodes: in block nb -/
structure NRep (w : World) (P : Nat) (nb : Option Nat) (N : List NV) : Prop where
  row : ∃ v, w.cell? ⟨P, 2, none⟩ = some v ∧ RowN w v N ∧ v.ownBlock = nb
  ne : nb ≠ some P
  frz : w.frozen? ⟨P, 2, none⟩ = false
theorem NRep.lt {w : World} {P : Nat} {nb : Option Nat} {N : List NV} (h : NRep w P nb N) : P < w.heap.size ∧ ∀ k, nb = some k → k < w.heap.size := by
  obtain ⟨v, h1, h2, h3⟩ := h.row
  exact ⟨World.block_lt_of_cell? w ⟨P, 2, none⟩ h1, fun k hk => (h2.lt k (by rw [h3]; exact hk)).2⟩
theorem NRep.below {w w' : World} {P : Nat} {nb : Option Nat} {N : List NV} (h : NRep w P nb N) (hb : Below w.heap.size w w') : NRep w' P nb N := by
  have hlt := h.lt
  obtain ⟨v, h1, h2, h3⟩ := h.row
  refine ⟨⟨v, by rw [hb.cell (p := ⟨P, 2, none⟩) hlt.1]; exact h1, h2.kept (row := none) ⟨hb.os, hb.tape, hb.output, hb.size, fun k hk _ => hb.block k hk⟩ ?_, h3⟩, h.ne, by rw [hb.frozen (p := ⟨P, 2, none⟩) hlt.1]; exact h.frz⟩
  cases hv : v.ownBlock with
  | none => exact .inl rfl
  | some g => exact .inr (by simp)

/-- the nodes have grown by N'; all other blocks are as they were -/
structure NGrow (P : Nat) (nb : Option Nat) (N : List NV) (w w' : World) (nb' : Option Nat) (N' : List NV) : Prop where
  but : ButM (P :: nb.toList) w w'
  rep : NRep w' P nb' (N ++ N')
  nbs : nb' = nb ∨ ∃ g, nb' = some g ∧ w.heap.size ≤ g
  cells : ∀ i, i ≠ 2 → w'.cell? ⟨P, i, none⟩ = w.cell? ⟨P, i, none⟩
  frz : ∀ i, w'.frozen? ⟨P, i, none⟩ = w.frozen? ⟨P, i, none⟩
theorem NGrow.refl {P : Nat} {nb : Option Nat} {N : List NV} {w w' : World} (h : NRep w P nb N) (hb : Below w.heap.size w w') : NGrow P nb N w w' nb [] :=
  ⟨ButM.of_below hb, by rw [List.append_nil]; exact h.below hb, .inl rfl, fun i _ => hb.cell (p := ⟨P, i, none⟩) h.lt.1, fun i => hb.frozen (p := ⟨P, i, none⟩) h.lt.1⟩
theorem NGrow.sub {P : Nat} {nb : Option Nat} {N : List NV} {w w' : World} {nb' : Option Nat} {N' : List NV} (h : NGrow P nb N w w' nb' N') : ∀ g ∈ P :: nb'.toList, g ∈ P :: nb.toList ∨ w.heap.size ≤ g := fun g hg => by
  rcases List.mem_cons.1 hg with rfl | hg
  · exact .inl (List.mem_cons_self ..)
  · rcases h.nbs with e | ⟨g', e, hle⟩
    · exact .inl (List.mem_cons_of_mem _ (by rw [← e]; exact hg))
    · rw [e] at hg; simp at hg; subst hg; exact .inr hle
theorem NGrow.trans {P : Nat} {nb nb' nb'' : Option Nat} {N N' N'' : List NV} {w w' w'' : World} (h : NGrow P nb N w w' nb' N') (k : NGrow P nb' (N ++ N') w' w'' nb'' N'') : NGrow P nb N w w'' nb'' (N' ++ N'') := by
  have hs := h.but.size
  refine ⟨⟨k.but.os.trans h.but.os, k.but.tape.trans h.but.tape, k.but.output.trans h.but.output, Nat.le_trans hs k.but.size, fun i hi hm => ?_⟩, by rw [← List.append_assoc]; exact k.rep, ?_, fun i hi => (k.cells i hi).trans (h.cells i hi), fun i => (k.frz i).trans (h.frz i)⟩
  · refine (k.but.block i (by omega) (fun hm' => ?_)).trans (h.but.block i hi hm)
    rcases h.sub i hm' with e | e
    · exact hm e
    · omega
  · rcases k.nbs with e | ⟨g, e, hle⟩
    · rw [e]; exact h.nbs
    · exact .inr ⟨g, e, by omega⟩

/-- how an expression lies in nodes -/
def sgn (k : Nat) : Int := if k = 3 then 124 else if k = 4 then 38 else 45
def Tree (S : Nat → Prop) (w : World) (N : List NV) : Exp → Nat → Prop
  | ⟨.inl none⟩, i => N[i]? = some ⟨115, [], [], none, 0, 0⟩
  | ⟨.inl (some (x, none))⟩, i => N[i]? = some ⟨110, x, [], none, 0, 0⟩
  | ⟨.inl (some (x, some y))⟩, i => N[i]? = some ⟨46, x, y, none, 0, 0⟩
  | ⟨.inr (k, es)⟩, i => ∃ g c ps, N[i]? = some ⟨sgn k, [], [], some ⟨g, 0, none⟩, es.length, c⟩ ∧ S g ∧ (k = 3 ∨ k = 4 ∨ (k = 5 ∧ es.length = 2)) ∧ ps.length = es.length ∧ w.rangeAt g 0 (ps.map fun (j : Nat) => .int .i64 (j : Int)) ∧ all ps es
where all : List Nat → List Exp → Prop
  | [], [] => True
  | [], _ :: _ => False
  | p :: ps, es => match es with
    | [] => False
    | e :: r => Tree S w N e p ∧ all ps r
theorem Tree.keep {S T : Nat → Prop} {w w' : World} {N M : List NV} (hT : ∀ k, S k → T k) (hb : ∀ k, S k → w'.heap[k]? = w.heap[k]?) (hM : ∀ (i : Nat) (x : NV), N[i]? = some x → M[i]? = some x) : ∀ (e : Exp) (i : Nat), Tree S w N e i → Tree T w' M e i
  | ⟨.inl none⟩, i, h => by simp only [Tree] at h ⊢; exact hM _ _ h
  | ⟨.inl (some (x, none))⟩, i, h => by simp only [Tree] at h ⊢; exact hM _ _ h
  | ⟨.inl (some (x, some y))⟩, i, h => by simp only [Tree] at h ⊢; exact hM _ _ h
  | ⟨.inr (k, es)⟩, i, h => by
    simp only [Tree] at h ⊢
    obtain ⟨g, c, ps, h1, h2, h3, h4, h5, h6⟩ := h
    exact ⟨g, c, ps, hM _ _ h1, hT g h2, h3, h4, fun j v hv => by rw [World.cell?_of_block (w := w) (hb g h2)]; exact h5 j v hv, keepAll es ps h6⟩
where keepAll : ∀ (es : List Exp) (ps : List Nat), Tree.all S w N ps es → Tree.all T w' M ps es
  | [], [], h => by simp only [Tree.all]
  | [], _ :: _, h => by simp only [Tree.all] at h
  | _ :: _, [], h => by simp only [Tree.all] at h
  | e :: r, p :: ps, h => by
    simp only [Tree.all] at h ⊢
    exact ⟨Tree.keep hT hb hM e p h.1, keepAll r ps h.2⟩
theorem get_append {N M : List NV} : ∀ (i : Nat) (x : NV), N[i]? = some x → (N ++ M)[i]? = some x := fun i x h => by
  rw [List.getElem?_append_left (List.getElem?_eq_some_iff.1 h).1]; exact h
theorem Tree.grow {B P : Nat} {nb nb' : Option Nat} {N N' : List NV} {w w' : World} {e : Exp} {i : Nat} (h : Tree (fun g => B ≤ g ∧ g < w.heap.size ∧ g ∉ P :: nb.toList) w N e i) (k : NGrow P nb N w w' nb' N') : Tree (fun g => B ≤ g ∧ g < w'.heap.size ∧ g ∉ P :: nb'.toList) w' (N ++ N') e i := by
  have hs := k.but.size
  refine Tree.keep (fun g hg => ⟨hg.1, by omega, fun hm => ?_⟩) (fun g hg => k.but.block g hg.2.1 hg.2.2) get_append e i h
  rcases k.sub g hm with e | e
  · exact hg.2.2 e
  · omega
/-- the terms by their places -/
theorem Tree.all_iff {S : Nat → Prop} {w : World} {N : List NV} : ∀ (ps : List Nat) (es : List Exp), ps.length = es.length → (Tree.all S w N ps es ↔ ∀ j (h : j < es.length) (h' : j < ps.length), Tree S w N es[j] ps[j])
  | [], [], _ => by simp [Tree.all]
  | [], _ :: _, h => by simp at h
  | _ :: _, [], h => by simp at h
  | p :: ps, e :: r, h => by
    simp only [Tree.all]
    rw [Tree.all_iff ps r (by simpa using h)]
    constructor
    · rintro ⟨h1, h2⟩ j hj hj'
      cases j with
      | zero => exact h1
      | succ j => exact h2 j (by simpa using hj) (by simpa using hj')
    · intro h
      exact ⟨h 0 (by simp) (by simp), fun j hj hj' => h (j + 1) (by simp; omega) (by simp; omega)⟩

theorem node_grow (P : Nat) (nb : Option Nat) (N : List NV) (x : NV) (w : World) (h : NRep w P nb N) (hl : N.length ≤ 1000000) :
    Calls Tryz.prog 80 #[.pointer (some ⟨P, 0, none⟩), .agg x.cells.toArray] w fun e w' => e = .returned (.int .i64 (N.length : Nat)) ∧ ∃ nb', NGrow P nb N w w' nb' [x] := by
  obtain ⟨v, h1, h2, h3⟩ := h.row
  refine (node_any P v N.length (N.map NV.cells).flatten x.sg ⟨x.a.toArray⟩ ⟨x.b.toArray⟩ x.p x.l x.c w h1 h.frz h2 (by rw [h3]; exact h.ne) hl).mono ?_
  rintro e w' ⟨he, g, cap, a1, a2, a3, a4, a5, a6, a7, a8, a9, a10, a11⟩
  refine ⟨he, some g, ⟨⟨a5, a6, a7, a8, fun k hk hm => ?_⟩, ⟨⟨_, a1, ?_, rfl⟩, fun e => a4 (by cases e; rfl), by rw [a11]; exact h.frz⟩, ?_, a10, a11⟩⟩
  · refine a9 k hk (fun e => hm (by rw [e]; exact List.mem_cons_self ..)) (fun e => hm (List.mem_cons_of_mem _ (by rw [← h3, e]; simp)))
  · unfold RowN
    rw [List.length_append, List.length_singleton, List.map_append, List.flatten_append]
    have e2 : (List.map NV.cells [x]).flatten = NodeV x.sg ⟨x.a.toArray⟩ ⟨x.b.toArray⟩ x.p x.l x.c := by simp [NV.cells]
    rw [e2]
    exact a2
  · rcases a3 with e | e
    · exact .inl (by rw [← e, h3])
    · exact .inr ⟨g, rfl, e⟩

/-- the words, in a block that is none of M -/
def WordsR (w : World) (M : List Nat) (v : Value) (xs : List (List UInt8)) : Prop :=
  ∃ b o c, v = .slice (some ⟨b, o, none⟩) xs.length c ∧ xs.length ≤ c ∧ b < w.heap.size ∧ b ∉ M ∧ ∀ i (h : i < xs.length), w.cell? ⟨b, o + i, none⟩ = some (strV xs[i])
theorem WordsR.grow {P : Nat} {nb nb' : Option Nat} {N N' : List NV} {w w' : World} {v : Value} {xs : List (List UInt8)} (h : WordsR w (P :: nb.toList) v xs) (k : NGrow P nb N w w' nb' N') : WordsR w' (P :: nb'.toList) v xs := by
  obtain ⟨b, o, c, h1, h2, h3, h4, h5⟩ := h
  have hs := k.but.size
  refine ⟨b, o, c, h1, h2, by omega, fun hm => ?_, fun i hi => by rw [World.cell?_of_block (w := w) (a := ⟨b, o + i, none⟩) (k.but.block b h3 h4)]; exact h5 i hi⟩
  rcases k.sub b hm with e | e
  · exact h4 e
  · omega

theorem NGrow.thenBut {P : Nat} {nb nb' : Option Nat} {N N' : List NV} {w w' w'' : World} (h : NGrow P nb N w w' nb' N') (k : ButM (P :: nb'.toList) w' w'') : ButM (P :: nb.toList) w w'' :=
  ⟨k.os.trans h.but.os, k.tape.trans h.but.tape, k.output.trans h.but.output, Nat.le_trans h.but.size k.size, fun g hg hn => (k.block g (Nat.lt_of_lt_of_le hg h.but.size) (fun hm => by
    rcases h.sub g hm with e | e
    · exact hn e
    · omega)).trans (h.but.block g hg hn)⟩
/-- what term and expression of the reference answer -/
def RAns (P : Nat) (nb : Option Nat) (N : List NV) (w : World) (xs : List (List UInt8)) (i : Nat) (r : Option (Exp × List (List UInt8))) (e : Ending) (w' : World) : Prop :=
  match r with
  | none => (∃ k : Int, e = .returned (.tuple #[.int .i64 (-1), .int .i64 k])) ∧ ButM (P :: nb.toList) w w'
  | some (x, rest) => ∃ top k nb' N', e = .returned (.tuple #[.int .i64 ((top : Nat) : Int), .int .i64 ((k : Nat) : Int)]) ∧ k ≤ xs.length ∧ i < k ∧ rest = xs.drop k ∧ NGrow P nb N w w' nb' N' ∧ i + N'.length ≤ k ∧ Tree (fun g => w.heap.size ≤ g ∧ g < w'.heap.size ∧ g ∉ P :: nb'.toList) w' (N ++ N') x top
def RTermOK (f : Nat) : Prop := ∀ (P : Nat) (nb : Option Nat) (N : List NV) (v : Value) (xs : List (List UInt8)) (i : Nat) (w : World), NRep w P nb N → WordsR w (P :: nb.toList) v xs → i ≤ xs.length → xs.length - i ≤ f → xs.length ≤ 1000000 → N.length + xs.length - i ≤ 1000000 → (∀ x ∈ xs, x.length ≤ 1000000) →
  Calls Tryz.prog 79 #[.pointer (some ⟨P, 0, none⟩), v, .int .i64 (i : Int)] w (RAns P nb N w xs i (termL (xs.drop i)))
def RExprOK (f : Nat) : Prop := ∀ (P : Nat) (nb : Option Nat) (N : List NV) (v : Value) (xs : List (List UInt8)) (i : Nat) (w : World), NRep w P nb N → WordsR w (P :: nb.toList) v xs → i ≤ xs.length → xs.length - i ≤ f → xs.length ≤ 1000000 → N.length + xs.length - i ≤ 1000000 → (∀ x ∈ xs, x.length ≤ 1000000) →
  Calls Tryz.prog 52 #[.pointer (some ⟨P, 0, none⟩), v, .int .i64 (i : Int)] w (RAns P nb N w xs i (exprL (xs.drop i)))
end Go.Proofs.YtlgodpadcilcaaaGreatDoor
namespace Go.Proofs.YtlgodpadcilcaaaGreatDoor
open Go.ChangeShapes Go.WideShapes Go.ChangeAt Go.RowKit

set_option maxHeartbeats 4000000 in
theorem rterm_out (P : Nat) (nb : Option Nat) (N : List NV) (v : Value) (xs : List (List UInt8)) (i : Nat) (w : World) (hW : WordsR w (P :: nb.toList) v xs) (hi : i = xs.length) :
    Calls Tryz.prog 79 #[.pointer (some ⟨P, 0, none⟩), v, .int .i64 (i : Int)] w (RAns P nb N w xs i (termL (xs.drop i))) := by
  subst hi
  rw [List.drop_length, termL_nil]
  obtain ⟨b, o, c, rfl, hc, hb, hbM, hcell⟩ := hW
  clear hcell hbM
  generalize xs.length = n at *
  show Calls Tryz.prog 79 _ w (fun e w' => (∃ k : Int, e = .returned (.tuple #[.int .i64 (-1), .int .i64 k])) ∧ ButM (P :: nb.toList) w w')
  go_enter Tryz.func79, Tryz.ntmps79
  go_wp2
  try go_ret2
  exact ⟨⟨_, rfl⟩, ⟨rfl, rfl, rfl, Nat.le_refl _, fun _ _ _ => rfl⟩⟩

/-- one node more: the answer -/
theorem rterm_fin {P : Nat} {nb nb' : Option Nat} {N : List NV} {w w1 w2 : World} {xs : List (List UInt8)} {i : Nat} {t : Sing} {x : NV} (hi : i < xs.length) (hrep : NRep w P nb N) (hb : Below w.heap.size w w1) (hg : NGrow P nb N w1 w2 nb' [x])
    (ht : ∀ M, M[N.length]? = some x → Tree (fun g => w.heap.size ≤ g ∧ g < w2.heap.size ∧ g ∉ P :: nb'.toList) w2 M (.leaf t) N.length) :
    RAns P nb N w xs i (some (.leaf t, xs.drop (i + 1))) (.returned (.tuple #[.int .i64 ((N.length : Nat) : Int), .int .i64 ((i : Int) + 1)])) w2 := by
  have hg2 := (NGrow.refl hrep hb).trans (by rw [List.append_nil]; exact hg)
  exact ⟨N.length, i + 1, nb', [x], by simp, by omega, by omega, rfl, hg2, by simp, ht _ (by simp)⟩

set_option maxHeartbeats 4000000 in
theorem rterm_self (P : Nat) (nb : Option Nat) (N : List NV) (v : Value) (xs : List (List UInt8)) (i : Nat) (w : World) (h : NRep w P nb N) (hW : WordsR w (P :: nb.toList) v xs) (hi : i < xs.length) (hl : xs.length ≤ 1000000) (hN : N.length + xs.length - i ≤ 1000000) (hx : xs[i] = selfL) :
    Calls Tryz.prog 79 #[.pointer (some ⟨P, 0, none⟩), v, .int .i64 (i : Int)] w (RAns P nb N w xs i (termL (xs.drop i))) := by
  have hd : xs.drop i = selfL :: xs.drop (i + 1) := by rw [← hx]; exact List.drop_eq_getElem_cons hi
  have HTL : Hid (termL (xs.drop i) = some (.leaf .self, xs.drop (i + 1))) := by show _ = _; rw [hd, termL_cons, if_neg (by decide)]; rfl
  obtain ⟨b, o, c, rfl, hc, hb, hbM, hcell⟩ := hW
  have h0 : w.cell? ⟨b, o + i, none⟩ = some (.string ⟨#[115, 101, 108, 102]⟩) := by rw [hcell i hi, hx]; rfl
  have hX : Calls Tryz.prog 80 #[.pointer (some ⟨P, 0, none⟩), .agg #[.int .u8 115, .string ⟨#[]⟩, .string ⟨#[]⟩, .slice none 0 0]] w _ := node_grow P nb N ⟨115, [], [], none, 0, 0⟩ w h (by omega)
  have HF : Hid (∀ w' nb', NGrow P nb N w w' nb' [⟨115, [], [], none, 0, 0⟩] → RAns P nb N w xs i (termL (xs.drop i)) (.returned (.tuple #[.int .i64 ((N.length : Nat) : Int), .int .i64 ((i : Int) + 1)])) w') := fun w' nb' hg => by
    rw [HTL.out]
    exact rterm_fin hi h (Below.refl _ _) hg (fun M hM => by simp only [Tree]; exact hM)
  clear hcell hd hx HTL hbM h
  generalize RAns P nb N w xs i (termL (xs.drop i)) = R at *
  generalize xs.length = n at *
  generalize N.length = m at *
  go_enter Tryz.func79, Tryz.ntmps79
  go_wp2_with (go_at_call 80; refine hX.mono ?_; rintro e w' ⟨rfl, nb', hg⟩)
  try go_ret2
  exact HF.out _ _ hg

theorem drop_word {xs : List (List UInt8)} {i : Nat} (hi : i < xs.length) (h1 : xs[i] ≠ [40]) : termL (xs.drop i) = match singL xs[i] with | none => none | some s => some (.leaf s, xs.drop (i + 1)) := by
  rw [List.drop_eq_getElem_cons hi, termL_cons, if_neg h1]
  cases singL xs[i] <;> rfl

set_option maxRecDepth 100000 in
set_option maxHeartbeats 8000000 in
theorem rterm_word (P : Nat) (nb : Option Nat) (N : List NV) (v : Value) (xs : List (List UInt8)) (i : Nat) (w : World) (h : NRep w P nb N) (hW : WordsR w (P :: nb.toList) v xs) (hi : i < xs.length) (hl : xs.length ≤ 1000000) (hN : N.length + xs.length - i ≤ 1000000) (hz : ∀ x ∈ xs, x.length ≤ 1000000) (hx : xs[i] ≠ selfL) (hx2 : xs[i] ≠ [40]) :
    Calls Tryz.prog 79 #[.pointer (some ⟨P, 0, none⟩), v, .int .i64 (i : Int)] w (RAns P nb N w xs i (termL (xs.drop i))) := by
  have HTL : Hid (termL (xs.drop i) = match dotL (splitL 46 xs[i]) with | none => none | some s => some (.leaf s, xs.drop (i + 1))) := by
    show _ = _; rw [drop_word hi hx2]; unfold singL; rw [if_neg hx]
  obtain ⟨b, o, c, rfl, hc, hb, hbM, hcell⟩ := hW
  have h0 : w.cell? ⟨b, o + i, none⟩ = some (.string ⟨xs[i].toArray⟩) := hcell i hi
  have hq1 : ((⟨xs[i].toArray⟩ : ByteArray).toList == [40]) = false := by rw [ByteArray.toList_eq, beq_eq_false_iff_ne]; exact hx2
  have hq2 : ((⟨xs[i].toArray⟩ : ByteArray).toList == [115, 101, 108, 102]) = false := by rw [ByteArray.toList_eq, beq_eq_false_iff_ne]; exact hx
  have hzx := hz _ (List.getElem_mem hi)
  have hX : Calls Tryz.prog 19 #[.string ⟨xs[i].toArray⟩, .int .u8 46] w _ := pieces_new ⟨xs[i].toArray⟩ 46 w (by show xs[i].toArray.size ≤ _; simpa using hzx)
  have e0 : (⟨xs[i].toArray⟩ : ByteArray).data.toList = xs[i] := rfl
  rw [e0] at hX
  have hql := splitL_mlen 46 xs[i]
  have hne := splitL_ne 46 xs[i]
  generalize splitL 46 xs[i] = q at *
  have hqz : ∀ x ∈ q, x.length ≤ 1000000 := fun x hx => by have := hql x hx; omega
  have HF : Hid (∀ w1 w' nb' t x, Below w.heap.size w w1 → dotL q = some t → (∀ S M, M[N.length]? = some x → Tree S w' M (.leaf t) N.length) → NGrow P nb N w1 w' nb' [x] → RAns P nb N w xs i (termL (xs.drop i)) (.returned (.tuple #[.int .i64 ((N.length : Nat) : Int), .int .i64 ((i : Int) + 1)])) w') := fun w1 w' nb' t x hb ht hT hg => by
    rw [HTL.out, ht]
    exact rterm_fin hi h hb hg (fun M hM => hT _ M hM)
  have HE : Hid (∀ w' (k : Int), dotL q = none → Below w.heap.size w w' → RAns P nb N w xs i (termL (xs.drop i)) (.returned (.tuple #[.int .i64 (-1), .int .i64 k])) w') := fun w' k ht hbq => by
    rw [HTL.out, ht]
    exact ⟨⟨k, rfl⟩, ButM.of_below hbq⟩
  have HR : Hid (NRep w P nb N) := h
  clear hcell hx hx2 HTL hbM h hz hzx e0 hql
  generalize RAns P nb N w xs i (termL (xs.drop i)) = R at *
  generalize (⟨xs[i].toArray⟩ : ByteArray) = X at *
  generalize xs.length = n at *
  go_enter Tryz.func79, Tryz.ntmps79
  go_wp2_with fail
  refine hX.mono ?_
  clear hX
  rintro e w1 ⟨b1, c1, rfl, hc1, hb0, hb1, hcell1, hbl⟩
  have hb2 : b1 ∉ P :: nb.toList := fun hm => by
    have hlt := HR.out.lt
    rcases List.mem_cons.1 hm with rfl | hm
    · omega
    · have := hlt.2 b1 (by simpa using hm); omega
  have HBl : Hid (Below w.heap.size w w1) := hbl
  have HRep : Hid (NRep w1 P nb N) := HR.out.below hbl
  match q, hne with
  | [a], _ =>
    have d0 : w1.cell? ⟨b1, 0, none⟩ = some (.string ⟨a.toArray⟩) := hcell1 0 (by simp)
    have hz0 := hqz a (by simp)
    have hNm : ∀ u, Calls Tryz.prog 51 #[.string ⟨a.toArray⟩] u fun e w' => e = .returned (.bool (nameL a)) ∧ w' = u := fun u => rname_any ⟨a.toArray⟩ u (by show a.toArray.size ≤ _; simpa using hz0)
    have hX : Calls Tryz.prog 80 #[.pointer (some ⟨P, 0, none⟩), .agg #[.int .u8 110, .string ⟨a.toArray⟩, .string ⟨#[]⟩, .slice none 0 0]] w1 _ := node_grow P nb N ⟨110, a, [], none, 0, 0⟩ w1 HRep.out (by omega)
    have HD := dotL_one a
    have HDH : Hid _ := HD
    clear HD hcell1 hbl hqz hz0
    simp only [List.length_cons, List.length_nil, Nat.zero_add] at *
    generalize nameL a = qa at *
    generalize (⟨a.toArray⟩ : ByteArray) = Xa at *
    cases qa with
    | true =>
      go_wp2_with (first | (go_at_call 51; refine (hNm _).mono ?_; rintro e w' ⟨rfl, rfl⟩) | (go_at_call 80; refine hX.mono ?_; rintro e w' ⟨rfl, nb', hg⟩))
      try go_ret2
      exact HF.out _ _ _ _ _ HBl.out HDH.out (fun S M hM => by simp only [Tree]; exact hM) hg
    | false =>
      go_wp2_with (go_at_call 51; refine (hNm _).mono ?_; rintro e w' ⟨rfl, rfl⟩)
      try go_ret2
      exact HE.out _ _ HDH.out ⟨HBl.out.os, HBl.out.tape, HBl.out.output, HBl.out.size, HBl.out.block⟩
  | [a, a2], _ =>
    have d0 : w1.cell? ⟨b1, 0, none⟩ = some (.string ⟨a.toArray⟩) := hcell1 0 (by simp)
    have d1 : w1.cell? ⟨b1, 1, none⟩ = some (.string ⟨a2.toArray⟩) := hcell1 1 (by simp)
    have hz0 := hqz a (by simp)
    have hz1 := hqz a2 (by simp)
    have hNm : ∀ u, Calls Tryz.prog 51 #[.string ⟨a.toArray⟩] u fun e w' => e = .returned (.bool (nameL a)) ∧ w' = u := fun u => rname_any ⟨a.toArray⟩ u (by show a.toArray.size ≤ _; simpa using hz0)
    have hNm2 : ∀ u, Calls Tryz.prog 51 #[.string ⟨a2.toArray⟩] u fun e w' => e = .returned (.bool (nameL a2)) ∧ w' = u := fun u => rname_any ⟨a2.toArray⟩ u (by show a2.toArray.size ≤ _; simpa using hz1)
    have hX : Hid (∀ u, Below w1.heap.size w1 u → Calls Tryz.prog 80 #[.pointer (some ⟨P, 0, none⟩), .agg #[.int .u8 46, .string ⟨a.toArray⟩, .string ⟨a2.toArray⟩, .slice none 0 0]] u fun e w' => e = .returned (.int .i64 (N.length : Nat)) ∧ ∃ nb', NGrow P nb N u w' nb' [⟨46, a, a2, none, 0, 0⟩]) := fun u hu => node_grow P nb N ⟨46, a, a2, none, 0, 0⟩ u (HRep.out.below hu) (by omega)
    have HK : Hid (∀ w' nb' x, NGrow P nb N w1.drew w' nb' [x] → w'.cell? ⟨b1, 0, none⟩ = some (.string ⟨a.toArray⟩) ∧ w'.cell? ⟨b1, 1, none⟩ = some (.string ⟨a2.toArray⟩)) := fun w' nb' x hg => by
      have hbb := hg.but.block b1 hb1 hb2
      exact ⟨by rw [World.cell?_of_block (w := w1.drew) (a := ⟨b1, 0, none⟩) hbb]; exact d0, by rw [World.cell?_of_block (w := w1.drew) (a := ⟨b1, 1, none⟩) hbb]; exact d1⟩
    have HD := dotL_two a a2
    have HDH : Hid _ := HD
    clear HD hcell1 hbl hqz hz0 hz1
    simp only [List.length_cons, List.length_nil, Nat.zero_add, Nat.reduceAdd] at *
    generalize nameL a = qa at *
    generalize nameL a2 = qa2 at *
    generalize (⟨a.toArray⟩ : ByteArray) = Xa at *
    generalize (⟨a2.toArray⟩ : ByteArray) = Xa2 at *
    cases qa with
    | true =>
      cases qa2 with
      | true =>
        go_wp2_with fail
        refine (hNm _).mono ?_
        rintro e w' ⟨rfl, rfl⟩
        go_wp2_with fail
        refine (hNm2 _).mono ?_
        rintro e w' ⟨rfl, rfl⟩
        go_upto_region 19 with fail
        go_region_held (fun w' => w'.cell? ⟨b1, 0, none⟩ = some (.string Xa) ∧ w'.cell? ⟨b1, 1, none⟩ = some (.string Xa2)) (first | go_keep | exact HK.out _ _ _ hg) ((go_at_call 80; refine (hX.out _ ((Below.refl _ _).drew)).mono ?_; rintro e w' ⟨rfl, nb', hg⟩))
        all_goals go_wp2
        all_goals (try go_ret2)
        all_goals exact HF.out _ _ _ _ _ (HBl.out.trans ((Below.refl _ _).drew)) HDH.out (fun S M hM => by simp only [Tree]; exact hM) hg
      | false =>
        go_wp2_with fail
        refine (hNm _).mono ?_
        rintro e w' ⟨rfl, rfl⟩
        go_wp2_with fail
        refine (hNm2 _).mono ?_
        rintro e w' ⟨rfl, rfl⟩
        go_wp2
        try go_ret2
        exact HE.out _ _ HDH.out ⟨HBl.out.os, HBl.out.tape, HBl.out.output, HBl.out.size, HBl.out.block⟩
    | false =>
      go_wp2_with (go_at_call 51; refine (hNm _).mono ?_; rintro e w' ⟨rfl, rfl⟩)
      try go_ret2
      exact HE.out _ _ HDH.out ⟨HBl.out.os, HBl.out.tape, HBl.out.output, HBl.out.size, HBl.out.block⟩
  | a :: a2 :: a3 :: r, _ =>
    have d0 : w1.cell? ⟨b1, 0, none⟩ = some (.string ⟨a.toArray⟩) := hcell1 0 (by simp)
    have hz0 := hqz a (by simp)
    have hNm : ∀ u, Calls Tryz.prog 51 #[.string ⟨a.toArray⟩] u fun e w' => e = .returned (.bool (nameL a)) ∧ w' = u := fun u => rname_any ⟨a.toArray⟩ u (by show a.toArray.size ≤ _; simpa using hz0)
    have HDH : Hid (dotL (a :: a2 :: a3 :: r) = none) := dotL_more a a2 a3 r
    have hg1 : ¬ ((((a :: a2 :: a3 :: r).length : Nat) : Int) = 1) := by simp; omega
    have hg2 : ¬ ((((a :: a2 :: a3 :: r).length : Nat) : Int) = 2) := by simp; omega
    have hg3 : 0 < (a :: a2 :: a3 :: r).length := by simp
    clear hcell1 hbl hqz hz0
    generalize (a :: a2 :: a3 :: r).length = len at *
    generalize nameL a = qa at *
    generalize (⟨a.toArray⟩ : ByteArray) = Xa at *
    go_wp2_with (go_at_call 51; refine (hNm _).mono ?_; rintro e w' ⟨rfl, rfl⟩)
    try go_ret2
    exact HE.out _ _ HDH.out ⟨HBl.out.os, HBl.out.tape, HBl.out.output, HBl.out.size, HBl.out.block⟩
end Go.Proofs.YtlgodpadcilcaaaGreatDoor
