import Derived.Test.YtlgodpadcilcaaaGreatDoorP15
namespace Go.Proofs.YtlgodpadcilcaaaGreatDoor
open Go.ChangeShapes Go.WideShapes Go.ChangeAt Go.RowKit

theorem infoIs : (Tryz.prog.info? 70).map (fun i => (i.zero, i.size, i.bytes)) = some (some (.slice none 0 0), 1, 24) := by kernel_rfl

/-- what order keeps from round to round -/
structure OrI (w : World) (n : Nat) (v : Value) (r : Nat) (wr : World) : Prop where
  done : ∃ d : Nat → Bool, wr.rowIs w.heap.size 4 n (fun j => .bool (d j))
  out : ∃ xs, wr.ownsRow (w.heap.size + 1) 70 1 v r xs
  below : Below w.heap.size w wr
/-- what it keeps within a round -/
structure OrJ (V : World) (n : Nat) (v : Value) (a : Nat) (wr : World) : Prop where
  row : ∃ L : List Nat, L.length ≤ a ∧ (∀ x ∈ L, x < n) ∧ wr.ownsRow V.heap.size 3 1 v L.length (L.map (fun x : Nat => Value.int .i64 (x : Int)))
  below : Below V.heap.size V wr

theorem OrJ.more {V : World} {n : Nat} {v : Value} {a : Nat} {U : World} (h : OrJ V n v a U) : OrJ V n v (a + 1) U := by
  obtain ⟨L, h1, h2⟩ := h.row
  exact ⟨⟨L, by omega, h2⟩, h.below⟩
theorem OrJ.drew {V : World} {n : Nat} {v : Value} {a : Nat} {U : World} (h : OrJ V n v a U) (k : Nat) : OrJ V n v a (U.drewN k) := by
  obtain ⟨L, h1, h2, h3⟩ := h.row
  exact ⟨⟨L, h1, h2, owns_same h3 (fun _ _ => rfl)⟩, h.below.trans (below_drewN _ _ _)⟩
theorem OrJ.push {V : World} {n : Nat} {v : Value} {a : Nat} {U w4 : World} {L : List Nat} {g4 cap4 : Nat} {o : Obj} (h : OrJ V n v a U) (ha : a < n) (h1 : L.length ≤ a) (h2 : ∀ x ∈ L, x < n) (h3 : U.ownsRow V.heap.size 3 1 v L.length (L.map (fun x : Nat => Value.int .i64 (x : Int)))) (hg : (U.alloc o).grownBy w4 v.ownBlock)
    (hown : w4.ownsRow V.heap.size 3 1 (.slice (some ⟨g4, 0, none⟩) (L.length + 1) cap4) (L.length + 1) (L.map (fun x : Nat => Value.int .i64 (x : Int)) ++ [.int .i64 (a : Int)])) : OrJ V n (.slice (some ⟨g4, 0, none⟩) (L.length + 1) cap4) (a + 1) w4 := by
  refine ⟨⟨L ++ [a], by simp; omega, fun x hx => ?_, by simpa using hown⟩, ?_⟩
  · rcases List.mem_append.1 hx with hx | hx
    · exact h2 x hx
    · simp at hx; omega
  · have hs := h.below.size
    have b2 := h.below.alloc hs o
    exact ⟨hg.os.trans b2.os, hg.tape.trans b2.tape, hg.output.trans b2.output, Nat.le_trans b2.size hg.size, fun k hk => (hg.block k (by simp; omega) (fun hm => by have := (World.ownsRow.lt h3 k hm.symm).1; omega)).trans (b2.block k hk)⟩
/-- what it keeps while it marks a round as done -/
structure OrK (w U : World) (n : Nat) (wr : World) : Prop where
  row : ∃ d : Nat → Bool, wr.rowIs w.heap.size 4 n (fun j => .bool (d j))
  size : wr.heap.size = U.heap.size
  block : ∀ k, k ≠ w.heap.size → wr.heap[k]? = U.heap[k]?
  below : Below w.heap.size w wr
theorem OrK.set {w U : World} {n : Nat} {wr : World} {d : Nat → Bool} (h : OrK w U n wr) (hr : wr.rowIs w.heap.size 4 n (fun j => .bool (d j))) (x : Nat) : OrK w U n (wr.setCell ⟨w.heap.size, x, none⟩ (.bool true)) := by
  refine ⟨⟨fun j => if j = x then true else d j, (hr.set x (.bool true)).congr (fun j _ => ?_)⟩, by rw [World.size_setCell]; exact h.size, fun k hk => (Below.heap_setCell _ _ _ _ hk).trans (h.block k hk), h.below.setCell (Nat.le_refl _) _⟩
  by_cases e : j = x <;> simp [e]
theorem OrK.close {w U : World} {n : Nat} {wr w4 : World} {v : Value} {r : Nat} {xs ys : List Value} {v4 : Value} {o : Obj} (h : OrK w U n wr) (hx : wr.ownsRow (w.heap.size + 1) 70 1 v r xs) (hg : (wr.alloc o).grownBy w4 v.ownBlock) (hown : w4.ownsRow (w.heap.size + 1) 70 1 v4 (r + 1) ys) : OrI w n v4 (r + 1) w4 := by
  obtain ⟨d, hrow⟩ := h.row
  have hl := hrow.lt
  have hne : ∀ k, k ≤ w.heap.size → v.ownBlock ≠ some k := fun k hk e => by have := (World.ownsRow.lt hx k e).1; omega
  have b2 := h.below.alloc h.below.size o
  refine ⟨⟨d, hrow.of_block ((hg.block _ (by simp; omega) (fun hm => hne _ (Nat.le_refl _) hm.symm)).trans (Below.heap_alloc _ _ _ hl))⟩, ⟨_, hown⟩, ?_⟩
  exact ⟨hg.os.trans b2.os, hg.tape.trans b2.tape, hg.output.trans b2.output, Nat.le_trans b2.size hg.size, fun k hk => (hg.block k (by simp; omega) (fun hm => hne k (by omega) hm.symm)).trans (b2.block k hk)⟩

set_option maxRecDepth 100000 in
set_option maxHeartbeats 8000000 in
theorem order_any (P n c1 B3 B1 : Nat) (p1 : Option Addr) (v3 v1 : Value) (Rs3 Rs1 : List Nat) (Wl : Nat → Nat → Nat) (X : Nat → Nat → Bool) (w : World) (hn : n ≤ 36) (h1 : w.cell? ⟨P, 1, none⟩ = some (.slice p1 n c1)) (h3 : w.cell? ⟨P, 3, none⟩ = some v3)
    (hT : Tab2 w B3 70 3 v3 Rs3 n (fun i j => .int .i64 (Wl i j : Nat))) (hL : Rs3.length = n) (hT1 : Tab2 w B1 74 4 v1 Rs1 n (fun i j => .bool (X i j))) (hL1 : Rs1.length = n) :
    Calls Tryz.prog 24 #[.pointer (some ⟨P, 0, none⟩), v1] w fun e w' => ∃ p l c, e = .returned (.slice p l c) ∧ Below w.heap.size w w' := by
  obtain ⟨i0, hi0, hz0, hz1, hz2⟩ := info_parts infoIs
  obtain ⟨i9, hi9, hy0, hy1, hy2⟩ := info_parts infoI
  have hmk := run_make_row' (P := Tryz.prog) 74 4 (.bool false) 1 Tryz.underlying74 infoB rfl .i64 .i64 n (by omega) (by omega)
  have hP : P < w.heap.size := World.block_lt_of_cell? w ⟨P, 1, none⟩ h1
  obtain ⟨p3, c3, rfl, hp3⟩ := hT.form' hL
  obtain ⟨p2, c2, rfl, hp2⟩ := hT1.form' hL1
  have HC : Hid (∀ w', Below w.heap.size w w' → ∀ a b, a < n → b < n → w'.cell? ⟨P, 3, none⟩ = some (.slice p3 n c3) ∧ (∀ g, p3 = some ⟨g, 0, none⟩ → w'.cell? ⟨g, a, none⟩ = some (.slice (some ⟨rowN Rs3 a, 0, none⟩) n n)) ∧ w'.cell? ⟨rowN Rs3 a, b, none⟩ = some (.int .i64 (Wl a b : Nat)) ∧ (∀ g, p2 = some ⟨g, 0, none⟩ → w'.cell? ⟨g, a, none⟩ = some (.slice (some ⟨rowN Rs1 a, 0, none⟩) n n)) ∧ w'.cell? ⟨rowN Rs1 a, b, none⟩ = some (.bool (X a b))) := fun w' hb a b ha hb' => by
    refine ⟨by rw [hb.cell (p := ⟨P, 3, none⟩) hP]; exact h3, fun g e => ?_, ?_, fun g e => ?_, ?_⟩
    · subst e; rw [hb.cell (p := ⟨g, a, none⟩) hT.head_lt.2]; exact hT.at' hL a ha
    · rw [hb.cell (p := ⟨rowN Rs3 a, b, none⟩) (hT.lt' a (by omega)).2]; exact hT.cell' a b (by omega) hb'
    · subst e; rw [hb.cell (p := ⟨g, a, none⟩) hT1.head_lt.2]; exact hT1.at' hL1 a ha
    · rw [hb.cell (p := ⟨rowN Rs1 a, b, none⟩) (hT1.lt' a (by omega)).2]; exact hT1.cell' a b (by omega) hb'
  clear hT hT1 hL hL1 h3
  go_enter Tryz.func24, Tryz.ntmps24
  go_upto_region 3 with fail
  have hI0 : OrI w n (.slice none 0 0) 0 (w.alloc (.cells (madeCells #[.bool false] n) 4)) := ⟨⟨fun _ => false, World.rowIs_made w (.bool false) n 4⟩, ⟨[], rfl, .inl ⟨rfl, rfl⟩⟩, (Below.refl _ _).alloc (Nat.le_refl _) _⟩
  generalize w.alloc (.cells (madeCells #[.bool false] n) 4) = W at *
  have HI0 : Hid _ := hI0
  clear hI0
  go_wp2
  go_loopw [7, 8] (fun s7 s8 wr => ∃ r : Nat, r ≤ n + 1 ∧ s8 = .int .i64 (r : Int) ∧ Hid (OrI w n s7 r wr)) (fun _ s8 _ => n + 1 - (intOf s8).toNat)
  case atStart => exact ⟨0, Nat.zero_le _, rfl, HI0⟩
  case round =>
    clear HI0
    obtain ⟨r, hr, rfl, HI⟩ := hrel
    rename World => V
    by_cases hlt : r ≤ n
    · obtain ⟨⟨d, hd⟩, _, hb⟩ := HI.out
      have hsz := hb.size
      have hDl := hd.lt
      have HD : Hid (∀ w', Below V.heap.size V w' → ∀ j, j < n → w'.cell? ⟨w.heap.size, j, none⟩ = some (.bool (d j))) := fun w' hb' j hj => by rw [hb'.cell (p := ⟨w.heap.size, j, none⟩) hDl]; exact hd.cell hj
      have HR : Hid (V.rowIs w.heap.size 4 n (fun j => .bool (d j))) := hd
      have HB : Hid (Below w.heap.size w V) := hb
      clear hd hb
      go_wp2
      go_loopw [9, 10] (fun s9 s10 wq => ∃ a : Nat, a ≤ n ∧ s10 = .int .i64 (a : Int) ∧ Hid (OrJ V n s9 a wq)) (fun _ s10 _ => n - (intOf s10).toNat)
      case atStart => exact ⟨0, Nat.zero_le _, rfl, ⟨[], Nat.zero_le _, by simp, rfl, .inl ⟨rfl, rfl⟩⟩, Below.refl _ _⟩
      case round =>
        obtain ⟨a, ha, rfl, HJ⟩ := hrel
        rename World => U
        by_cases hla : a < n
        · have hd0 := HD.out U HJ.out.below a hla
          have HCU : Hid (∀ k, Below w.heap.size w (U.drewN k) ∧ Below V.heap.size V (U.drewN k)) := fun k => ⟨HB.out.trans ((HJ.out.below.trans (below_drewN _ _ _)).mono hsz), HJ.out.below.trans (below_drewN _ _ _)⟩
          go_upto_region 12 with fail
          clear hd0
          go_wp2
          go_loopw [11, 12] (fun s11 s12 wq => ∃ (b k : Nat) (q : Bool), b ≤ n ∧ s12 = .int .i64 (b : Int) ∧ s11 = .bool q ∧ wq = U.drewN k) (fun _ s12 _ => n - (intOf s12).toNat)
          case atStart => exact ⟨0, 0, _, Nat.zero_le _, rfl, rfl, rfl⟩
          case round =>
            obtain ⟨b, k, q, hb, rfl, rfl, rfl⟩ := hrel
            by_cases hlb : b < n ∧ q = true
            · obtain ⟨hlb, rfl⟩ := hlb
              go_wp2
              go_loopw [11, 13] (fun s11 s13 wq => ∃ (c k : Nat) (q : Bool), c ≤ n ∧ s13 = .int .i64 (c : Int) ∧ s11 = .bool q ∧ wq = U.drewN k) (fun _ s13 _ => n - (intOf s13).toNat)
              case atStart => exact ⟨0, _, _, Nat.zero_le _, rfl, rfl, rfl⟩
              case round =>
                obtain ⟨c, k, q, hc, rfl, rfl, rfl⟩ := hrel
                by_cases hlc : c < n
                · obtain ⟨g3, rfl⟩ := hp3 (by omega)
                  obtain ⟨g2, rfl⟩ := hp2 (by omega)
                  obtain ⟨e1, e2, e3, -, -⟩ := HC.out (U.drewN k) (HCU.out k).1 b c hlb hlc
                  obtain ⟨-, -, -, e4, e5⟩ := HC.out (U.drewN k) (HCU.out k).1 a b hla hlb
                  have e6 := HD.out (U.drewN k) (HCU.out k).2 c hlc
                  have e7 := e2 g3 rfl
                  have e8 := e4 g2 rfl
                  clear e2 e4
                  by_cases hba : b = a
                  · subst hba
                    by_cases hw2 : Wl b c = 2
                    · rw [hw2] at e3
                      cases hdc : d c with
                      | true =>
                        rw [hdc] at e6
                        go_wp2
                        go_roundw
                        case rel => exact ⟨c + 1, _, _, by omega, by go_num, rfl, rfl⟩
                        case measure => simp [intOf]; omega
                      | false =>
                        rw [hdc] at e6
                        go_wp2
                        go_roundw
                        case rel => exact ⟨c + 1, _, _, by omega, by go_num, rfl, rfl⟩
                        case measure => simp [intOf]; omega
                    · have q2 : ¬ ((Wl b c : Nat) : Int) = 2 := by omega
                      have q3 : (((Wl b c : Nat) : Int) == 2) = false := by rw [beq_eq_false_iff_ne]; omega
                      go_wp2
                      go_roundw
                      case rel => exact ⟨c + 1, _, _, by omega, by go_num, rfl, rfl⟩
                      case measure => simp [intOf]; omega
                  · have q0 : ¬ ((b : Nat) : Int) = (a : Nat) := by omega
                    have q1 : (((b : Nat) : Int) == ((a : Nat) : Int)) = false := by rw [beq_eq_false_iff_ne]; omega
                    cases hx : X a b with
                    | false =>
                      rw [hx] at e5
                      go_wp2
                      go_roundw
                      case rel => exact ⟨c + 1, _, _, by omega, by go_num, rfl, rfl⟩
                      case measure => simp [intOf]; omega
                    | true =>
                      rw [hx] at e5
                      by_cases hw2 : Wl b c = 2
                      · rw [hw2] at e3
                        cases hdc : d c with
                        | true =>
                          rw [hdc] at e6
                          go_wp2
                          go_roundw
                          case rel => exact ⟨c + 1, _, _, by omega, by go_num, rfl, rfl⟩
                          case measure => simp [intOf]; omega
                        | false =>
                          rw [hdc] at e6
                          go_wp2
                          go_roundw
                          case rel => exact ⟨c + 1, _, _, by omega, by go_num, rfl, rfl⟩
                          case measure => simp [intOf]; omega
                      · have q2 : ¬ ((Wl b c : Nat) : Int) = 2 := by omega
                        have q3 : (((Wl b c : Nat) : Int) == 2) = false := by rw [beq_eq_false_iff_ne]; omega
                        go_wp2
                        go_roundw
                        case rel => exact ⟨c + 1, _, _, by omega, by go_num, rfl, rfl⟩
                        case measure => simp [intOf]; omega
                · go_wp2
                  go_roundw
                  case rel => exact ⟨b + 1, _, _, by omega, by go_num, rfl, rfl⟩
                  case measure => simp [intOf]; omega
            · have HJk : Hid (OrJ V n u9 a (U.drewN k)) := HJ.out.drew k
              clear HJ HCU
              generalize U.drewN k = Uk at *
              cases q with
              | false =>
                by_cases hbn : b < n
                · go_wp2
                  go_roundw
                  case rel => exact ⟨a + 1, by omega, by go_num, HJk.out.more⟩
                  case measure => simp [intOf]; omega
                · go_wp2
                  go_roundw
                  case rel => exact ⟨a + 1, by omega, by go_num, HJk.out.more⟩
                  case measure => simp [intOf]; omega
              | true =>
                have hbn : ¬ b < n := fun h => hlb ⟨h, rfl⟩
                obtain ⟨L, hL1, hL2, hown⟩ := HJk.out.row
                have HL2 : Hid (∀ x ∈ L, x < n) := hL2
                have hsle : V.heap.size ≤ Uk.heap.size := HJk.out.below.size
                have HO : Hid _ := hown
                have hown2 := hown.alloc (.cells #[.int .i64 (a : Int)] 3)
                clear hown hL2
                go_wp2_with (at_builtin; go_loud (refine wpList_append_lies _ rfl _ _ 70 rfl V.heap.size 3 i9 _ 1 8 Tryz.underlying70 hi9 hy0 hy1 hy2 rfl (by decide) _ _ _ rfl hown2 ⟨Uk.heap.size, 0, none⟩ 1 1 [.int .i64 (a : Int)] rfl rfl ?_ (fun x hx => by simp at hx; subst hx; rfl) (by decide) (by unfold maxLen; omega) (by omega) (by simp; omega) (Uk.heap.size + 1) (by simp) ?_; (exact World.news_of_block (cs := #[.int .i64 (a : Int)]) (t := 3) (fr := (0, 0)) (heap_alloc_new Uk _)); intro g4 cap4 w4 hown4 hgrow4 hat4 hlt4))
                go_roundw
                case rel => exact ⟨a + 1, by omega, by go_num, HJk.out.push hla hL1 HL2.out HO.out hgrow4 hown4⟩
                case measure => simp [intOf]; omega
        · obtain rfl : a = n := by omega
          obtain ⟨L, hL1, hL2, hown⟩ := HJ.out.row
          have HK0 : Hid (OrK w U a U) := ⟨⟨d, HR.out.of_block (HJ.out.below.block _ hDl)⟩, rfl, fun _ _ => rfl, HB.out.trans (HJ.out.below.mono hsz)⟩
          obtain ⟨m, hm⟩ : ∃ m, L.length = m := ⟨_, rfl⟩
          have HM : Hid (L.length = m) := hm
          rw [hm] at hown hL1
          have HO : Hid _ := hown
          obtain ⟨p9, c9, hu9, hp9⟩ : ∃ p c, u9 = .slice p m c ∧ (0 < m → ∃ g, p = some ⟨g, 0, none⟩ ∧ V.heap.size ≤ g) := by
            rcases hown.2 with ⟨e, h0⟩ | ⟨g, cap', cur, e, h0⟩
            · rw [h0]; exact ⟨_, _, e, fun h => by omega⟩
            · exact ⟨_, _, e, fun _ => ⟨g, rfl, h0.1⟩⟩
          subst hu9
          have HX : Hid (∀ i, i < m → L.getD i 0 < a) := fun i hi => by
            have hi' : i < L.length := by have := HM.out; omega
            simp only [List.getD_eq_getElem?_getD, List.getElem?_eq_getElem hi', Option.getD_some]
            exact hL2 _ (List.getElem_mem _)
          have HCell : Hid (∀ i, i < m → ∀ g, p9 = some ⟨g, 0, none⟩ → U.cell? ⟨g, i, none⟩ = some (.int .i64 ((L.getD i 0 : Nat) : Int))) := fun i hi g e => by
            subst e
            have hi' : i < L.length := by have := HM.out; omega
            have hO : U.ownsRow V.heap.size 3 1 (.slice (some ⟨g, 0, none⟩) m c9) m (L.map (fun x : Nat => Value.int .i64 (x : Int))) := HO.out
            rw [hO.cellAt i (by omega)]
            simp [hi']
          clear hown hL2 hm
          go_wp2
          go_loopw [14] (fun s14 wq => ∃ i : Nat, i ≤ m ∧ s14 = .int .i64 (i : Int) ∧ Hid (OrK w U a wq)) (fun s14 _ => m - (intOf s14).toNat)
          case atStart => exact ⟨0, Nat.zero_le _, rfl, HK0⟩
          case round =>
            clear HK0
            obtain ⟨i, hi, rfl, HK⟩ := hrel
            by_cases hlm : i < m
            · obtain ⟨g9, rfl, hg9⟩ := hp9 (by omega)
              obtain ⟨d2, hrow⟩ := HK.out.row
              have hxi := HX.out i hlm
              have e1 : wr.cell? ⟨g9, i, none⟩ = some (.int .i64 ((L.getD i 0 : Nat) : Int)) := (World.cell?_of_block (w := U) (a := ⟨g9, i, none⟩) (HK.out.block g9 (by omega))).trans (HCell.out i hlm g9 rfl)
              generalize L.getD i 0 = x at *
              have e2 := hrow.cell hxi
              have e3 := hrow.frozen x
              have HRw : Hid _ := hrow
              clear hrow
              go_wp2
              go_roundw
              case rel => exact ⟨i + 1, by omega, by go_num, HK.out.set HRw.out x⟩
              case measure => simp [intOf]; omega
            · obtain rfl : i = m := by omega
              obtain ⟨xs, hx⟩ := HI.out.out
              have hxq : wr.ownsRow (w.heap.size + 1) 70 1 u7 r xs := owns_same hx (fun g hg => by
                have := World.ownsRow.lt hx g hg
                exact (HK.out.block g (by omega)).trans (HJ.out.below.block g this.2))
              have hown2 := hxq.alloc (.cells #[.slice p9 i c9] 70)
              have hsle : w.heap.size + 1 ≤ wr.heap.size := by
                obtain ⟨d2, hrow⟩ := HK.out.row
                exact hrow.lt
              have HXQ : Hid _ := hxq
              clear hx hxq
              go_wp2_with (at_builtin; go_loud (refine wpList_append_lies _ rfl _ _ 62 rfl (w.heap.size + 1) 70 i0 _ 1 24 Tryz.underlying62 hi0 hz0 hz1 hz2 rfl (by decide) _ _ _ rfl hown2 ⟨wr.heap.size, 0, none⟩ 1 1 [.slice p9 i c9] rfl rfl ?_ (fun x hx => by simp at hx; subst hx; rfl) (by decide) (by unfold maxLen; omega) (by omega) (by simp; omega) (wr.heap.size + 1) (by simp) ?_; (exact World.news_of_block (cs := #[.slice p9 i c9]) (t := 70) (fr := (0, 0)) (heap_alloc_new wr _)); intro g4 cap4 w4 hown4 hgrow4 hat4 hlt4))
              go_roundw
              case rel => exact ⟨r + 1, by omega, by go_num, HK.out.close HXQ.out hgrow4 hown4⟩
              case measure => simp [intOf]; omega
    · obtain ⟨xs, hx⟩ := HI.out.out
      obtain ⟨p7, c7, hu7⟩ : ∃ p c, u7 = .slice p r c := by
        rcases hx.2 with ⟨e, h0⟩ | ⟨g, cap', cur, e, h0⟩
        · rw [h0]; exact ⟨_, _, e⟩
        · exact ⟨_, _, e⟩
      subst hu7
      have HB : Hid (Below w.heap.size w V) := HI.out.below
      clear hx HI
      go_wp2
      go_ret
      exact ⟨_, _, _, rfl, HB.out⟩
end Go.Proofs.YtlgodpadcilcaaaGreatDoor
namespace Go.Proofs.YtlgodpadcilcaaaGreatDoor
open Go.ChangeShapes Go.WideShapes Go.ChangeAt Go.RowKit

/-- the bytes of the first i lines, with their ends -/
def used (ls : List (List UInt8)) (i : Nat) : Nat := ((ls.take i).map (fun l => l.length + 1)).sum
theorem used_next {ls : List (List UInt8)} {i : Nat} (h : i < ls.length) : used ls (i + 1) = used ls i + (ls[i].length + 1) := by
  unfold used
  rw [List.take_succ_eq_append_getElem h, List.map_append, List.sum_append]
  simp
theorem used_le (ls : List (List UInt8)) (i : Nat) : used ls i ≤ (ls.map (fun l => l.length + 1)).sum := by
  have e : (ls.map (fun l => l.length + 1)).sum = used ls i + ((ls.drop i).map (fun l => l.length + 1)).sum := by
    unfold used
    rw [← List.sum_append, ← List.map_append, List.take_append_drop]
  omega
theorem splitL_sum (c : UInt8) : ∀ l : List UInt8, ((splitL c l).map (fun l => l.length + 1)).sum = l.length + 1
  | [] => by simp [splitL]
  | b :: r => by
    have ih := splitL_sum c r
    unfold splitL
    split
    · rw [List.map_cons, List.sum_cons, ih]
      simp
      omega
    · split
      · rename_i h; exact absurd h (splitL_ne _ _)
      · rename_i h t e
        rw [e, List.map_cons, List.sum_cons] at ih
        rw [List.map_cons, List.sum_cons]
        simp only [List.length_cons]
        omega

theorem PlanRep.empty {w : World} {P t : Nat} (hP : w.heap[P]? = some (.cells #[.slice none 0 0, .slice none 0 0, .slice none 0 0, .slice none 0 0, .slice none 0 0] t)) : PlanRep w P none none none [] [] [] := by
  have lP : P < w.heap.size := by
    rcases Nat.lt_or_ge P w.heap.size with h | h
    · exact h
    · rw [Array.getElem?_eq_none h] at hP; cases hP
  refine ⟨⟨.slice none 0 0, by simp [World.cell?, hP], ⟨rfl, .inl ⟨rfl, rfl⟩⟩, rfl⟩, ⟨.slice none 0 0, by simp [World.cell?, hP], ⟨rfl, .inl ⟨rfl, rfl⟩⟩, rfl⟩, ⟨⟨.slice none 0 0, by simp [World.cell?, hP], ⟨rfl, .inl ⟨rfl, rfl⟩⟩, rfl⟩, by simp, by simp [World.frozen?, hP]⟩, by simp [World.cell?, hP], by simp [World.cell?, hP], fun j => by simp [World.frozen?, hP], by simp [planM], by simp [planM, lP], by simp [relsOf], by simp⟩

/-- what the loop over lines keeps -/
structure RdI (w0 : World) (B : Nat) (ls : List (List UInt8)) (G P i : Nat) (st : List Ty) (tb rb nb : Option Nat) (N : List NV) (rs : List RR) (wr : World) : Prop where
  lines : linesS [] 0 ls = linesS st i (ls.drop i)
  ok : StOk st
  ln : StLn 10000 st i
  rep : PlanRep wr P tb rb nb N rs st
  nlen : N.length ≤ used ls i
  cells : ∀ j (h : j < ls.length), wr.cell? ⟨G, j, none⟩ = some (strV ls[j])
  out : G ∉ planM P tb rb nb
  lt : G < wr.heap.size
  low : ∀ g ∈ planM P tb rb nb, B ≤ g
  below : Below B w0 wr
theorem RdI.frame {w0 : World} {B : Nat} {ls : List (List UInt8)} {G P i : Nat} {st : List Ty} {tb rb nb : Option Nat} {N : List NV} {rs : List RR} {wr w' : World} (h : RdI w0 B ls G P i st tb rb nb N rs wr) (hb : ButM (planM P tb rb nb) wr w') : Below B w0 w' :=
  ⟨hb.os.trans h.below.os, hb.tape.trans h.below.tape, hb.output.trans h.below.output, Nat.le_trans h.below.size hb.size, fun k hk => (hb.block k (by have := h.low P planM_P; have := h.rep.lt P planM_P; omega) (fun hm => by have := h.low k hm; omega)).trans (h.below.block k hk)⟩
theorem RdI.next {w0 : World} {B : Nat} {ls : List (List UInt8)} {G P i : Nat} {st : List Ty} {tb rb nb : Option Nat} {N : List NV} {rs : List RR} {wr w' : World} {e : Ending} (h : RdI w0 B ls G P i st tb rb nb N rs wr) (hi : i < ls.length) (hl : ls[i].length ≤ 10000) (h0 : (lineS st i ls[i]).1 = 0) (hA : RLAns wr P tb rb nb N (ls[i].length + 1) (lineS st i ls[i]) e w') :
    ∃ st' tb' rb' nb' N' rs', RdI w0 B ls G P (i + 1) st' tb' rb' nb' N' rs' w' := by
  obtain ⟨_, hfr, hx⟩ := hA
  obtain ⟨tb', rb', nb', N', rs', hp, hN, hb, hg⟩ := hx h0
  refine ⟨(lineS st i ls[i]).2, tb', rb', nb', N ++ N', rs', linesS_next h.lines hi h0, lineS_ok h.ok i _, lineS_ln h.ln _ hl, hp, ?_, fun j hj => ?_, fun hm => ?_, ?_, fun g hm => ?_, h.frame hfr⟩
  · rw [used_next hi]; have := h.nlen; simp only [List.length_append]; omega
  · rw [World.cell?_of_block (w := wr) (a := ⟨G, j, none⟩) (hb.block G h.lt h.out)]
    exact h.cells j hj
  · rcases hg G hm with h1 | h1
    · exact h.out h1
    · have := h.lt; omega
  · have := h.lt; have := hb.size; omega
  · rcases hg g hm with h1 | h1
    · exact h.low g h1
    · have := h.low P planM_P; have := h.rep.lt P planM_P; omega

/-- but for the plan's cell 3 and for new blocks, all is as it was in V -/
structure RdV (V : World) (P : Nat) (wr : World) : Prop where
  os : wr.os = V.os
  tape : wr.tape = V.tape
  output : wr.output = V.output
  size : V.heap.size ≤ wr.heap.size
  block : ∀ k, k < V.heap.size → k ≠ P → wr.heap[k]? = V.heap[k]?
  cells : ∀ j, j ≠ 3 → wr.cell? ⟨P, j, none⟩ = V.cell? ⟨P, j, none⟩
  frz : ∀ j, wr.frozen? ⟨P, j, none⟩ = V.frozen? ⟨P, j, none⟩
/-- .. and for cell 4 -/
structure RdZ (V : World) (P : Nat) (wr : World) : Prop where
  os : wr.os = V.os
  tape : wr.tape = V.tape
  output : wr.output = V.output
  size : V.heap.size ≤ wr.heap.size
  block : ∀ k, k < V.heap.size → k ≠ P → wr.heap[k]? = V.heap[k]?
  cells : ∀ j, j ≠ 3 → j ≠ 4 → wr.cell? ⟨P, j, none⟩ = V.cell? ⟨P, j, none⟩
theorem RdV.refl (V : World) (P : Nat) : RdV V P V := ⟨rfl, rfl, rfl, Nat.le_refl _, fun _ _ _ => rfl, fun _ _ => rfl, fun _ => rfl⟩
theorem RdV.step {V wr w' : World} {P : Nat} (h : RdV V P wr) (hP : P < V.heap.size) (h1 : w'.os = wr.os) (h2 : w'.tape = wr.tape) (h3 : w'.output = wr.output) (hs : V.heap.size ≤ w'.heap.size) (hb : ∀ k, k < V.heap.size → w'.heap[k]? = wr.heap[k]?) : RdV V P w' :=
  ⟨h1.trans h.os, h2.trans h.tape, h3.trans h.output, hs, fun k hk hn => (hb k hk).trans (h.block k hk hn), fun j h3 => (World.cell?_of_block (w := wr) (a := ⟨P, j, none⟩) (hb P hP)).trans (h.cells j h3), fun j => (World.frozen?_of_block (w := wr) (a := ⟨P, j, none⟩) (hb P hP)).trans (h.frz j)⟩
theorem RdV.below {V wr w' : World} {P : Nat} (h : RdV V P wr) (hP : P < V.heap.size) (hb : Below wr.heap.size wr w') : RdV V P w' :=
  h.step hP hb.os hb.tape hb.output (Nat.le_trans h.size hb.size) (fun k hk => hb.block k (by have := h.size; omega))
theorem RdV.set {V wr : World} {P : Nat} (h : RdV V P wr) (x : Value) : RdV V P (wr.setCell ⟨P, 3, none⟩ x) :=
  ⟨h.os, h.tape, h.output, by rw [World.size_setCell]; exact h.size, fun k hk hn => (Below.heap_setCell _ _ _ _ hn).trans (h.block k hk hn), fun i h3 => by
    rw [World.cell?_setCell_other _ _ _ _ (by intro e; cases e; omega)]; exact h.cells i h3, fun i => by rw [World.frozen?_setCell]; exact h.frz i⟩
theorem RdV.fin {V wr : World} {P : Nat} (h : RdV V P wr) (x : Value) : RdZ V P (wr.setCell ⟨P, 4, none⟩ x) :=
  ⟨h.os, h.tape, h.output, by rw [World.size_setCell]; exact h.size, fun k hk hn => (Below.heap_setCell _ _ _ _ hn).trans (h.block k hk hn), fun i h3 h4 => by
    rw [World.cell?_setCell_other _ _ _ _ (by intro e; cases e; omega)]; exact h.cells i h3⟩
theorem RdV.total {V wr w0 : World} {P B : Nat} (h : RdV V P wr) (hb : Below B w0 V) (hB : B ≤ P) (hP : P < V.heap.size) : Below B w0 wr :=
  ⟨h.os.trans hb.os, h.tape.trans hb.tape, h.output.trans hb.output, Nat.le_trans hb.size h.size, fun k hk => (h.block k (by omega) (by omega)).trans (hb.block k hk)⟩
theorem RdZ.total {V wr w0 : World} {P B : Nat} (h : RdZ V P wr) (hb : Below B w0 V) (hB : B ≤ P) (hP : P < V.heap.size) : Below B w0 wr :=
  ⟨h.os.trans hb.os, h.tape.trans hb.tape, h.output.trans hb.output, Nat.le_trans hb.size h.size, fun k hk => (h.block k (by omega) (by omega)).trans (hb.block k hk)⟩
theorem RdV.cell {V wr : World} {P : Nat} (h : RdV V P wr) {k : Nat} (hk : k < V.heap.size) (hn : k ≠ P) (j : Nat) : wr.cell? ⟨k, j, none⟩ = V.cell? ⟨k, j, none⟩ :=
  World.cell?_of_block (w := V) (a := ⟨k, j, none⟩) (h.block k hk hn)

theorem Tree.some {S : Nat → Prop} {w : World} {N : List NV} {e : Exp} {i : Nat} (h : Tree S w N e i) : i < N.length := by
  cases e using Exp.kind with
  | leaf s =>
    cases s using Sing.kind <;> (simp only [Tree] at h; exact (List.getElem?_eq_some_iff.1 h).1)
  | join k es =>
    simp only [Tree] at h
    obtain ⟨g, c, ps, h1, _⟩ := h
    exact (List.getElem?_eq_some_iff.1 h1).1

theorem PlanRep.form1 {V : World} {P : Nat} {tb rb nb : Option Nat} {N : List NV} {rs : List RR} {st : List Ty} (h : PlanRep V P tb rb nb N rs st) :
    ∃ p1 c1, V.cell? ⟨P, 1, none⟩ = some (.slice p1 rs.length c1) ∧ ∀ a (ha : a < rs.length), ∃ G, p1 = some ⟨G, 0, none⟩ ∧ G ≠ P ∧ G < V.heap.size ∧ V.cell? ⟨G, a * 5 + 3, none⟩ = some (.int .i64 (rs[a].top : Int)) ∧ V.cell? ⟨G, a * 5 + 4, none⟩ = some (.int .i64 (rs[a].line : Int)) := by
  obtain ⟨v, h1, h2, h3⟩ := h.rels
  rcases h2.2 with ⟨e, h0⟩ | ⟨g, cap', cur, e, _⟩
  · subst e
    rw [← h0] at h1
    exact ⟨_, _, h1, fun a ha => by omega⟩
  · subst e
    refine ⟨_, _, h1, fun a ha => ⟨g, rfl, fun e => ?_, h.lt g (planM_r (by rw [← h3]; rfl)), ?_, ?_⟩⟩
    · have hn := h.nodup
      have : rb = some g := by rw [← h3]; rfl
      subst this
      subst e
      simp [planM] at hn
    · rw [RowRR.cell h2 a ha 3 (by decide)]; rfl
    · rw [RowRR.cell h2 a ha 4 (by decide)]; rfl
theorem PlanRep.form0 {V : World} {P : Nat} {tb rb nb : Option Nat} {N : List NV} {rs : List RR} {st : List Ty} (h : PlanRep V P tb rb nb N rs st) : ∃ p0 c0, V.cell? ⟨P, 0, none⟩ = some (.slice p0 st.length c0) := by
  obtain ⟨v, h1, h2, h3⟩ := h.types
  rw [List.length_map] at h2
  rcases h2.2 with ⟨e, h0⟩ | ⟨g, cap', cur, e, _⟩
  · subst e
    rw [h0]
    exact ⟨_, _, h1⟩
  · subst e
    exact ⟨_, _, h1⟩
theorem RdV.plan {V wr : World} {P : Nat} {tb rb nb : Option Nat} {N : List NV} {rs : List RR} {st : List Ty} (h : RdV V P wr) (hp : PlanRep V P tb rb nb N rs st) (a : Nat) (ha : a < rs.length) (ha' : a < (relsOf st).length) :
    PlanAt wr P N rs ∧ Tree (fun g => g < wr.heap.size) wr N (relsOf st)[a].ex rs[a].top := by
  obtain ⟨_, _, _, _, hT⟩ := hp.ok a ha ha'
  have hs := h.size
  have hnd := hp.nodup
  refine ⟨?_, Tree.keep (fun g hg => by omega) (fun g hg => h.block g hg.1 (fun e => hg.2 (by rw [e]; exact planM_P))) (fun _ _ h => h) _ _ hT⟩
  have hN : 0 < N.length := by have := hT.some; omega
  have hA := hp.at (by omega) hN
  obtain ⟨v1, r1, r2, r3⟩ := hp.rels
  obtain ⟨v2, n1, n2, n3⟩ := hp.nodes.row
  have hP := hA.lt
  obtain ⟨G1, c1, a1, a2, a3⟩ := hA.c1
  obtain ⟨G2, c2, b1, b2, b3⟩ := hA.c2
  have hne1 : G1 ≠ P := fun e => by
    rw [a1] at r1; cases r1
    have : rb = some G1 := by rw [← r3]; rfl
    subst this; subst e
    simp [planM] at hnd
  have hne2 : G2 ≠ P := fun e => by
    rw [b1] at n1; cases n1
    have : nb = some G2 := by rw [← n3]; rfl
    subst this; subst e
    simp [planM] at hnd
  exact ⟨by omega, ⟨G1, c1, by rw [h.cells 1 (by decide)]; exact a1, by omega, owns_same a3 (fun g hg => by cases hg; exact h.block G1 a2 hne1)⟩, ⟨G2, c2, by rw [h.cells 2 (by decide)]; exact b1, by omega, owns_same b3 (fun g hg => by cases hg; exact h.block G2 b2 hne2)⟩⟩

theorem rels_few {st : List Ty} (hok : StOk st) : (relsOf st).length ≤ 36 := by
  have h1 : ∀ l : List Ty, (∀ z ∈ l, z ∈ st) → (relsOf l).length ≤ 6 * l.length := by
    intro l
    induction l with
    | nil => intro _; simp [relsOf]
    | cons z l ih =>
      intro hm
      have h2 := ih (fun y hy => hm y (by simp [hy]))
      have h4 := (hok.rels z (hm z (by simp))).1
      simp only [relsOf, List.flatMap_cons, List.length_append, List.length_cons] at h2 ⊢
      omega
  have h2 := h1 st (fun z hz => hz)
  have h4 := hok.few
  omega

/-- unknown, as Read calls it -/
theorem rd_unknown {V wr : World} {P : Nat} {tb rb nb : Option Nat} {N : List NV} {rs : List RR} {st : List Ty} {num : Nat} (h : RdV V P wr) (hp : PlanRep V P tb rb nb N rs st) (hok : StOk st) (hln : StLn 10000 st num) (a : Nat) (ha : a < rs.length) (ha' : a < (relsOf st).length) :
    Calls Tryz.prog 21 #[.pointer (some ⟨P, 0, none⟩), .int .i64 (a : Int), .int .i64 (rs[a].top : Int)] wr fun e w' => e = .returned (.bool (unkR (knowB (relsOf st)) (relsOf st)[a])) ∧ Below wr.heap.size wr w' := by
  obtain ⟨hA, hT⟩ := h.plan hp a ha ha'
  have := unknown_all P a N rs ha (by have := rels_few hok; have := hp.len; omega) 10000 (by omega) (relsOf st)[a].ex rs[a].top wr (hln.sz _ (List.getElem_mem _)) hA hT
  rw [unkS_know hp hok a ha ha'] at this
  exact this

/-- how relation a hangs on b, as the reference has it: 0, 1 or 2 -/
def willT (rs : List RR) (R : List Rl) (a b : Nat) : Nat :=
  match rs[a]?, rs[b]?, R[a]? with
  | some x, some y, some r => hgL (leadsR x y) (r.ex.flat false)
  | _, _, _ => 0
theorem willT_eq {rs : List RR} {R : List Rl} {a b : Nat} (ha : a < rs.length) (hb : b < rs.length) (ha' : a < R.length) : willT rs R a b = hgL (leadsR rs[a] rs[b]) (R[a].ex.flat false) := by
  unfold willT
  rw [List.getElem?_eq_getElem ha, List.getElem?_eq_getElem hb, List.getElem?_eq_getElem ha']
theorem rd_hangs {V wr : World} {P : Nat} {tb rb nb : Option Nat} {N : List NV} {rs : List RR} {st : List Ty} {num : Nat} (h : RdV V P wr) (hp : PlanRep V P tb rb nb N rs st) (hln : StLn 10000 st num) (a b : Nat) (ha : a < rs.length) (hb : b < rs.length) :
    Calls Tryz.prog 22 #[.pointer (some ⟨P, 0, none⟩), .int .i64 (a : Int), .int .i64 (rs[a].top : Int), .int .i64 (b : Int), .bool false] wr fun e w' => e = .returned (.int .i64 ((willT rs (relsOf st) a b : Nat) : Int)) ∧ Below wr.heap.size wr w' := by
  have ha' : a < (relsOf st).length := by have := hp.len; omega
  obtain ⟨hA, hT⟩ := h.plan hp a ha ha'
  have := hangs_all P a b N rs ha hb 10000 (by omega) (relsOf st)[a].ex false rs[a].top wr (hln.sz _ (List.getElem_mem _)) hA hT
  rw [willT_eq ha hb ha']
  exact this
theorem will_at {V : World} {P : Nat} {tb rb nb : Option Nat} {N : List NV} {rs : List RR} {st : List Ty} (hp : PlanRep V P tb rb nb N rs st) (hok : StOk st) {a b : Nat} (ha : a < rs.length) (hb : b < rs.length) (ha' : a < (relsOf st).length) (hb' : b < (relsOf st).length) :
    decide (0 < willT rs (relsOf st) a b) = hangB (relsOf st)[a] (relsOf st)[b] ∧ decide (willT rs (relsOf st) a b = 2) = agB (relsOf st)[a] (relsOf st)[b] := by
  rw [willT_eq ha hb ha']
  exact hangs_will hp hok a b ha hb ha' hb'
theorem will_fw {V : World} {P : Nat} {tb rb nb : Option Nat} {N : List NV} {rs : List RR} {st : List Ty} (hp : PlanRep V P tb rb nb N rs st) (hok : StOk st) : Fw (InM (relsOf st)) rs.length 0 (fun i j => decide (0 < willT rs (relsOf st) i j)) := by
  have hl := hp.len
  refine ⟨fun a b ha hb hx => .single ?_, fun a b ha hb hw => ?_⟩
  · have hx' := (will_at hp hok ha hb (by omega) (by omega)).1.symm.trans hx
    exact ⟨_, _, List.getElem?_eq_getElem (by omega), List.getElem?_eq_getElem (by omega), hx'⟩
  · obtain ⟨x, y, h1, h2, h3⟩ := hw.zero
    rw [List.getElem?_eq_getElem (by omega)] at h1 h2
    cases h1; cases h2
    exact (will_at hp hok ha hb (by omega) (by omega)).1.trans h3
theorem will_ring {V : World} {P : Nat} {tb rb nb : Option Nat} {N : List NV} {rs : List RR} {st : List Ty} (hp : PlanRep V P tb rb nb N rs st) (hok : StOk st) {X : Nat → Nat → Bool} (hF : Fw (InM (relsOf st)) rs.length rs.length X) :
    (∃ a, a < rs.length ∧ ∃ b, b < rs.length ∧ willT rs (relsOf st) a b = 2 ∧ (a = b ∨ X b a = true)) ↔ ringP (relsOf st) := by
  have hl := hp.len
  rw [← ring_table (by omega) hF]
  constructor
  · rintro ⟨a, ha, b, hb, h1, h2⟩
    have hag : agB (relsOf st)[a] (relsOf st)[b] = true := by rw [← (will_at hp hok ha hb (by omega) (by omega)).2]; exact decide_eq_true h1
    refine ⟨a, b, _, _, List.getElem?_eq_getElem (by omega), List.getElem?_eq_getElem (by omega), hag, ?_⟩
    rcases h2 with rfl | h2
    · exact hF.full a a ha ha (.one ⟨_, _, List.getElem?_eq_getElem (by omega), List.getElem?_eq_getElem (by omega), agB_hangB hag⟩)
    · exact h2
  · rintro ⟨a, b, x, y, h1, h2, h3, h4⟩
    have ha := (List.getElem?_eq_some_iff.1 h1).1
    have hb := (List.getElem?_eq_some_iff.1 h2).1
    rw [List.getElem?_eq_getElem ha] at h1
    rw [List.getElem?_eq_getElem hb] at h2
    cases h1; cases h2
    rw [← (will_at hp hok (by omega) (by omega) ha hb).2] at h3
    exact ⟨a, by omega, b, by omega, of_decide_eq_true h3, .inr h4⟩
theorem find_at {α : Type} {p : α → Bool} {l : List α} {a : Nat} (ha : a < l.length) (h : ∀ j (hj : j < l.length), j < a → p l[j] = false) (h1 : p l[a] = true) : l.find? p = some l[a] := by
  rw [List.find?_eq_some_iff_getElem]
  exact ⟨h1, a, ha, rfl, fun j hj => by rw [h j (by omega) hj]; rfl⟩
theorem find_no {α : Type} {p : α → Bool} {l : List α} (h : ∀ j (hj : j < l.length), p l[j] = false) : l.find? p = none := by
  rw [List.find?_eq_none]
  intro x hx
  obtain ⟨j, hj, rfl⟩ := List.getElem_of_mem hx
  rw [h j hj]
  decide

/-- what the loop that builds the plan's Will keeps -/
structure RdW (V : World) (P n : Nat) (Wl : Nat → Nat → Nat) (a : Nat) (wr : World) : Prop where
  base : RdV V P wr
  will : ∃ v Rs, wr.cell? ⟨P, 3, none⟩ = some v ∧ Rs.length = a ∧ Tab2 wr V.heap.size 70 3 v Rs n (fun i j => .int .i64 (Wl i j : Nat))
theorem RdW.below {V wr w' : World} {P n a : Nat} {Wl : Nat → Nat → Nat} (h : RdW V P n Wl a wr) (hP : P < V.heap.size) (hb : Below wr.heap.size wr w') : RdW V P n Wl a w' := by
  obtain ⟨v, Rs, h1, h2, h3⟩ := h.will
  exact ⟨h.base.below hP hb, v, Rs, by rw [hb.cell (p := ⟨P, 3, none⟩) (by have := h.base.size; show P < _; omega)]; exact h1, h2, h3.below hb⟩
/-- a row more -/
theorem RdW.add {V U q w4 : World} {P n a g4 cap4 : Nat} {v : Value} {Rs : List Nat} {Wl : Nat → Nat → Nat} (hP : P < V.heap.size) (hV : RdV V P U) (hRl : Rs.length = a) (hT : Tab2 U V.heap.size 70 3 v Rs n (fun i j => .int .i64 (Wl i j : Nat))) (hc : U.cell? ⟨P, 3, none⟩ = some v)
    (hb : Below U.heap.size U q) (hr : q.rowIs U.heap.size 3 n (fun j => .int .i64 (Wl a j : Nat))) {o : Obj} (hg : (q.alloc o).grownBy w4 v.ownBlock)
    (hown : w4.ownsRow V.heap.size 70 1 (.slice (some ⟨g4, 0, none⟩) (a + 1) cap4) (a + 1) (Rs.map (fun r => .slice (some ⟨r, 0, none⟩) n n) ++ [.slice (some ⟨U.heap.size, 0, none⟩) n n])) (hat : v.ownBlock = some g4 ∨ q.heap.size + 1 ≤ g4) :
    RdW V P n Wl (a + 1) (w4.setCell ⟨P, 3, none⟩ (.slice (some ⟨g4, 0, none⟩) (a + 1) cap4)) := by
  subst hRl
  have hs := hV.size
  have hs2 := hb.size
  have hs4 : q.heap.size + 1 ≤ w4.heap.size := by have := hg.size; simpa using this
  have hTq := hT.below hb
  have hgB : ∀ k, k < q.heap.size → v.ownBlock ≠ some k → w4.heap[k]? = q.heap[k]? := fun k hk hne => (hg.block k (by simp; omega) (fun hm => hne hm.symm)).trans (Below.heap_alloc _ _ _ hk)
  have hT4 := hTq.add (r := U.heap.size) (w' := w4) (g := g4) (cap := cap4) hr hs (fun hm => by have := (hT.lt _ (.inr hm)).2; omega) (fun e => by have := (hT.lt _ (.inl e)).2; omega) hown hgB (orTo hat (fun e => by omega))
  have hlow : ∀ k, k < V.heap.size → w4.heap[k]? = U.heap[k]? := fun k hk => (hgB k (by omega) (fun e => by have := (hT.lt k (.inl e)).1; omega)).trans (hb.block k (by omega))
  have ha : Below q.heap.size q (q.alloc o) := (Below.refl _ _).alloc (Nat.le_refl _) _
  have hV4 : RdV V P w4 := hV.step hP (hg.os.trans (ha.os.trans hb.os)) (hg.tape.trans (ha.tape.trans hb.tape)) (hg.output.trans (ha.output.trans hb.output)) (by omega) hlow
  have hc4 : w4.cell? ⟨P, 3, none⟩ = some v := (World.cell?_of_block (w := U) (a := ⟨P, 3, none⟩) (hlow P hP)).trans hc
  refine ⟨hV4.set _, _, Rs ++ [U.heap.size], World.cell?_setCell_same' _ _ _ (by rw [hc4]; rfl), by simp, hT4.keep (fun k hk => Below.heap_setCell _ _ _ _ (fun e => ?_))⟩
  have := (hT4.lt k hk).1
  simp only at e
  omega
/-- what Read knows behind its lines -/
structure RdK (V : World) (P n nl nt : Nat) (p1 p0 : Option Addr) (c1 c0 : Nat) (top line : Nat → Nat) (uk : Nat → Bool) (Wl : Nat → Nat → Nat) (M : Nat → Nat → Prop) (res : Nat × Nat) : Prop where
  few : n ≤ 36
  lt : P < V.heap.size
  cell1 : V.cell? ⟨P, 1, none⟩ = some (.slice p1 n c1)
  cell0 : V.cell? ⟨P, 0, none⟩ = some (.slice p0 nt c0)
  cell3 : V.cell? ⟨P, 3, none⟩ = some (.slice none 0 0)
  cell4 : V.cell? ⟨P, 4, none⟩ = some (.slice none 0 0)
  frz : ∀ j, V.frozen? ⟨P, j, none⟩ = false
  rel : ∀ a, a < n → ∃ G, p1 = some ⟨G, 0, none⟩ ∧ G ≠ P ∧ G < V.heap.size ∧ V.cell? ⟨G, a * 5 + 3, none⟩ = some (.int .i64 (top a : Int)) ∧ V.cell? ⟨G, a * 5 + 4, none⟩ = some (.int .i64 (line a : Int))
  unk : ∀ wr, RdV V P wr → ∀ a, a < n → Calls Tryz.prog 21 #[.pointer (some ⟨P, 0, none⟩), .int .i64 (a : Int), .int .i64 (top a : Int)] wr fun e w' => e = .returned (.bool (uk a)) ∧ Below wr.heap.size wr w'
  hang : ∀ wr, RdV V P wr → ∀ a b, a < n → b < n → Calls Tryz.prog 22 #[.pointer (some ⟨P, 0, none⟩), .int .i64 (a : Int), .int .i64 (top a : Int), .int .i64 (b : Int), .bool false] wr fun e w' => e = .returned (.int .i64 ((Wl a b : Nat) : Int)) ∧ Below wr.heap.size wr w'
  fw : Fw M n 0 (fun i j => decide (0 < Wl i j))
  found : ∀ a, a < n → (∀ j, j < a → uk j = false) → uk a = true → res = (line a, 3)
  ring : (∀ j, j < n → uk j = false) → ∀ X, Fw M n n X → ∀ a b, a < n → b < n → Wl a b = 2 → (a = b ∨ X b a = true) → res = (nl, 4)
  fine : (∀ j, j < n → uk j = false) → ∀ X, Fw M n n X → (∀ a, a < n → ∀ b, b < n → ¬ (Wl a b = 2 ∧ (a = b ∨ X b a = true))) → res = (nt, 0)
theorem RdI.done {w0 : World} {B : Nat} {ls : List (List UInt8)} {G P num : Nat} {st : List Ty} {tb rb nb : Option Nat} {N : List NV} {rs : List RR} {V : World} {res : Nat × Nat} {nl : Nat} (h : RdI w0 B ls G P num st tb rb nb N rs V) (hres : res = afterS (relsOf st) st.length nl) :
    ∃ p1 p0 c1 c0 top line uk Wl M, RdK V P rs.length nl st.length p1 p0 c1 c0 top line uk Wl M res := by
  have hp := h.rep
  have hl := hp.len
  obtain ⟨p1, c1, f1, f2⟩ := hp.form1
  obtain ⟨p0, c0, f0⟩ := hp.form0
  have gt : ∀ a (ha : a < rs.length), (rs.map (·.top)).getD a 0 = rs[a].top := fun a ha => by simp [ha]
  have gl : ∀ a (ha : a < rs.length), (rs.map (·.line)).getD a 0 = rs[a].line := fun a ha => by simp [ha]
  have gu : ∀ a (ha : a < (relsOf st).length), ((relsOf st).map (unkR (knowB (relsOf st)))).getD a false = unkR (knowB (relsOf st)) (relsOf st)[a] := fun a ha => by simp [ha]
  refine ⟨p1, p0, c1, c0, fun a => (rs.map (·.top)).getD a 0, fun a => (rs.map (·.line)).getD a 0, fun a => ((relsOf st).map (unkR (knowB (relsOf st)))).getD a false, willT rs (relsOf st), InM (relsOf st), ?_⟩
  refine ⟨by have := rels_few h.ok; omega, hp.lt P planM_P, f1, f0, hp.c3, hp.c4, hp.frz, fun a ha => ?_, fun wr hV a ha => ?_, fun wr hV a b ha hb => ?_, will_fw hp h.ok, fun a ha hj h1 => ?_, fun hj X hX a b ha hb h1 h2 => ?_, fun hj X hX hno => ?_⟩
  · simp only [gt a ha, gl a ha]; exact f2 a ha
  · simp only [gt a ha, gu a (by omega : a < (relsOf st).length)]
    exact rd_unknown hV hp h.ok h.ln a ha (by omega)
  · simp only [gt a ha]
    exact rd_hangs hV hp h.ln a b ha hb
  · have ha' : a < (relsOf st).length := by omega
    simp only [gu a ha'] at h1
    simp only [gl a ha]
    rw [hres, afterS_some (find_at ha' (fun j hj' hlt => by have := hj j hlt; simp only [gu j hj'] at this; exact this) h1)]
    rw [(hp.ok a ha ha').2.2.2.1]
  · have hno : (relsOf st).find? (unkR (knowB (relsOf st))) = none := find_no (fun j hj' => by have := hj j (by omega); simp only [gu j hj'] at this; exact this)
    rw [hres, afterS_ring hno ((will_ring hp h.ok hX).1 ⟨a, ha, b, hb, h1, h2⟩)]
  · have hnf : (relsOf st).find? (unkR (knowB (relsOf st))) = none := find_no (fun j hj' => by have := hj j (by omega); simp only [gu j hj'] at this; exact this)
    rw [hres, afterS_fine hnf (fun hr => by
      obtain ⟨a, ha, b, hb, h1, h2⟩ := (will_ring hp h.ok hX).2 hr
      exact hno a ha b hb ⟨h1, h2⟩)]
end Go.Proofs.YtlgodpadcilcaaaGreatDoor
