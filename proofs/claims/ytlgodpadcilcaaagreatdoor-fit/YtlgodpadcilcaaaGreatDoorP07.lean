import Derived.Test.YtlgodpadcilcaaaGreatDoorP06
import Derived.Test.YtlgodpadcilcaaaGreatDoorP01
import Derived.Test.YtlgodpadcilcaaaGreatDoorP04
import Derived.Test.YtlgodpadcilcaaaGreatDoorP02
import Derived.Deep.RegionLaw
namespace Go.Proofs.YtlgodpadcilcaaaGreatDoor
open Go.ChangeShapes Go.WideShapes Go.ChangeAt Go.RowKit Go.Shelf

def RcAns (e : Ending) : Prop := ∃ r : Nat, e = .returned (.int .i64 (r : Int))

set_option maxRecDepth 100000 in
set_option maxHeartbeats 4000000 in
theorem reach_any (Bh i : Nat) (X : Nat → Nat → Bool) (w : World) (hM : Mat w Bh X) (hi : i < 36) :
    Calls Tryz.prog 42 #[.pointer (some ⟨Bh, 0, none⟩), .int .i64 (i : Int)] w fun e w' => RcAns e ∧ w' = w := by
  obtain ⟨c, hblk, hT⟩ := hM.tab
  have hrg := range_row hblk i
  have hz : (Tryz.prog.info? 102).map (·.size) = some (rowC c i).length := by rw [sizeRow36, rowC_len hT hi]
  have HIx : Hid (∀ j : Nat, j < 36 → (Instr.index 102 (.agg (rowC c i).toArray) (.int .i64 (j : Int))).run Tryz.prog w = .ok (.bool (X i j)) w) := fun j hj => index_row _ j hj _ (by simpa using rowC_at hT hi hj) w
  have HZ : Hid _ := hz
  have HG : Hid _ := hrg
  have hii : (i : Int) < 36 := by omega
  clear hz hrg hT hM hblk
  generalize rowC c i = row at *
  go_enter Tryz.func42, Tryz.ntmps42
  go_wp2_with (refine wpList_load_mid rfl 102 (.tmp 11) rfl Bh (i * 36) rfl row _ HG.out Tryz.underlying102 rfl HZ.out ?_)
  go_loop [5, 13] (fun s5 s13 => ∃ j r : Nat, j ≤ 36 ∧ s13 = .int .i64 (j : Int) ∧ s5 = .int .i64 (r : Int) ∧ r ≤ j + 1) (fun _ s13 => 36 - (intOf s13).toNat)
  case atStart => exact ⟨0, 1, by omega, rfl, rfl, by omega⟩
  case round =>
    obtain ⟨j, r, hj, rfl, rfl, hr⟩ := hrel
    by_cases hj6 : j < 36
    · have hx := HIx.out j hj6
      generalize X i j = q at *
      have hji : (j : Int) < 36 := by omega
      cases q with
      | true =>
        by_cases hji2 : j = i
        · subst hji2
          go_wp2
          go_round
          case rel => exact ⟨j + 1, r, by omega, by go_num, rfl, by omega⟩
          case measure => simp [intOf]; omega
        · have hq : ¬ (j : Int) = (i : Int) := by omega
          go_wp2
          go_round
          case rel => exact ⟨j + 1, r + 1, by omega, by go_num, by go_num, by omega⟩
          case measure => simp [intOf]; omega
      | false =>
        go_wp2
        go_round
        case rel => exact ⟨j + 1, r, by omega, by go_num, rfl, by omega⟩
        case measure => simp [intOf]; omega
    · obtain rfl : j = 36 := by omega
      go_wp2
      go_ret
      exact ⟨⟨r, rfl⟩, rfl⟩
end Go.Proofs.YtlgodpadcilcaaaGreatDoor
namespace Go.Proofs.YtlgodpadcilcaaaGreatDoor
open Go.ChangeShapes Go.WideShapes Go.ChangeAt Go.RowKit Go.Shelf

/-- a row out of its cells -/
theorem owns_of_cells {w w' : World} {g cap n t sz : Nat} {xs xs' : List Value} (h : w.ownsRow 0 t sz (.slice (some ⟨g, 0, none⟩) n cap) n xs) (hb : ∃ c, w'.heap[g]? = some (.cells c t) ∧ c.size = cap * sz) (hl : xs'.length = n * sz) (hc : ∀ k, k < n * sz → w'.cell? ⟨g, k, none⟩ = xs'[k]?) : w'.ownsRow 0 t sz (.slice (some ⟨g, 0, none⟩) n cap) n xs' := by
  obtain ⟨c, hc1, hc2⟩ := hb
  rcases h.2 with ⟨e, _⟩ | ⟨g', cap', cur, e, h4, h5, h6, h7, h8, h9⟩
  · cases e
  · cases e
    refine ⟨hl, .inr ⟨g, cap, c, rfl, h4, hc1, h6, h7, hc2, ?_⟩⟩
    have hle : n * sz ≤ c.size := by rw [hc2]; exact Nat.mul_le_mul_right _ h6
    refine List.ext_getElem? (fun k => ?_)
    by_cases hk : k < n * sz
    · rw [List.getElem?_take_of_lt hk, ← hc k hk]
      simp [World.cell?, hc1]
    · rw [List.getElem?_eq_none (by rw [List.length_take]; simp; omega), List.getElem?_eq_none (by omega)]
theorem setCells_blk {b : Nat} {t : TypeId} : ∀ (vs : List Value) (o : Nat) (w : World) (c : Array Value), w.heap[b]? = some (.cells c t) → ∃ c', (w.setCells b o vs).heap[b]? = some (.cells c' t) ∧ c'.size = c.size
  | [], _, _, c, h => ⟨c, h, rfl⟩
  | v :: r, o, w, c, h => by
    obtain ⟨c', h1, h2⟩ := setCells_blk r (o + 1) (w.setCell ⟨b, o, none⟩ v) _ (blk_set h o v)
    exact ⟨c', h1, by rw [h2]; simp⟩
theorem setCells_far {b k : Nat} (hk : k ≠ b) : ∀ (vs : List Value) (o : Nat) (w : World), (w.setCells b o vs).heap[k]? = w.heap[k]?
  | [], _, _ => rfl
  | _ :: r, o, _ => (setCells_far hk r (o + 1) _).trans (Below.heap_setCell _ _ _ _ hk)
theorem setCells_size {b : Nat} : ∀ (vs : List Value) (o : Nat) (w : World), (w.setCells b o vs).heap.size = w.heap.size
  | [], _, _ => rfl
  | _ :: r, o, _ => (setCells_size r (o + 1) _).trans (by simp)

/-- an entry's relation put in its place -/
theorem RowR.put {w : World} {g cap : Nat} {es : List RV} (h : RowR w (.slice (some ⟨g, 0, none⟩) es.length cap) es) (p : Nat) (hp : p < es.length) (y : RV) (hy : y.key = es[p].key) : RowR (w.setCells g (p * 8 + 1) y.cells.tail) (.slice (some ⟨g, 0, none⟩) (es.set p y).length cap) (es.set p y) := by
  have htl : y.cells.tail.length = 7 := rfl
  have hsome : ∀ j, j < y.cells.tail.length → (w.cell? ⟨g, p * 8 + 1 + j, none⟩).isSome = true := fun j hj => by
    rw [htl] at hj
    have h1 := h.cell p hp (1 + j) (by omega)
    rw [show p * 8 + 1 + j = p * 8 + (1 + j) by omega, h1]
    rw [List.getElem?_eq_getElem (by show 1 + j < 8; omega)]
    rfl
  have hcl : ∀ k, k < es.length * 8 → (w.setCells g (p * 8 + 1) y.cells.tail).cell? ⟨g, k, none⟩ = (((es.set p y).map RV.cells).flatten)[k]? := fun k hk => by
    have hj : k / 8 < es.length := by omega
    have e : ((es.set p y).map RV.cells).flatten[k]? = ((es.set p y)[k / 8]'(by simpa using hj)).cells[k % 8]? := by
      have h1 := flattenK 8 ((es.set p y).map RV.cells) (fun cs hcs => by obtain ⟨x, _, rfl⟩ := List.mem_map.1 hcs; rfl) (k / 8) (by simpa using hj) (k % 8) (by omega)
      rw [show 8 * (k / 8) + k % 8 = k by omega] at h1
      rw [h1, List.getElem_map]
    rw [e, List.getElem_set]
    by_cases hjp : p = k / 8
    · rw [if_pos hjp]
      by_cases h0 : k % 8 = 0
      · rw [World.cell?_setCells_out _ _ _ _ _ (fun _ _ => .inl (by show k < _; omega)), h0]
        have h1 := h.cell p hp 0 (by decide)
        rw [show p * 8 + 0 = k by omega] at h1
        rw [h1]
        show some (strV es[p].key) = some (strV y.key)
        rw [hy]
      · obtain ⟨m, hm⟩ : ∃ m, k % 8 = m + 1 := ⟨k % 8 - 1, by omega⟩
        have hm7 : m < y.cells.tail.length := by rw [htl]; omega
        have h1 := World.cell?_setCells_in g y.cells.tail (p * 8 + 1) w hsome m hm7
        rw [show p * 8 + 1 + m = k by omega] at h1
        rw [h1, hm, List.getElem_tail, List.getElem?_eq_getElem]
    · rw [if_neg hjp, World.cell?_setCells_out _ _ _ _ _ (fun _ _ => by show k < _ ∨ _ ≤ k; rw [htl]; omega)]
      have h1 := h.cell (k / 8) hj (k % 8) (by omega)
      rw [show k / 8 * 8 + k % 8 = k by omega] at h1
      exact h1
  have hcur : ∃ c, w.heap[g]? = some (.cells c 146) ∧ c.size = cap * 8 := by
    rcases h.2 with ⟨e, _⟩ | ⟨g', cap', cur, e, h4, h5, h6, h7, h8, h9⟩
    · cases e
    · cases e; exact ⟨cur, h5, h8⟩
  obtain ⟨c, hc1, hc2⟩ := hcur
  obtain ⟨c', hc3, hc4⟩ := setCells_blk y.cells.tail (p * 8 + 1) w c hc1
  unfold RowR
  rw [List.length_set]
  refine owns_of_cells h ⟨c', hc3, by rw [hc4, hc2]⟩ ?_ hcl
  have hfl : ∀ l : List RV, (l.map RV.cells).flatten.length = l.length * 8 := fun l => by
    induction l with
    | nil => rfl
    | cons x r ih =>
      rw [List.map_cons, List.flatten_cons, List.length_append, ih, List.length_cons]
      show 8 + _ = _
      omega
  rw [hfl, List.length_set]

theorem butCells {M : List Nat} {a : World} {B : Nat} (hB : B ∈ M ∨ a.heap.size ≤ B) : ∀ (vs : List Value) (o : Nat) (w : World), ButM M a w → ButM M a (w.setCells B o vs)
  | [], _, _, h => h
  | v :: r, o, _, h => butCells hB r (o + 1) _ (h.set hB o v)
theorem ButM.drew {M : List Nat} {a w : World} (h : ButM M a w) : ButM M a w.drew := ⟨h.os, h.tape, h.output, h.size, h.block⟩
theorem keys_set {es : List RV} {p : Nat} (hp : p < es.length) {y : RV} (hy : y.key = es[p].key) : (es.set p y).map (·.key) = es.map (·.key) := by
  refine List.ext_getElem (by simp) (fun j h1 h2 => ?_)
  rw [List.getElem_map, List.getElem_map, List.getElem_set]
  split
  · rename_i e; subst e; exact hy
  · rfl
/-- an entry's name, and whether it is a set -/
def kst (e : RV) : List UInt8 × Bool := (e.key, e.set)
theorem kst_set {es : List RV} {p : Nat} (hp : p < es.length) {y : RV} (hy : kst y = kst es[p]) : (es.set p y).map kst = es.map kst := by
  refine List.ext_getElem (by simp) (fun j h1 h2 => ?_)
  rw [List.getElem_map, List.getElem_map, List.getElem_set]
  split
  · rename_i e; subst e; exact hy
  · rfl
theorem kst_keys {es es' : List RV} (h : es'.map kst = es.map kst) : es'.map (·.key) = es.map (·.key) := by
  have := congrArg (List.map Prod.fst) h
  simpa [List.map_map, Function.comp_def, kst] using this
theorem OwnR.put {w : World} {L g cap : Nat} {rb : Option Nat} {es : List RV} (h : OwnR w L rb es) (hrow : RowR w (.slice (some ⟨g, 0, none⟩) es.length cap) es) (hv : w.cell? ⟨L, 0, none⟩ = some (.slice (some ⟨g, 0, none⟩) es.length cap)) (hrb : rb = some g) (p : Nat) (hp : p < es.length) (y : RV) (hy : y.key = es[p].key) : OwnR (w.setCells g (p * 8 + 1) y.cells.tail).drew L rb (es.set p y) := by
  have hgL : L ≠ g := fun e => h.ne (by rw [hrb, e])
  have hk := keys_set hp hy
  have hrp := RowR.put hrow p hp y hy
  have hlen : (es.set p y).length = es.length := List.length_set
  generalize y.cells.tail = vs at *
  generalize es.set p y = es' at *
  have hL : (w.setCells g (p * 8 + 1) vs).heap[L]? = w.heap[L]? := setCells_far hgL _ _ _
  generalize w.setCells g (p * 8 + 1) vs = w' at *
  have hm : OwnR w' L rb es' := by
    refine ⟨⟨.slice (some ⟨g, 0, none⟩) es'.length cap, ?_, hrp, hrb.symm⟩, h.ne, ?_, by rw [hk]; exact h.up, by rw [hlen]; exact h.few⟩
    · rw [World.cell?_of_block (w := w) (a := ⟨L, 0, none⟩) hL, hv, hlen]
    · rw [World.frozen?_of_block (w := w) (a := ⟨L, 0, none⟩) hL]; exact h.fr
  exact hm.keep rfl (fun _ _ => rfl)

set_option maxHeartbeats 4000000 in
set_option maxRecDepth 100000 in
theorem PutR_old (L : Nat) (rb : Option Nat) (es : List RV) (x : RV) (w : World) (h : OwnR w L rb es) (hn0 : kst x ∈ es.map kst) :
    Calls Tryz.prog 43 #[.pointer (some ⟨L, 0, none⟩), strV x.key, .agg #[.bool x.set, .int .i64 x.k, .string x.b, .string x.c, .slice x.p x.l x.cp, .int .i64 x.rank, .int .i64 x.line]] w fun e w' => (∃ v, e = .returned v) ∧ ∃ es', OwnR w' L rb es' ∧ es'.map kst = es.map kst ∧ ButM rb.toList w w' := by
  have hn : x.key ∈ es.map (·.key) := by
    obtain ⟨y, hy, e⟩ := List.mem_map.1 hn0
    exact List.mem_map.2 ⟨y, hy, congrArg Prod.fst e⟩
  have hst : ∀ p, (hp : p < es.length) → es[p].key = x.key → es[p].set = x.set := fun p hp e => by
    obtain ⟨i, hi, e2⟩ := List.getElem_of_mem hn0
    rw [List.getElem_map] at e2
    have hi' : i < es.length := by simpa using hi
    have e3 : es[i].key = x.key := congrArg Prod.fst e2
    have hip : i = p := by
      rcases Nat.lt_trichotomy i p with hlt | heq | hlt
      · have := h.up.lt hlt (by simpa using hp)
        rw [List.getElem_map, List.getElem_map, e3, e, less_irrefl] at this
        cases this
      · exact heq
      · have := h.up.lt hlt (by simpa using hi')
        rw [List.getElem_map, List.getElem_map, e3, e, less_irrefl] at this
        cases this
    subst hip
    exact congrArg Prod.snd e2
  obtain ⟨key, set, k, b, c, pp, l, cp, rank, line⟩ := x
  obtain ⟨w0, hw0⟩ : ∃ w0, w.alloc (.cells #[.bool set, .int .i64 k, .string b, .string c, .slice pp l cp, .int .i64 rank, .int .i64 line] 90) = w0 := ⟨_, rfl⟩
  have hal0 : Below w.heap.size w w0 := by rw [← hw0]; exact (Below.refl _ _).alloc (Nat.le_refl _) _
  have hlt := h.lt
  have h0 : OwnR w0 L rb es := h.keep (hal0.block L hlt.1) (fun q hq => hal0.block q (hlt.2 q hq))
  have hV0 : w0.rangeAt w.heap.size 0 [.bool set, .int .i64 k, .string b, .string c, .slice pp l cp, .int .i64 rank, .int .i64 line] := by rw [← hw0]; exact range_new _ _ _
  have hs0 : w0.heap.size = w.heap.size + 1 := by rw [← hw0]; simp
  have hF : Calls Tryz.prog 70 #[.pointer (some ⟨L, 0, none⟩), .string ⟨key.toArray⟩] w0 fun e w' => (∃ p : Nat, Place (es.map (·.key)) key p ∧ e = .returned (.tuple #[.int .i64 p, .bool true])) ∧ Below w0.heap.size w0 w' := by
    have h1 := findR_any L es ⟨key.toArray⟩ w0 h0.list
    rw [show (⟨key.toArray⟩ : ByteArray).data.toList = key from rfl] at h1
    unfold FoundAns at h1
    rw [decide_eq_true (show key ∈ es.map (·.key) from hn)] at h1
    exact h1
  have HW0 : Hid _ := hw0
  have HH : Hid _ := h0
  have HAl : Hid _ := hal0
  clear hw0 h h0 hal0
  unfold strV
  go_enter Tryz.func43, Tryz.ntmps43
  go_wp2_with fail
  rw [HW0.out]
  refine hF.mono ?_
  clear hF
  rintro e w1 ⟨⟨p, hp, rfl⟩, hb1⟩
  have hb1s := hb1.size
  have h1 : OwnR w1 L rb es := HH.out.keep (hb1.block L (by omega)) (fun q hq => hb1.block q (by have := hlt.2 q hq; omega))
  obtain ⟨hpl0, hpk⟩ := (hp.found h1.up).1 hn
  have hpl : p < es.length := by simpa using hpl0
  rw [List.getElem_map] at hpk
  have hps := hst p hpl hpk
  have HK : Hid (kst ⟨es[p].key, set, k, b, c, pp, l, cp, rank, line⟩ = kst es[p]) := by show (es[p].key, set) = (es[p].key, es[p].set); rw [hps]
  clear hps hpk hst hpl0 hn0
  obtain ⟨v, hv, hrow, hvb⟩ := h1.row
  have hf1 := h1.fr
  obtain ⟨g, cap, rfl⟩ : ∃ g cap, v = .slice (some ⟨g, 0, none⟩) es.length cap := by
    rcases hrow.2 with ⟨_, h2⟩ | ⟨g, cap, cur, e, _⟩
    · omega
    · exact ⟨g, cap, e⟩
  have hV1 := range_below hV0 hb1 (by omega)
  have v0 : w1.cell? ⟨w.heap.size, 0, none⟩ = some (.bool set) := hV1 0 _ rfl
  have v1 : w1.cell? ⟨w.heap.size, 1, none⟩ = some (.int .i64 k) := hV1 1 _ rfl
  have v2 : w1.cell? ⟨w.heap.size, 2, none⟩ = some (.string b) := hV1 2 _ rfl
  have v3 : w1.cell? ⟨w.heap.size, 3, none⟩ = some (.string c) := hV1 3 _ rfl
  have v4 : w1.cell? ⟨w.heap.size, 4, none⟩ = some (.slice pp l cp) := hV1 4 _ rfl
  have v5 : w1.cell? ⟨w.heap.size, 5, none⟩ = some (.int .i64 rank) := hV1 5 _ rfl
  have v6 : w1.cell? ⟨w.heap.size, 6, none⟩ = some (.int .i64 line) := hV1 6 _ rfl
  have hfz : ∀ q, w1.frozen? ⟨g, q, none⟩ = false := fun q => by
    rcases hrow.2 with ⟨e, _⟩ | ⟨g', cap', cur, e, h4, h5, _⟩
    · cases e
    · cases e; simp [World.frozen?, h5]
  have hc := fun i hi => hrow.cell p hpl i hi
  have hrbg : rb = some g := by rw [← hvb]; rfl
  have hown2 := h1.put hrow hv hrbg p hpl ⟨es[p].key, set, k, b, c, pp, l, cp, rank, line⟩ rfl
  have hbut2 : ButM rb.toList w (w1.setCells g (p * 8 + 1) [.bool set, .int .i64 k, .string b, .string c, .slice pp l cp, .int .i64 rank, .int .i64 line]).drew := (butCells (.inl (by rw [hrbg]; simp)) _ _ _ ((ButM.of_below HAl.out).trans (ButM.of_below hb1))).drew
  have HFin : Hid (∃ es', OwnR (w1.setCells g (p * 8 + 1) [.bool set, .int .i64 k, .string b, .string c, .slice pp l cp, .int .i64 rank, .int .i64 line]).drew L rb es' ∧ es'.map kst = es.map kst ∧ ButM rb.toList w (w1.setCells g (p * 8 + 1) [.bool set, .int .i64 k, .string b, .string c, .slice pp l cp, .int .i64 rank, .int .i64 line]).drew) := ⟨_, hown2, kst_set hpl HK.out, hbut2⟩
  clear hown2 hbut2 hrbg
  have HO : Hid _ := h1
  have HR : Hid _ := hrow
  have HVB : Hid _ := hvb
  have HB1 : Hid _ := hb1
  obtain ⟨y0, hy0⟩ : ∃ y0, es[p] = y0 := ⟨_, rfl⟩
  have HY0 : Hid (es[p] = y0) := hy0
  rw [hy0] at hc
  clear hy0 hrow h1 hvb hb1 hp hn HW0 HH hV0 hV1
  obtain ⟨ykey, yset, yk, yb, yc, yp, yl, ycp, yrank, yline⟩ := y0
  have e1 := hc 1 (by decide)
  have e2 := hc 2 (by decide)
  have e3 := hc 3 (by decide)
  have e4 := hc 4 (by decide)
  have e5 := hc 5 (by decide)
  have e6 := hc 6 (by decide)
  have e7 := hc 7 (by decide)
  clear hc
  simp only [RV.cells, strV, List.getElem?_cons_zero, List.getElem?_cons_succ] at e1 e2 e3 e4 e5 e6 e7
  obtain ⟨n, hn⟩ : ∃ n, es.length = n := ⟨_, rfl⟩
  have HN : Hid (es.length = n) := hn
  rw [hn] at hv hpl
  clear hn
  have hpi : (p : Int) < (n : Int) := by omega
  go_upto_region 3 with fail
  go_region
  all_goals go_wp2
  all_goals (try go_end0)
  all_goals first | exact ⟨⟨_, rfl⟩, HFin.out⟩ | (refine bodyPost_ret (results_none rfl _ _ _) rfl ?_; exact ⟨⟨_, rfl⟩, HFin.out⟩)
end Go.Proofs.YtlgodpadcilcaaaGreatDoor
namespace Go.Proofs.YtlgodpadcilcaaaGreatDoor

/-- a text cut at the first byte c -/
def cutF (c : UInt8) : List UInt8 → Option (List UInt8 × List UInt8)
  | [] => none
  | b :: l => if b = c then some ([], l) else (cutF c l).map (fun x => (b :: x.1, x.2))
theorem cutF_none {c : UInt8} : ∀ {l : List UInt8}, (∀ x ∈ l, x ≠ c) → cutF c l = none
  | [], _ => rfl
  | b :: l, h => by rw [cutF, if_neg (h b (by simp)), cutF_none (fun x hx => h x (by simp [hx]))]; rfl
theorem cutF_some {c : UInt8} : ∀ {p : List UInt8} (r : List UInt8), (∀ x ∈ p, x ≠ c) → cutF c (p ++ c :: r) = some (p, r)
  | [], r, _ => by simp [cutF]
  | b :: p, r, h => by rw [List.cons_append, cutF, if_neg (h b (by simp)), cutF_some r (fun x hx => h x (by simp [hx]))]; rfl
theorem cutF_spec {c : UInt8} : ∀ {l p r : List UInt8}, cutF c l = some (p, r) → l = p ++ c :: r ∧ ∀ x ∈ p, x ≠ c
  | [], _, _, h => by cases h
  | b :: l, p, r, h => by
    rw [cutF] at h
    split at h
    · rename_i e
      cases h
      subst e
      exact ⟨rfl, by simp⟩
    · rename_i e
      cases hc : cutF c l with
      | none => rw [hc] at h; cases h
      | some x =>
        obtain ⟨p', r'⟩ := x
        rw [hc] at h
        cases h
        obtain ⟨h1, h2⟩ := cutF_spec hc
        refine ⟨by rw [h1]; rfl, fun x hx => ?_⟩
        rcases List.mem_cons.1 hx with rfl | hx
        · exact e
        · exact h2 x hx
theorem cutF_free {c : UInt8} : ∀ {l : List UInt8}, cutF c l = none → ∀ x ∈ l, x ≠ c
  | [], _ => by simp
  | b :: l, h => by
    rw [cutF] at h
    split at h
    · cases h
    · rename_i e
      cases hc : cutF c l with
      | some x => rw [hc] at h; cases h
      | none =>
        intro x hx
        rcases List.mem_cons.1 hx with rfl | hx
        · exact e
        · exact cutF_free hc x hx
theorem cutF_snoc (c b : UInt8) (l : List UInt8) : cutF c (l ++ [b]) = match cutF c l with
    | some (p, r) => some (p, r ++ [b])
    | none => if b = c then some (l, []) else none := by
  cases h : cutF c l with
  | some x =>
    obtain ⟨p, r⟩ := x
    obtain ⟨h1, h2⟩ := cutF_spec h
    rw [h1]
    have e : p ++ c :: r ++ [b] = p ++ c :: (r ++ [b]) := by simp
    rw [e]
    exact cutF_some _ h2
  | none =>
    have hf := cutF_free h
    by_cases e : b = c
    · subst e
      simp only [if_true]
      exact cutF_some [] hf
    · simp only [if_neg e]
      exact cutF_none (fun x hx => by
        rcases List.mem_append.1 hx with hx | hx
        · exact hf x hx
        · simp at hx; subst hx; exact e)

def isLD (b : UInt8) : Bool := isLow b || (decide (48 ≤ b.toNat) && decide (b.toNat ≤ 57))
/-- an id -/
def idL (s : List UInt8) : Bool := decide (1 ≤ s.length) && decide (s.length ≤ 8) && s.all isLD
theorem nameL_low {s : List UInt8} (h : nameL s = true) : ∀ x ∈ s, isLow x = true := by
  unfold nameL at h
  simp only [Bool.and_eq_true] at h
  exact List.all_eq_true.1 h.1.2
theorem idL_low {s : List UInt8} (h : idL s = true) : ∀ x ∈ s, isLD x = true := by
  unfold idL at h
  simp only [Bool.and_eq_true] at h
  exact List.all_eq_true.1 h.2
theorem low_ne {x c : UInt8} (hc : isLD c = false) (h : isLow x = true) : x ≠ c := fun e => by
  subst e
  unfold isLD at hc
  rw [h] at hc
  cases hc
theorem ld_ne {x c : UInt8} (hc : isLD c = false) (h : isLD x = true) : x ≠ c := fun e => by
  subst e
  rw [h] at hc
  cases hc
theorem name_free {s : List UInt8} (h : nameL s = true) {c : UInt8} (hc : isLD c = false) : ∀ x ∈ s, x ≠ c := fun x hx => low_ne hc (nameL_low h x hx)
theorem id_free {s : List UInt8} (h : idL s = true) {c : UInt8} (hc : isLD c = false) : ∀ x ∈ s, x ≠ c := fun x hx => ld_ne hc (idL_low h x hx)
theorem name_nil : nameL [] = false := by decide
theorem id_nil : idL [] = false := by decide

/-- an object -/
def objS (t : List UInt8) : Option (List UInt8 × List UInt8) :=
  match cutF 58 t with
  | none => none
  | some (n, i) => if nameL n && idL i then some (n, i) else none
/-- a subject; its relation is empty if it is no set -/
def subS (t : List UInt8) : Option (List UInt8 × List UInt8 × List UInt8) :=
  match cutF 35 t with
  | none => (objS t).map (fun x => (x.1, x.2, []))
  | some (o, r) => if nameL r then (objS o).map (fun x => (x.1, x.2, r)) else none
/-- a tuple's parts -/
structure Tup where
  k : List UInt8
  i : List UInt8
  r : List UInt8
  k2 : List UInt8
  i2 : List UInt8
  r2 : List UInt8
def tupS (t : List UInt8) : Option Tup :=
  match cutF 64 t with
  | none => none
  | some (left, right) =>
    match cutF 35 left with
    | none => none
    | some (o, r) => if nameL r then
        match objS o, subS right with
        | some a, some b => some ⟨a.1, a.2, r, b.1, b.2.1, b.2.2⟩
        | _, _ => none
      else none

/-- how a tuple is written -/
structure Shape (t : List UInt8) (x : Tup) : Prop where
  k : nameL x.k = true
  i : idL x.i = true
  r : nameL x.r = true
  k2 : nameL x.k2 = true
  i2 : idL x.i2 = true
  r2 : x.r2 = [] ∨ nameL x.r2 = true
  eq : t = x.k ++ 58 :: (x.i ++ 35 :: (x.r ++ 64 :: (x.k2 ++ 58 :: (x.i2 ++ (if x.r2 = [] then [] else 35 :: x.r2)))))

theorem objS_of {n i : List UInt8} (h1 : nameL n = true) (h2 : idL i = true) : objS (n ++ 58 :: i) = some (n, i) := by
  unfold objS
  rw [cutF_some _ (name_free h1 (by decide))]
  simp [h1, h2]
theorem objS_spec {t : List UInt8} {a : List UInt8 × List UInt8} (h : objS t = some a) : nameL a.1 = true ∧ idL a.2 = true ∧ t = a.1 ++ 58 :: a.2 := by
  unfold objS at h
  split at h
  · cases h
  · rename_i n i hc
    split at h
    · rename_i hb
      cases h
      simp only [Bool.and_eq_true] at hb
      exact ⟨hb.1, hb.2, (cutF_spec hc).1⟩
    · cases h
theorem obj_free {n i : List UInt8} (h1 : nameL n = true) (h2 : idL i = true) {c : UInt8} (hc : isLD c = false) (h58 : (58 : UInt8) ≠ c) : ∀ x ∈ n ++ 58 :: i, x ≠ c := fun x hx => by
  rcases List.mem_append.1 hx with hx | hx
  · exact name_free h1 hc x hx
  · rcases List.mem_cons.1 hx with rfl | hx
    · exact h58
    · exact id_free h2 hc x hx
theorem tupS_of {t : List UInt8} {x : Tup} (h : Shape t x) : tupS t = some x := by
  obtain ⟨k, i, r, k2, i2, r2⟩ := x
  obtain ⟨h1, h2, h3, h4, h5, h6, rfl⟩ := h
  simp only at h1 h2 h3 h4 h5 h6 ⊢
  have e : k ++ 58 :: (i ++ 35 :: (r ++ 64 :: (k2 ++ 58 :: (i2 ++ (if r2 = [] then [] else 35 :: r2))))) = (k ++ 58 :: i ++ 35 :: r) ++ 64 :: (k2 ++ 58 :: (i2 ++ (if r2 = [] then [] else 35 :: r2))) := by simp
  have f64 : ∀ x ∈ k ++ 58 :: i ++ 35 :: r, x ≠ 64 := fun x hx => by
    rcases List.mem_append.1 hx with hx | hx
    · exact obj_free h1 h2 (by decide) (by decide) x hx
    · rcases List.mem_cons.1 hx with rfl | hx
      · decide
      · exact name_free h3 (by decide) x hx
  unfold tupS
  rw [e, cutF_some _ f64]
  simp only
  rw [cutF_some _ (obj_free h1 h2 (by decide) (by decide))]
  simp only [h3, if_true, objS_of h1 h2]
  have hs : subS (k2 ++ 58 :: (i2 ++ (if r2 = [] then [] else 35 :: r2))) = some (k2, i2, r2) := by
    unfold subS
    rcases h6 with rfl | h6
    · simp only [if_true, List.append_nil]
      rw [cutF_none (obj_free h4 h5 (by decide) (by decide))]
      simp only [objS_of h4 h5]
      rfl
    · have hne : r2 ≠ [] := fun e => by subst e; rw [name_nil] at h6; cases h6
      rw [if_neg hne]
      have e2 : k2 ++ 58 :: (i2 ++ 35 :: r2) = (k2 ++ 58 :: i2) ++ 35 :: r2 := by simp
      rw [e2, cutF_some _ (obj_free h4 h5 (by decide) (by decide))]
      simp only [h6, if_true, objS_of h4 h5]
      rfl
  rw [hs]
theorem tupS_spec {t : List UInt8} {x : Tup} (h : tupS t = some x) : Shape t x := by
  unfold tupS at h
  split at h
  · cases h
  · rename_i left right hc
    split at h
    · cases h
    · rename_i o r hc2
      split at h
      · rename_i hr
        split at h
        · rename_i a b ha hb
          cases h
          obtain ⟨a1, a2, a3⟩ := objS_spec ha
          have e1 := (cutF_spec hc).1
          have e2 := (cutF_spec hc2).1
          unfold subS at hb
          split at hb
          · cases ho : objS right with
            | none => rw [ho] at hb; cases hb
            | some y =>
              rw [ho] at hb
              cases hb
              obtain ⟨b1, b2, b3⟩ := objS_spec ho
              exact ⟨a1, a2, hr, b1, b2, .inl rfl, by rw [e1, e2, a3, b3]; simp⟩
          · rename_i o2 r2 hc3
            split at hb
            · rename_i hr2
              cases ho : objS o2 with
              | none => rw [ho] at hb; cases hb
              | some y =>
                rw [ho] at hb
                cases hb
                obtain ⟨b1, b2, b3⟩ := objS_spec ho
                have hne : r2 ≠ [] := fun e => by subst e; rw [name_nil] at hr2; cases hr2
                exact ⟨a1, a2, hr, b1, b2, .inr hr2, by rw [e1, e2, a3, (cutF_spec hc3).1, b3]; simp [hne]⟩
            · cases hb
        · cases h
      · cases h

/-- the pieces between signs, in their order -/
def piecesR : List UInt8 → List UInt8 → List (List UInt8)
  | [], t => [t]
  | c :: cs, t => match cutF c t with
    | none => [t]
    | some (p, r) => p :: piecesR cs r
def signsR : List UInt8 := [58, 35, 64, 58, 35]
theorem piecesR_ne (cs t : List UInt8) : piecesR cs t ≠ [] := by
  cases cs with
  | nil => simp [piecesR]
  | cons c cs => unfold piecesR; split <;> simp
theorem piecesR_len : ∀ (cs t : List UInt8), (piecesR cs t).length ≤ cs.length + 1
  | [], t => by simp [piecesR]
  | c :: cs, t => by
    unfold piecesR
    split
    · simp
    · have := piecesR_len cs (by assumption)
      simp only [List.length_cons]
      omega
/-- what one byte more does -/
def grow1 (cs : List UInt8) (ps : List (List UInt8)) (b : UInt8) : List (List UInt8) :=
  if cs[ps.length - 1]? = some b then ps ++ [[]] else ps.dropLast ++ [ps.getLastD [] ++ [b]]
theorem piecesR_snoc : ∀ (cs t : List UInt8) (b : UInt8), piecesR cs (t ++ [b]) = grow1 cs (piecesR cs t) b
  | [], t, b => by simp [piecesR, grow1]
  | c :: cs, t, b => by
    rw [piecesR, cutF_snoc, piecesR]
    cases h : cutF c t with
    | none =>
      simp only [grow1, List.length_cons, List.length_nil]
      by_cases e : b = c
      · subst e
        simp only [if_true]
        have : piecesR cs [] = [[]] := by
          cases cs with
          | nil => rfl
          | cons c cs => rfl
        rw [this]
        simp
      · have e' : ¬ c = b := fun h => e h.symm
        simp [e, e']
    | some x =>
      obtain ⟨p, r⟩ := x
      simp only
      rw [piecesR_snoc cs r b]
      have hne := piecesR_ne cs r
      generalize piecesR cs r = ps at *
      obtain ⟨q, qs, rfl⟩ : ∃ q qs, ps = q :: qs := by
        cases ps with
        | nil => exact absurd rfl hne
        | cons q qs => exact ⟨q, qs, rfl⟩
      simp only [grow1, List.length_cons, Nat.add_sub_cancel]
      rw [List.getElem?_cons_succ]
      split
      · rfl
      · simp [List.getLastD]

/-- the document's parts of a text -/
def partsR (ps : List (List UInt8)) : Tup := ⟨ps.getD 0 [], ps.getD 1 [], ps.getD 2 [], ps.getD 3 [], ps.getD 4 [], ps.getD 5 []⟩
def okR (ps : List (List UInt8)) : Bool := nameL (partsR ps).k && idL (partsR ps).i && nameL (partsR ps).r && nameL (partsR ps).k2 && idL (partsR ps).i2 && (decide (ps.length = 5) || decide (ps.length = 6) && nameL (partsR ps).r2)
theorem piecesR_join : ∀ (cs t : List UInt8) (p : List UInt8) (ps : List (List UInt8)), piecesR cs t = p :: ps → (ps = [] ∧ t = p) ∨ ∃ c cs' r, cs = c :: cs' ∧ t = p ++ c :: r ∧ piecesR cs' r = ps
  | [], t, p, ps, h => by
    simp [piecesR] at h
    exact .inl ⟨h.2, h.1⟩
  | c :: cs, t, p, ps, h => by
    rw [piecesR] at h
    split at h
    · simp at h
      exact .inl ⟨h.2, h.1⟩
    · rename_i p' r hc
      simp at h
      obtain ⟨rfl, rfl⟩ := h
      exact .inr ⟨c, cs, r, rfl, (cutF_spec hc).1, rfl⟩
theorem shape_ok {t : List UInt8} {x : Tup} (h : Shape t x) : okR (piecesR signsR t) = true ∧ partsR (piecesR signsR t) = x := by
  obtain ⟨k, i, r, k2, i2, r2⟩ := x
  obtain ⟨h1, h2, h3, h4, h5, h6, rfl⟩ := h
  simp only at h1 h2 h3 h4 h5 h6 ⊢
  have hp : piecesR signsR (k ++ 58 :: (i ++ 35 :: (r ++ 64 :: (k2 ++ 58 :: (i2 ++ (if r2 = [] then [] else 35 :: r2)))))) = [k, i, r, k2] ++ (if r2 = [] then [i2] else [i2, r2]) := by
    unfold signsR
    rw [piecesR, cutF_some _ (name_free h1 (by decide))]
    simp only
    rw [piecesR, cutF_some _ (id_free h2 (by decide))]
    simp only
    rw [piecesR, cutF_some _ (name_free h3 (by decide))]
    simp only
    rw [piecesR, cutF_some _ (name_free h4 (by decide))]
    simp only
    rw [piecesR]
    by_cases e : r2 = []
    · simp only [if_pos e, List.append_nil]
      rw [cutF_none (id_free h5 (by decide))]
      rfl
    · simp only [if_neg e]
      rw [cutF_some _ (id_free h5 (by decide))]
      rfl
  rw [hp]
  by_cases e : r2 = []
  · subst e
    simp [okR, partsR, h1, h2, h3, h4, h5]
  · have h6' := h6.resolve_left e
    simp [okR, partsR, h1, h2, h3, h4, h5, h6', e]
theorem ok_shape {t : List UInt8} (h : okR (piecesR signsR t) = true) : Shape t (partsR (piecesR signsR t)) := by
  generalize hps : piecesR signsR t = ps at *
  unfold okR at h
  simp only [Bool.and_eq_true, Bool.or_eq_true, decide_eq_true_iff] at h
  obtain ⟨⟨⟨⟨⟨h1, h2⟩, h3⟩, h4⟩, h5⟩, h6⟩ := h
  have hlen : ps.length = 5 ∨ ps.length = 6 := by
    rcases h6 with h | h
    · exact .inl h
    · exact .inr h.1
  obtain ⟨a, b, c, d, e, q, rfl⟩ : ∃ a b c d e q, ps = a :: b :: c :: d :: e :: q := by
    match ps, hlen with
    | a :: b :: c :: d :: e :: q, _ => exact ⟨a, b, c, d, e, q, rfl⟩
    | [], h => simp at h
    | [_], h => simp at h
    | [_, _], h => simp at h
    | [_, _, _], h => simp at h
    | [_, _, _, _], h => simp at h
  unfold signsR at hps
  rcases piecesR_join _ _ _ _ hps with ⟨h, _⟩ | ⟨_, _, r1, e1, t1, hps⟩
  · cases h
  cases e1
  rcases piecesR_join _ _ _ _ hps with ⟨h, _⟩ | ⟨_, _, r2, e1, t2, hps⟩
  · cases h
  cases e1
  rcases piecesR_join _ _ _ _ hps with ⟨h, _⟩ | ⟨_, _, r3, e1, t3, hps⟩
  · cases h
  cases e1
  rcases piecesR_join _ _ _ _ hps with ⟨h, _⟩ | ⟨_, _, r4, e1, t4, hps⟩
  · cases h
  cases e1
  rcases piecesR_join _ _ _ _ hps with ⟨hq, t5⟩ | ⟨_, _, r5, e1, t5, hps⟩
  · subst hq
    exact ⟨h1, h2, h3, h4, h5, .inl rfl, by rw [t1, t2, t3, t4, t5]; simp [partsR]⟩
  · cases e1
    simp only [piecesR] at hps
    subst hps
    have h6' : nameL r5 = true := by
      rcases h6 with h | h
      · simp at h
      · exact h.2
    have hne : r5 ≠ [] := fun e => by subst e; rw [name_nil] at h6'; cases h6'
    exact ⟨h1, h2, h3, h4, h5, .inr h6', by rw [t1, t2, t3, t4, t5]; simp [partsR, hne]⟩
/-- the program's reading and the document's are one -/
theorem tup_ref (t : List UInt8) : tupS t = if okR (piecesR signsR t) = true then some (partsR (piecesR signsR t)) else none := by
  by_cases h : okR (piecesR signsR t) = true
  · rw [if_pos h]
    exact tupS_of (ok_shape h)
  · rw [if_neg h]
    cases ht : tupS t with
    | none => rfl
    | some x => exact absurd (shape_ok (tupS_spec ht)).1 h
end Go.Proofs.YtlgodpadcilcaaaGreatDoor
namespace Go.Proofs.YtlgodpadcilcaaaGreatDoor
open Go.ChangeShapes Go.WideShapes Go.ChangeAt Go.RowKit

theorem range_puts {W : World} {B : Nat} (xs : List Value) {cs : List Value} (hl : xs.length ≤ cs.length) (h : W.rangeAt B 0 cs) : (W.setCells B 0 xs).rangeAt B 0 xs := fun j v hv => by
  obtain ⟨hj, rfl⟩ := List.getElem?_eq_some_iff.1 hv
  exact World.cell?_setCells_in B xs 0 W (fun i hi => by rw [h i (cs[i]'(by omega)) (List.getElem?_eq_getElem _)]; rfl) j hj
theorem post_cells {fn : Func} {T r s : Nat} {d : TypeDesc} (hres : fn.results = #[.cell r T, .tmp s]) {R : Ending → World → Prop} {a : Act} {w : World} (B : Nat) (cs : List Value) (ok : Value) (hd : a.defers = [])
    (h2 : a.tmps.getD r undef = .pointer (some ⟨B, 0, none⟩)) (h3 : a.tmps.getD s undef = ok) (hu : Tryz.prog.underlying T = some d) (hr : d.isRow = true) (hz : (Tryz.prog.info? T).map (·.size) = some cs.length) (hc : w.rangeAt B 0 cs) (hR : R (.returned (.tuple #[.agg cs.toArray, ok])) w) : bodyPost Tryz.prog fn R .ret a w := by
  refine bodyPost_ret (v := .tuple #[.agg cs.toArray, ok]) ?_ hd hR
  rw [results_cell_tmp hres, h2, h3]
  simp only [asAddr, Sem.run_pure, Result.andThen]
  rw [run_loadVar_mid w B 0 T cs _ hc hu hr hz]

set_option maxHeartbeats 400000 in
theorem liteCut_big (s : ByteArray) (c : UInt8) (w : World) (hs : s.size ≤ 9223372036854775807) :
    Calls Tryz.prog 72 #[.string s, .string ⟨#[c]⟩] w fun e w' => ∃ n, w' = w.drewN n ∧
      (((∀ x ∈ s.data.toList, x ≠ c) ∧ e = .returned (.tuple #[.string s, .string ⟨#[]⟩, .bool false])) ∨
       ∃ p r, s.data.toList = p ++ c :: r ∧ (∀ x ∈ p, x ≠ c) ∧ e = .returned (.tuple #[strV p, strV r, .bool true])) := by
  have hI := liteIndex_one s c w
  rcases idx_cases s.data.toList c with ⟨h1, h2⟩ | ⟨p, r, h1, h2, h3⟩
  · rw [h1] at hI
    have H2 : Hid (∀ x ∈ s.data.toList, x ≠ c) := h2
    clear h1 h2
    go_enter Tryz.func72, Tryz.ntmps72
    go_wp2_with (go_at_call 84; refine hI.mono ?_; rintro e w' ⟨rfl, rfl⟩)
    go_ret3
    exact ⟨0, rfl, .inl ⟨H2.out, rfl⟩⟩
  · rw [h3] at hI
    have hl : p.length + 1 ≤ s.size := by rw [← size_list, h1]; simp
    have HP : Hid (strV p = .string (s.extract 0 p.length)) := by
      show _ = _
      rw [← strV_of, extract_list, h1]; simp
    have HR : Hid (strV r = .string (s.extract (p.length + 1) s.size)) := by
      show _ = _
      rw [← strV_of, extract_list, h1, List.take_of_length_le (by rw [← h1, List.length_drop, size_list]; omega)]
      have e : p ++ c :: r = (p ++ [c]) ++ r := by simp
      rw [e, List.drop_left' (by simp)]
    have H1 : Hid (s.data.toList = p ++ c :: r) := h1
    have H2 : Hid (∀ x ∈ p, x ≠ c) := h2
    clear h1 h2 h3
    generalize hk : p.length = k at *
    have hsA : ∀ u : World, (Instr.slice 9 (.string s) none (some (.int .i64 (k : Int))) none).run Tryz.prog u = .ok (.string (s.extract 0 k)) u := fun u => by
      rw [run_slice_string_to_if u 9 s .i64 (k : Int) Tryz.underlying9, if_pos (by omega)]
      simp
    go_enter Tryz.func72, Tryz.ntmps72
    go_wp2_with (go_at_call 84; refine hI.mono ?_; rintro e w' ⟨rfl, rfl⟩)
    go_quiet (fail)
    go_wp2
    go_ret3
    exact ⟨_, rfl, .inr ⟨p, r, H1.out, H2.out, by rw [HP.out, HR.out]; rfl⟩⟩

/-- what Cut answers -/
def cutV (c : UInt8) (s : ByteArray) : Value := match cutF c s.data.toList with
  | none => .tuple #[.string s, .string ⟨#[]⟩, .bool false]
  | some (p, r) => .tuple #[strV p, strV r, .bool true]
set_option maxHeartbeats 400000 in
theorem cut_big (s : ByteArray) (c : UInt8) (w : World) (hs : s.size ≤ 9223372036854775807) :
    Calls Tryz.prog 44 #[.string s, .string ⟨#[c]⟩] w fun e w' => ∃ n, w' = w.drewN n ∧ e = .returned (cutV c s) := by
  go_enter Tryz.func44, Tryz.ntmps44
  go_wp2_with fail
  refine (liteCut_big s c w hs).mono ?_
  rintro e w' ⟨n, rfl, hh⟩
  rcases hh with ⟨h1, rfl⟩ | ⟨p, r, h1, h2, rfl⟩
  · have H1 : Hid (cutV c s = .tuple #[.string s, .string ⟨#[]⟩, .bool false]) := by show _ = _; unfold cutV; rw [cutF_none h1]
    clear h1
    go_wp2
    go_ret3
    exact ⟨n, rfl, by rw [H1.out]; rfl⟩
  · have H1 : Hid (cutV c s = .tuple #[strV p, strV r, .bool true]) := by show _ = _; unfold cutV; rw [h1, cutF_some _ h2]
    clear h1 h2
    unfold strV at *
    go_wp2
    go_ret3
    exact ⟨n, rfl, by rw [H1.out]; rfl⟩

set_option maxHeartbeats 400000 in
theorem isLD_any (b : UInt8) (w : World) :
    Calls Tryz.prog 92 #[.int .u8 (b.toNat : Int)] w fun e w' => e = .returned (.bool (isLD b)) ∧ w' = w := by
  have hb : b.toNat < 256 := b.toNat_lt
  have hL := isLetter_any b.toNat w hb
  have HD : Hid (isLD b = (isLow b || (decide (48 ≤ b.toNat) && decide (b.toNat ≤ 57)))) := rfl
  have e : (decide (97 ≤ b.toNat) && decide (b.toNat ≤ 122)) = isLow b := rfl
  rw [e] at hL
  clear e
  generalize isLD b = r at *
  generalize isLow b = c at *
  generalize b.toNat = k at *
  cases c with
  | true =>
    go_enter Tryz.func92, Tryz.ntmps92
    go_wp2_with (go_at_call 74; refine hL.mono ?_; rintro e w' ⟨rfl, rfl⟩)
    go_ret
    exact ⟨ret_bool (by rw [HD.out]; rfl), rfl⟩
  | false =>
    by_cases h1 : 48 ≤ k
    · have q1 : ((48 : Int) ≤ (k : Int)) := by omega
      by_cases h2 : k ≤ 57
      · have q2 : ((k : Int) ≤ 57) := by omega
        have E : Hid (r = true) := by show _ = _; rw [HD.out]; simp [h1, h2]
        clear HD
        go_enter Tryz.func92, Tryz.ntmps92
        go_wp2_with (go_at_call 74; refine hL.mono ?_; rintro e w' ⟨rfl, rfl⟩)
        go_ret
        exact ⟨ret_bool (by rw [E.out]; first | done | (simp <;> omega)), rfl⟩
      · have q2 : ¬ ((k : Int) ≤ 57) := by omega
        have E : Hid (r = false) := by show _ = _; rw [HD.out]; simp [h2]
        clear HD
        go_enter Tryz.func92, Tryz.ntmps92
        go_wp2_with (go_at_call 74; refine hL.mono ?_; rintro e w' ⟨rfl, rfl⟩)
        go_ret
        exact ⟨ret_bool (by rw [E.out]; first | done | (simp <;> omega)), rfl⟩
    · have q1 : ¬ ((48 : Int) ≤ (k : Int)) := by omega
      have E : Hid (r = false) := by show _ = _; rw [HD.out]; simp [h1]
      clear HD
      go_enter Tryz.func92, Tryz.ntmps92
      go_wp2_with (go_at_call 74; refine hL.mono ?_; rintro e w' ⟨rfl, rfl⟩)
      go_ret
      exact ⟨ret_bool (by rw [E.out]; first | done | simp), rfl⟩

set_option maxHeartbeats 400000 in
theorem fitsD_any (s : ByteArray) (w : World) :
    Calls Tryz.prog 73 #[.string s, .int .i64 8, .func (.func 92) #[] #[]] w fun e w' => e = .returned (.bool (idL s.data.toList)) ∧ w' = w := by
  generalize hR : idL s.data.toList = r
  have HR : Hid (idL s.data.toList = r) := hR
  clear hR
  by_cases h1 : s.size < 1
  · have e : r = false := by rw [← HR.out]; unfold idL; rw [size_list]; simp; omega
    subst e
    go_enter Tryz.func73, Tryz.ntmps73
    go_wp2
    go_ret
    exact ⟨rfl, rfl⟩
  by_cases h8 : 8 < s.size
  · have e : r = false := by rw [← HR.out]; unfold idL; rw [size_list]; simp; omega
    subst e
    go_enter Tryz.func73, Tryz.ntmps73
    go_wp2
    go_ret
    exact ⟨rfl, rfl⟩
  have HR2 : Hid (r = s.data.toList.all isLD) := by
    show _ = _
    rw [← HR.out]; unfold idL; rw [size_list, decide_eq_true (show 1 ≤ s.size by omega), decide_eq_true (show s.size ≤ 8 by omega)]; rfl
  clear HR
  go_enter Tryz.func73, Tryz.ntmps73
  go_wp2
  go_loop [19] (fun i => ∃ k : Nat, k ≤ s.size ∧ i = .int .i64 k ∧ Hid ((s.data.toList.take k).all isLD = true)) (fun i => s.size - (intOf i).toNat)
  case atStart => exact ⟨0, Nat.zero_le _, rfl, by show _ = _; simp⟩
  case round =>
    obtain ⟨k, hk, rfl, H⟩ := hrel
    by_cases hlt : k < s.size
    · have HT : Hid ((s.data.toList.take (k + 1)).all isLD = isLD s[k]) := by
        show _ = _
        rw [take_snoc s k hlt, List.all_append, H.out]
        simp
      have HD : Hid (isLD s[k] = false → r = false) := fun h => by
        rw [HR2.out, List.all_eq_false]
        refine ⟨s[k], ?_, by rw [h]; simp⟩
        have e : s.data.toList[k]'(by rw [size_list]; exact hlt) = s[k] := rfl
        rw [← e]
        exact List.getElem_mem _
      have hL := isLD_any s[k] w
      generalize isLD s[k] = c at *
      cases c with
      | true =>
        go_wp2_with (go_at_call 92; refine hL.mono ?_; rintro e w' ⟨rfl, rfl⟩)
        go_round
        case rel => exact ⟨k + 1, by omega, by go_num, HT⟩
        case measure => simp [intOf]; omega
      | false =>
        have e : r = false := HD.out rfl
        subst e
        go_wp2_with (go_at_call 92; refine hL.mono ?_; rintro e w' ⟨rfl, rfl⟩)
        go_ret
        exact ⟨rfl, rfl⟩
    · have e : r = true := by
        rw [HR2.out]
        have := H.out
        rw [List.take_of_length_le (by rw [size_list]; omega)] at this
        exact this
      subst e
      go_wp2
      go_ret
      exact ⟨rfl, rfl⟩
theorem isID_any (s : ByteArray) (w : World) :
    Calls Tryz.prog 75 #[.string s] w fun e w' => e = .returned (.bool (idL s.data.toList)) ∧ w' = w := by
  have hF := fitsD_any s w
  generalize idL s.data.toList = c at *
  go_enter Tryz.func75, Tryz.ntmps75
  go_wp2_with (go_at_call 73; refine hF.mono ?_; rintro e w' ⟨rfl, rfl⟩)
  go_ret
  exact ⟨rfl, rfl⟩
end Go.Proofs.YtlgodpadcilcaaaGreatDoor
namespace Go.Proofs.YtlgodpadcilcaaaGreatDoor
open Go.ChangeShapes Go.WideShapes Go.ChangeAt Go.RowKit

theorem sizeO : (Tryz.prog.info? 31).map (·.size) = some 2 := by kernel_rfl
theorem sizeSu : (Tryz.prog.info? 33).map (·.size) = some 3 := by kernel_rfl
theorem sizeTu : (Tryz.prog.info? 35).map (·.size) = some 6 := by kernel_rfl

def objC (o : Option (List UInt8 × List UInt8)) : List Value := [strV (o.getD ([], [])).1, strV (o.getD ([], [])).2]
def subC (o : Option (List UInt8 × List UInt8 × List UInt8)) : List Value := [strV (o.getD ([], [], [])).1, strV (o.getD ([], [], [])).2.1, strV (o.getD ([], [], [])).2.2]
def tupC (o : Option Tup) : List Value := [strV (o.getD ⟨[], [], [], [], [], []⟩).k, strV (o.getD ⟨[], [], [], [], [], []⟩).i, strV (o.getD ⟨[], [], [], [], [], []⟩).r, strV (o.getD ⟨[], [], [], [], [], []⟩).k2, strV (o.getD ⟨[], [], [], [], [], []⟩).i2, strV (o.getD ⟨[], [], [], [], [], []⟩).r2]

theorem extract_le {a b : List UInt8} {c : UInt8} {s : ByteArray} (h : cutF c s.data.toList = some (a, b)) : a.length < s.size ∧ b.length < s.size := by
  have := congrArg List.length (cutF_spec h).1
  rw [size_list] at this
  simp at this
  omega

set_option maxHeartbeats 2000000 in
theorem parseObject_any (s : ByteArray) (w : World) (hs : s.size ≤ 9223372036854775807) :
    Calls Tryz.prog 46 #[.string s] w fun e w' => e = .returned (.tuple #[.agg (objC (objS s.data.toList)).toArray, .bool (objS s.data.toList).isSome]) ∧ Below w.heap.size w w' := by
  have hO : ∃ o, o = objS s.data.toList := ⟨_, rfl⟩
  obtain ⟨o, ho⟩ := hO
  rw [← ho]
  unfold objS at ho
  have hC := fun u => cut_big s 58 u hs
  unfold cutV at hC
  cases hc : cutF 58 s.data.toList with
  | none =>
    rw [hc] at ho hC
    simp only at ho hC
    subst ho
    clear hc
    go_enter Tryz.func46, Tryz.ntmps46
    go_wp2_with (go_at_call 44; refine (hC _).mono ?_; rintro e w1 ⟨n, rfl, rfl⟩)
    refine post_cells rfl w.heap.size [.string ⟨#[]⟩, .string ⟨#[]⟩] (.bool false) rfl rfl rfl Tryz.underlying31 rfl sizeO (range_puts [.string ⟨#[]⟩, .string ⟨#[]⟩] (Nat.le_refl _) (range_newD w #[.string ⟨#[]⟩, .string ⟨#[]⟩] 31 n)) ?_
    exact ⟨rfl, belowCells (Nat.le_refl _) [.string ⟨#[]⟩, .string ⟨#[]⟩] _ _ (below_newD _ _ _)⟩
  | some x =>
    obtain ⟨p, r⟩ := x
    rw [hc] at ho hC
    simp only at ho hC
    clear hc
    have hN := fun u => isName_any ⟨p.toArray⟩ u
    have hI := fun u => isID_any ⟨r.toArray⟩ u
    rw [show (⟨p.toArray⟩ : ByteArray).data.toList = p from rfl] at hN
    rw [show (⟨r.toArray⟩ : ByteArray).data.toList = r from rfl] at hI
    have HO : Hid _ := ho
    clear ho
    generalize hn : nameL p = c at *
    generalize hi : idL r = d at *
    clear hn hi
    unfold strV at hC
    cases c with
    | false =>
      have ho : o = none := HO.out.trans (by simp)
      subst ho
      clear HO
      go_enter Tryz.func46, Tryz.ntmps46
      go_wp2_with first | (go_at_call 44; refine (hC _).mono ?_; rintro e w1 ⟨n, rfl, rfl⟩) | (go_at_call 45; refine (hN _).mono ?_; rintro e w2 ⟨rfl, rfl⟩)
      refine post_cells rfl w.heap.size [.string ⟨#[]⟩, .string ⟨#[]⟩] (.bool false) rfl rfl rfl Tryz.underlying31 rfl sizeO (range_puts [.string ⟨#[]⟩, .string ⟨#[]⟩] (Nat.le_refl _) (range_newD w #[.string ⟨#[]⟩, .string ⟨#[]⟩] 31 n)) ?_
      exact ⟨rfl, belowCells (Nat.le_refl _) [.string ⟨#[]⟩, .string ⟨#[]⟩] _ _ (below_newD _ _ _)⟩
    | true =>
      cases d with
      | false =>
        have ho : o = none := HO.out.trans (by simp)
        subst ho
        clear HO
        go_enter Tryz.func46, Tryz.ntmps46
        go_wp2_with first | (go_at_call 44; refine (hC _).mono ?_; rintro e w1 ⟨n, rfl, rfl⟩) | (go_at_call 45; refine (hN _).mono ?_; rintro e w2 ⟨rfl, rfl⟩) | (go_at_call 75; refine (hI _).mono ?_; rintro e w2 ⟨rfl, rfl⟩)
        refine post_cells rfl w.heap.size [.string ⟨#[]⟩, .string ⟨#[]⟩] (.bool false) rfl rfl rfl Tryz.underlying31 rfl sizeO (range_puts [.string ⟨#[]⟩, .string ⟨#[]⟩] (Nat.le_refl _) (range_newD w #[.string ⟨#[]⟩, .string ⟨#[]⟩] 31 n)) ?_
        exact ⟨rfl, belowCells (Nat.le_refl _) [.string ⟨#[]⟩, .string ⟨#[]⟩] _ _ (below_newD _ _ _)⟩
      | true =>
        have ho : o = some (p, r) := HO.out.trans (by simp)
        subst ho
        clear HO
        go_enter Tryz.func46, Tryz.ntmps46
        go_wp2_with first | (go_at_call 44; refine (hC _).mono ?_; rintro e w1 ⟨n, rfl, rfl⟩) | (go_at_call 45; refine (hN _).mono ?_; rintro e w2 ⟨rfl, rfl⟩) | (go_at_call 75; refine (hI _).mono ?_; rintro e w2 ⟨rfl, rfl⟩)
        refine post_cells rfl w.heap.size [.string ⟨p.toArray⟩, .string ⟨r.toArray⟩] (.bool true) rfl rfl rfl Tryz.underlying31 rfl sizeO (range_puts [.string ⟨p.toArray⟩, .string ⟨r.toArray⟩] (cs := [.string ⟨#[]⟩, .string ⟨#[]⟩]) (Nat.le_refl 2) (range_newD w #[.string ⟨#[]⟩, .string ⟨#[]⟩] 31 n)) ?_
        exact ⟨rfl, belowCells (Nat.le_refl _) [.string ⟨p.toArray⟩, .string ⟨r.toArray⟩] _ _ (below_newD _ _ _)⟩
end Go.Proofs.YtlgodpadcilcaaaGreatDoor
namespace Go.Proofs.YtlgodpadcilcaaaGreatDoor
open Go.ChangeShapes Go.WideShapes Go.ChangeAt Go.RowKit

/-- a block that is still as it was made -/
structure Made (w : World) (B : Nat) (C : Array Value) (T : TypeId) : Prop where
  at' : w.heap[B]? = some (.cells C T)
theorem Made.new (w : World) (C : Array Value) (T : TypeId) (n : Nat) : Made ((w.alloc (.cells C T)).drewN n) w.heap.size C T := ⟨heap_alloc_new _ _⟩
theorem Made.lt {w : World} {B : Nat} {C : Array Value} {T : TypeId} (h : Made w B C T) : B < w.heap.size := by
  rcases Nat.lt_or_ge B w.heap.size with h1 | h1
  · exact h1
  · have := h.at'; rw [Array.getElem?_eq_none h1] at this; cases this
theorem Made.below {w w' : World} {B : Nat} {C : Array Value} {T : TypeId} (h : Made w B C T) (hb : Below w.heap.size w w') : Made w' B C T := ⟨by rw [hb.block B h.lt]; exact h.at'⟩
theorem Made.cell {w : World} {B : Nat} {C : Array Value} {T : TypeId} (h : Made w B C T) (i : Nat) : w.cell? ⟨B, i, none⟩ = C[i]? := by simp [World.cell?, h.at']
theorem Made.frz {w : World} {B : Nat} {C : Array Value} {T : TypeId} (h : Made w B C T) (i : Nat) : w.frozen? ⟨B, i, none⟩ = false := by simp [World.frozen?, h.at']
theorem Made.range {w : World} {B : Nat} {C : Array Value} {T : TypeId} (h : Made w B C T) : w.rangeAt B 0 C.toList := fun j v hv => by rw [Nat.zero_add, h.cell]; simpa using hv
theorem Made.alloc {w : World} {B : Nat} {C : Array Value} {T : TypeId} (h : Made w B C T) (o : Obj) : Made (w.alloc o) B C T := ⟨by rw [Below.heap_alloc _ _ _ h.lt]; exact h.at'⟩

theorem Made.puts {w : World} {B : Nat} {C : Array Value} {T : TypeId} (h : Made w B C T) (xs : List Value) (hl : xs.length ≤ C.size) (o : Obj) : ((w.setCells B 0 xs).alloc o).rangeAt B 0 xs := fun j v hv => by
  rw [World.cell?_alloc_lt _ _ _ (by rw [setCells_size]; exact h.lt)]
  exact range_puts xs (cs := C.toList) (by simpa using hl) h.range j v hv
theorem Made.belowPuts {V w : World} {B n : Nat} (hb : Below n V w) (hB : n ≤ B) (hs : n ≤ w.heap.size) (xs : List Value) (o : Obj) : Below n V ((w.setCells B 0 xs).alloc o) :=
  (belowCells hB xs 0 w hb).alloc (by rw [setCells_size]; exact hs) _

set_option maxHeartbeats 2000000 in
theorem parseSubject_none (s : ByteArray) (w : World) (hs : s.size ≤ 9223372036854775807) (hc : cutF 35 s.data.toList = none) :
    Calls Tryz.prog 47 #[.string s] w fun e w' => e = .returned (.tuple #[.agg (subC (subS s.data.toList)).toArray, .bool (subS s.data.toList).isSome]) ∧ Below w.heap.size w w' := by
  have hS : subS s.data.toList = (objS s.data.toList).map (fun x => (x.1, x.2, [])) := by unfold subS; rw [hc]
  rw [hS]
  have hC := fun u => cut_big s 35 u hs
  unfold cutV at hC
  rw [hc] at hC
  simp only at hC
  have hO := fun u => parseObject_any s u hs
  generalize objS s.data.toList = o at *
  clear hS hc
  cases o with
  | none =>
    have hO2 : ∀ u, Calls Tryz.prog 46 #[.string s] u fun e w' => e = .returned (.tuple #[.agg #[.string ⟨#[]⟩, .string ⟨#[]⟩], .bool false]) ∧ Below u.heap.size u w' := hO
    clear hO
    go_enter Tryz.func47, Tryz.ntmps47
    go_upto_region 4 with (go_at_call 44; refine (hC _).mono ?_; rintro e w1 ⟨n, rfl, rfl⟩)
    go_wp2_with (go_at_call 46; refine (hO2 _).mono ?_; rintro e w2 ⟨rfl, hb2⟩; have HM := (Made.new w #[.string ⟨#[]⟩, .string ⟨#[]⟩, .string ⟨#[]⟩] 33 n).below hb2; have hlt := HM.lt; have c0 := HM.cell 0; have c1 := HM.cell 1; have c2 := HM.cell 2; have f0 := HM.frz 0; have f1 := HM.frz 1; have f2 := HM.frz 2; simp only [List.getElem?_toArray, List.getElem?_cons_zero, List.getElem?_cons_succ] at c0 c1 c2; have HB : Hid _ := hb2; clear hb2)
    refine post_cells rfl w.heap.size [.string ⟨#[]⟩, .string ⟨#[]⟩, .string ⟨#[]⟩] (.bool false) rfl rfl rfl Tryz.underlying33 rfl sizeSu (HM.puts [.string ⟨#[]⟩, .string ⟨#[]⟩, .string ⟨#[]⟩] (Nat.le_refl 3) _) ?_
    exact ⟨rfl, Made.belowPuts ((below_newD _ _ _).trans (HB.out.mono (by simp))) (Nat.le_refl _) (Nat.le_of_lt hlt) [.string ⟨#[]⟩, .string ⟨#[]⟩, .string ⟨#[]⟩] _⟩
  | some x =>
    obtain ⟨p, r⟩ := x
    have hO2 : ∀ u, Calls Tryz.prog 46 #[.string s] u fun e w' => e = .returned (.tuple #[.agg #[.string ⟨p.toArray⟩, .string ⟨r.toArray⟩], .bool true]) ∧ Below u.heap.size u w' := hO
    clear hO
    go_enter Tryz.func47, Tryz.ntmps47
    go_upto_region 4 with (go_at_call 44; refine (hC _).mono ?_; rintro e w1 ⟨n, rfl, rfl⟩)
    go_wp2_with (go_at_call 46; refine (hO2 _).mono ?_; rintro e w2 ⟨rfl, hb2⟩; have HM := (Made.new w #[.string ⟨#[]⟩, .string ⟨#[]⟩, .string ⟨#[]⟩] 33 n).below hb2; have hlt := HM.lt; have c0 := HM.cell 0; have c1 := HM.cell 1; have c2 := HM.cell 2; have f0 := HM.frz 0; have f1 := HM.frz 1; have f2 := HM.frz 2; simp only [List.getElem?_toArray, List.getElem?_cons_zero, List.getElem?_cons_succ] at c0 c1 c2; have HB : Hid _ := hb2; clear hb2)
    refine post_cells rfl w.heap.size [.string ⟨p.toArray⟩, .string ⟨r.toArray⟩, .string ⟨#[]⟩] (.bool true) rfl rfl rfl Tryz.underlying33 rfl sizeSu (HM.puts [.string ⟨p.toArray⟩, .string ⟨r.toArray⟩, .string ⟨#[]⟩] (Nat.le_refl 3) _) ?_
    exact ⟨rfl, Made.belowPuts ((below_newD _ _ _).trans (HB.out.mono (by simp))) (Nat.le_refl _) (Nat.le_of_lt hlt) [.string ⟨p.toArray⟩, .string ⟨r.toArray⟩, .string ⟨#[]⟩] _⟩
set_option maxHeartbeats 2000000 in
theorem parseSubject_some (s : ByteArray) (w : World) (hs : s.size ≤ 9223372036854775807) {a b : List UInt8} (hc : cutF 35 s.data.toList = some (a, b)) :
    Calls Tryz.prog 47 #[.string s] w fun e w' => e = .returned (.tuple #[.agg (subC (subS s.data.toList)).toArray, .bool (subS s.data.toList).isSome]) ∧ Below w.heap.size w w' := by
  have hl := extract_le hc
  have hS : subS s.data.toList = if nameL b then (objS a).map (fun x => (x.1, x.2, b)) else none := by unfold subS; rw [hc]
  rw [hS]
  have hC := fun u => cut_big s 35 u hs
  unfold cutV at hC
  rw [hc] at hC
  simp only at hC
  have hO := fun u => parseObject_any ⟨a.toArray⟩ u (by simp [ByteArray.size]; omega)
  have hN := fun u => isName_any ⟨b.toArray⟩ u
  rw [show (⟨a.toArray⟩ : ByteArray).data.toList = a from rfl] at hO
  rw [show (⟨b.toArray⟩ : ByteArray).data.toList = b from rfl] at hN
  generalize objS a = o at *
  generalize hn : nameL b = c at *
  clear hS hc hn hl
  unfold strV at hC
  have HE : Hid (∀ p r : List UInt8, subC (some (p, r, b)) = [.string ⟨p.toArray⟩, .string ⟨r.toArray⟩, .string ⟨b.toArray⟩]) := fun _ _ => rfl
  generalize (⟨a.toArray⟩ : ByteArray) = A at *
  cases c with
  | false =>
    go_enter Tryz.func47, Tryz.ntmps47
    go_wp2_with first | (go_at_call 44; refine (hC _).mono ?_; rintro e w1 ⟨n, rfl, rfl⟩) | (go_at_call 45; refine (hN _).mono ?_; rintro e w2 ⟨rfl, rfl⟩)
    refine post_cells rfl w.heap.size [.string ⟨#[]⟩, .string ⟨#[]⟩, .string ⟨#[]⟩] (.bool false) rfl rfl rfl Tryz.underlying33 rfl sizeSu (range_puts [.string ⟨#[]⟩, .string ⟨#[]⟩, .string ⟨#[]⟩] (Nat.le_refl _) (range_newD w #[.string ⟨#[]⟩, .string ⟨#[]⟩, .string ⟨#[]⟩] 33 n)) ?_
    exact ⟨rfl, belowCells (Nat.le_refl _) [.string ⟨#[]⟩, .string ⟨#[]⟩, .string ⟨#[]⟩] _ _ (below_newD _ _ _)⟩
  | true =>
    cases o with
    | none =>
      have hO2 : ∀ u, Calls Tryz.prog 46 #[.string A] u fun e w' => e = .returned (.tuple #[.agg #[.string ⟨#[]⟩, .string ⟨#[]⟩], .bool false]) ∧ Below u.heap.size u w' := hO
      clear hO
      go_enter Tryz.func47, Tryz.ntmps47
      go_upto_region 4 with first | (go_at_call 44; refine (hC _).mono ?_; rintro e w1 ⟨n, rfl, rfl⟩) | (go_at_call 45; refine (hN _).mono ?_; rintro e w2 ⟨rfl, rfl⟩)
      go_wp2_with (go_at_call 46; refine (hO2 _).mono ?_; rintro e w2 ⟨rfl, hb2⟩; have HM := (Made.new w #[.string ⟨#[]⟩, .string ⟨#[]⟩, .string ⟨#[]⟩] 33 n).below hb2; have hlt := HM.lt; have c0 := HM.cell 0; have c1 := HM.cell 1; have c2 := HM.cell 2; have f0 := HM.frz 0; have f1 := HM.frz 1; have f2 := HM.frz 2; simp only [List.getElem?_toArray, List.getElem?_cons_zero, List.getElem?_cons_succ] at c0 c1 c2; have HB : Hid _ := hb2; clear hb2)
      refine post_cells rfl w.heap.size [.string ⟨#[]⟩, .string ⟨#[]⟩, .string ⟨#[]⟩] (.bool false) rfl rfl rfl Tryz.underlying33 rfl sizeSu (HM.puts [.string ⟨#[]⟩, .string ⟨#[]⟩, .string ⟨#[]⟩] (Nat.le_refl 3) _) ?_
      exact ⟨rfl, Made.belowPuts ((below_newD _ _ _).trans (HB.out.mono (by simp))) (Nat.le_refl _) (Nat.le_of_lt hlt) [.string ⟨#[]⟩, .string ⟨#[]⟩, .string ⟨#[]⟩] _⟩
    | some x =>
      obtain ⟨p, r⟩ := x
      have hO2 : ∀ u, Calls Tryz.prog 46 #[.string A] u fun e w' => e = .returned (.tuple #[.agg #[.string ⟨p.toArray⟩, .string ⟨r.toArray⟩], .bool true]) ∧ Below u.heap.size u w' := hO
      clear hO
      go_enter Tryz.func47, Tryz.ntmps47
      go_upto_region 4 with first | (go_at_call 44; refine (hC _).mono ?_; rintro e w1 ⟨n, rfl, rfl⟩) | (go_at_call 45; refine (hN _).mono ?_; rintro e w2 ⟨rfl, rfl⟩)
      go_wp2_with (go_at_call 46; refine (hO2 _).mono ?_; rintro e w2 ⟨rfl, hb2⟩; have HM := (Made.new w #[.string ⟨#[]⟩, .string ⟨#[]⟩, .string ⟨#[]⟩] 33 n).below hb2; have hlt := HM.lt; have c0 := HM.cell 0; have c1 := HM.cell 1; have c2 := HM.cell 2; have f0 := HM.frz 0; have f1 := HM.frz 1; have f2 := HM.frz 2; simp only [List.getElem?_toArray, List.getElem?_cons_zero, List.getElem?_cons_succ] at c0 c1 c2; have HB : Hid _ := hb2; clear hb2)
      refine post_cells rfl w.heap.size [.string ⟨p.toArray⟩, .string ⟨r.toArray⟩, .string ⟨b.toArray⟩] (.bool true) rfl rfl rfl Tryz.underlying33 rfl sizeSu (HM.puts [.string ⟨p.toArray⟩, .string ⟨r.toArray⟩, .string ⟨b.toArray⟩] (Nat.le_refl 3) _) ?_
      exact ⟨rfl, Made.belowPuts ((below_newD _ _ _).trans (HB.out.mono (by simp))) (Nat.le_refl _) (Nat.le_of_lt hlt) [.string ⟨p.toArray⟩, .string ⟨r.toArray⟩, .string ⟨b.toArray⟩] _⟩
theorem parseSubject_any (s : ByteArray) (w : World) (hs : s.size ≤ 9223372036854775807) :
    Calls Tryz.prog 47 #[.string s] w fun e w' => e = .returned (.tuple #[.agg (subC (subS s.data.toList)).toArray, .bool (subS s.data.toList).isSome]) ∧ Below w.heap.size w w' := by
  cases hc : cutF 35 s.data.toList with
  | none => exact parseSubject_none s w hs hc
  | some x => exact parseSubject_some s w hs (a := x.1) (b := x.2) hc
end Go.Proofs.YtlgodpadcilcaaaGreatDoor
namespace Go.Proofs.YtlgodpadcilcaaaGreatDoor
open Go.ChangeShapes Go.WideShapes Go.ChangeAt Go.RowKit

/-- the first place at which p holds, or -1 -/
def firstI {α : Type} (p : α → Bool) (l : List α) : Int := match l.findIdx? p with | some i => (i : Int) | none => -1
theorem firstI_at {α : Type} {p : α → Bool} {l : List α} {k : Nat} (hk : k < l.length) (h : p l[k] = true) (hl : ∀ j (hj : j < l.length), j < k → p l[j] = false) : firstI p l = (k : Int) := by
  unfold firstI
  have : l.findIdx? p = some k := List.findIdx?_eq_some_iff_getElem.2 ⟨hk, h, fun j hj => by rw [hl j (by omega) hj]; simp⟩
  rw [this]
theorem firstI_none {α : Type} {p : α → Bool} {l : List α} (hl : ∀ j (hj : j < l.length), p l[j] = false) : firstI p l = -1 := by
  unfold firstI
  have : l.findIdx? p = none := by
    rw [List.findIdx?_eq_none_iff]
    intro x hx
    obtain ⟨j, hj, rfl⟩ := List.getElem_of_mem hx
    exact hl j hj
  rw [this]

set_option maxHeartbeats 1000000 in
theorem rType_any (P : Nat) (v : Value) (xs : List (List UInt8)) (s : ByteArray) (w : World) (hc : w.cell? ⟨P, 0, none⟩ = some v) (h : w.ownsRow 0 9 1 v xs.length (xs.map strV)) (hl : xs.length ≤ 1000000) :
    Calls Tryz.prog 27 #[.pointer (some ⟨P, 0, none⟩), .string s] w fun e w' => e = .returned (.int .i64 (firstI (· == s.data.toList) xs)) ∧ w' = w := by
  have hcell : ∀ a cap, v = .slice (some a) xs.length cap → ∀ j (hj : j < xs.length), w.cell? (a.add j) = some (strV xs[j]) := fun a cap hv j hj => by
    rcases h.2 with ⟨e, _⟩ | ⟨g, cap', cur, e, _⟩
    · rw [hv] at e; cases e
    · rw [hv] at e
      cases e
      rw [Addr.add_mid, Nat.zero_add]
      have h' := h
      rw [hv] at h'
      rw [h'.cellAt j (by omega)]
      simp [List.getElem?_eq_getElem hj]
  obtain ⟨a0, c0, rfl⟩ : ∃ a c, v = .slice a xs.length c := by
    rcases h.2 with ⟨e, h0⟩ | ⟨g, cap', cur, e, _⟩
    · rw [h0]; exact ⟨_, _, e⟩
    · exact ⟨_, _, e⟩
  have hnil : a0 = none → xs.length = 0 := fun e => by
    rcases h.2 with ⟨_, h0⟩ | ⟨g, cap', cur, e2, _⟩
    · exact h0
    · rw [e] at e2; cases e2
  clear h
  have HF : Hid (∀ k (hk : k < xs.length), xs[k] = s.data.toList → (∀ j (hj : j < xs.length), j < k → xs[j] ≠ s.data.toList) → firstI (· == s.data.toList) xs = (k : Int)) := fun k hk h1 h2 => firstI_at hk (by simp [h1]) (fun j hj hjk => by simp [h2 j hj hjk])
  have HG : Hid ((∀ j (hj : j < xs.length), xs[j] ≠ s.data.toList) → firstI (· == s.data.toList) xs = -1) := fun h2 => firstI_none (fun j hj => by simp [h2 j hj])
  generalize firstI (· == s.data.toList) xs = r at *
  have HC : Hid _ := hcell
  clear hcell
  generalize hn : xs.length = n at hl hc hnil
  have HN : Hid (xs.length = n) := hn
  clear hn
  go_enter Tryz.func27, Tryz.ntmps27
  go_wp2
  go_loop [5] (fun i => ∃ k : Nat, k ≤ n ∧ i = .int .i64 k ∧ Hid (∀ j (hj : j < xs.length), j < k → xs[j] ≠ s.data.toList)) (fun i => n - (intOf i).toNat)
  case atStart => exact ⟨0, Nat.zero_le _, rfl, fun j hj h => by omega⟩
  case round =>
    obtain ⟨k, hk, rfl, H⟩ := hrel
    by_cases hlt : k < n
    · obtain ⟨a, rfl⟩ : ∃ a, a0 = some a := by
        cases a0 with
        | none => have := hnil rfl; omega
        | some a => exact ⟨a, rfl⟩
      have hkx : k < xs.length := by have := HN.out; omega
      have h1 : w.cell? (a.add k) = some (.string ⟨xs[k].toArray⟩) := by
        have := HC.out a c0 rfl k (by omega)
        exact this
      by_cases hq : xs[k] = s.data.toList
      · have hqb : ((⟨xs[k].toArray⟩ : ByteArray).toList == s.toList) = true := by rw [ByteArray.toList_eq, ByteArray.toList_eq, beq_iff_eq]; exact hq
        have e : r = (k : Int) := HF.out k hkx hq H.out
        subst e
        clear HF HG HC hq
        generalize (⟨xs[k].toArray⟩ : ByteArray) = y at *
        go_wp2
        go_ret
        exact ⟨rfl, rfl⟩
      · have hqb : ((⟨xs[k].toArray⟩ : ByteArray).toList == s.toList) = false := by rw [ByteArray.toList_eq, ByteArray.toList_eq, beq_eq_false_iff_ne]; exact hq
        have H2 : Hid (∀ j (hj : j < xs.length), j < k + 1 → xs[j] ≠ s.data.toList) := fun j hj hjk => by
          by_cases e : j = k
          · subst e; exact hq
          · exact H.out j hj (by omega)
        clear HF HG HC hq
        generalize (⟨xs[k].toArray⟩ : ByteArray) = y at *
        go_wp2
        go_round
        case rel => exact ⟨k + 1, by omega, by go_num, H2.out⟩
        case measure => simp [intOf]; omega
    · have e : r = -1 := HG.out (fun j hj => H.out j hj (by have := HN.out; omega))
      subst e
      clear HF HG HC
      go_wp2
      go_ret
      exact ⟨rfl, rfl⟩
end Go.Proofs.YtlgodpadcilcaaaGreatDoor
namespace Go.Proofs.YtlgodpadcilcaaaGreatDoor
open Go.ChangeShapes Go.WideShapes Go.ChangeAt Go.RowKit

/-- a relation of the reference's: its cells -/
structure RR where
  ty : Nat
  nm : List UInt8
  set : Bool
  top : Nat
  line : Nat
def RR.cells (x : RR) : List Value := [.int .i64 (x.ty : Int), strV x.nm, .bool x.set, .int .i64 (x.top : Int), .int .i64 (x.line : Int)]
theorem RR.len (x : RR) : x.cells.length = 5 := rfl
def RowRR (w : World) (v : Value) (rs : List RR) : Prop := w.ownsRow 0 69 5 v rs.length (rs.map RR.cells).flatten
theorem RowRR.cell {w : World} {g cap : Nat} {rs : List RR} (h : RowRR w (.slice (some ⟨g, 0, none⟩) rs.length cap) rs) (j : Nat) (hj : j < rs.length) (i : Nat) (hi : i < 5) : w.cell? ⟨g, j * 5 + i, none⟩ = rs[j].cells[i]? := by
  rw [Nat.mul_comm j, h.cellAt _ (by omega), flattenK 5 (rs.map RR.cells) (fun cs hcs => by obtain ⟨x, _, rfl⟩ := List.mem_map.1 hcs; exact x.len) j (by simpa using hj) i hi]
  simp

def relAt (kind : Int) (s : List UInt8) (x : RR) : Bool := ((x.ty : Int) == kind) && (x.nm == s)

set_option maxHeartbeats 2000000 in
theorem rRel_any (P : Nat) (v : Value) (rs : List RR) (kind : Int) (s : ByteArray) (w : World) (hc : w.cell? ⟨P, 1, none⟩ = some v) (h : RowRR w v rs) (hl : rs.length ≤ 1000000) :
    Calls Tryz.prog 26 #[.pointer (some ⟨P, 0, none⟩), .int .i64 kind, .string s] w fun e w' => e = .returned (.int .i64 (firstI (relAt kind s.data.toList) rs)) ∧ w' = w := by
  have hcell : ∀ g cap, v = .slice (some ⟨g, 0, none⟩) rs.length cap → ∀ j (hj : j < rs.length), w.cell? ⟨g, j * 5, none⟩ = some (.int .i64 (rs[j].ty : Int)) ∧ w.cell? ⟨g, j * 5 + 1, none⟩ = some (strV rs[j].nm) := fun g cap hv j hj => by
    rw [hv] at h
    exact ⟨by have := RowRR.cell h j hj 0 (by decide); rw [Nat.add_zero] at this; rw [this]; rfl, by rw [RowRR.cell h j hj 1 (by decide)]; rfl⟩
  obtain ⟨a0, c0, rfl, hform⟩ : ∃ a c, v = .slice a rs.length c ∧ ∀ q, a = some q → ∃ g, q = ⟨g, 0, none⟩ := by
    rcases h.2 with ⟨e, h0⟩ | ⟨g, cap', cur, e, _⟩
    · rw [h0]; exact ⟨_, _, e, fun q hq => by cases hq⟩
    · exact ⟨_, _, e, fun q hq => by cases hq; exact ⟨g, rfl⟩⟩
  have hnil : a0 = none → rs.length = 0 := fun e => by
    rcases h.2 with ⟨_, h0⟩ | ⟨g, cap', cur, e2, _⟩
    · exact h0
    · rw [e] at e2; cases e2
  clear h
  have HF : Hid (∀ k (hk : k < rs.length), relAt kind s.data.toList rs[k] = true → (∀ j (hj : j < rs.length), j < k → relAt kind s.data.toList rs[j] = false) → firstI (relAt kind s.data.toList) rs = (k : Int)) := fun k hk h1 h2 => firstI_at hk h1 h2
  have HG : Hid ((∀ j (hj : j < rs.length), relAt kind s.data.toList rs[j] = false) → firstI (relAt kind s.data.toList) rs = -1) := fun h2 => firstI_none h2
  generalize firstI (relAt kind s.data.toList) rs = r at *
  have HC : Hid _ := hcell
  clear hcell
  generalize hn : rs.length = n at hl hc hnil
  have HN : Hid (rs.length = n) := hn
  clear hn
  go_enter Tryz.func26, Tryz.ntmps26
  go_wp2
  go_loop [7] (fun i => ∃ k : Nat, k ≤ n ∧ i = .int .i64 k ∧ Hid (∀ j (hj : j < rs.length), j < k → relAt kind s.data.toList rs[j] = false)) (fun i => n - (intOf i).toNat)
  case atStart => exact ⟨0, Nat.zero_le _, rfl, fun j hj h => by omega⟩
  case round =>
    obtain ⟨k, hk, rfl, H⟩ := hrel
    by_cases hlt : k < n
    · obtain ⟨g, rfl⟩ : ∃ g, a0 = some ⟨g, 0, none⟩ := by
        cases a0 with
        | none => have := hnil rfl; omega
        | some a => obtain ⟨g, rfl⟩ := hform a rfl; exact ⟨g, rfl⟩
      have hkx : k < rs.length := by have := HN.out; omega
      obtain ⟨h1, h2⟩ := HC.out g c0 rfl k hkx
      unfold strV at h2
      have HRel : Hid (relAt kind s.data.toList rs[k] = (((rs[k].ty : Int) == kind) && ((⟨rs[k].nm.toArray⟩ : ByteArray).toList == s.toList))) := by show _ = _; unfold relAt; rw [ByteArray.toList_eq, ByteArray.toList_eq]
      have HK := fun hh => HF.out k hkx hh H.out
      have HK2 : Hid (relAt kind s.data.toList rs[k] = true → r = (k : Int)) := HK
      have HK3 : Hid (relAt kind s.data.toList rs[k] = false → ∀ j (hj : j < rs.length), j < k + 1 → relAt kind s.data.toList rs[j] = false) := fun hq j hj hjk => by
        by_cases e : j = k
        · subst e; exact hq
        · exact H.out j hj (by omega)
      clear HK HF HG HC hform hnil
      generalize relAt kind s.data.toList rs[k] = ra at *
      generalize (⟨rs[k].nm.toArray⟩ : ByteArray) = y at *
      generalize rs[k].ty = t at *
      cases hq1 : ((t : Int) == kind) with
      | true =>
        rw [hq1] at HRel
        cases hq2 : (y.toList == s.toList) with
        | true =>
          rw [hq2] at HRel
          have e : r = (k : Int) := HK2.out HRel.out
          subst e
          go_wp2
          go_ret
          exact ⟨rfl, rfl⟩
        | false =>
          rw [hq2] at HRel
          have e := HK3.out HRel.out
          have HE : Hid _ := e
          clear e
          go_wp2
          go_round
          case rel => exact ⟨k + 1, by omega, by go_num, HE.out⟩
          case measure => simp [intOf]; omega
      | false =>
        rw [hq1] at HRel
        have e := HK3.out HRel.out
        have HE : Hid _ := e
        clear e
        go_wp2
        go_round
        case rel => exact ⟨k + 1, by omega, by go_num, HE.out⟩
        case measure => simp [intOf]; omega
    · have e : r = -1 := HG.out (fun j hj => H.out j hj (by have := HN.out; omega))
      subst e
      clear HF HG HC
      go_wp2
      go_ret
      exact ⟨rfl, rfl⟩
end Go.Proofs.YtlgodpadcilcaaaGreatDoor
namespace Go.Proofs.YtlgodpadcilcaaaGreatDoor
open Go.ChangeShapes Go.WideShapes Go.ChangeAt Go.RowKit

theorem infoN : (Tryz.prog.info? 124).map (fun i => (i.zero, i.size, i.bytes)) = some (some (.agg #[.int .u8 0, .string ⟨#[]⟩, .string ⟨#[]⟩, .slice none 0 0]), 4, 64) := by kernel_rfl

/-- a node's four cells -/
def NodeV (sg : Int) (a b : ByteArray) (p : Option Addr) (l c : Nat) : List Value := [.int .u8 sg, .string a, .string b, .slice p l c]

set_option maxHeartbeats 4000000 in
set_option maxRecDepth 100000 in
theorem node_any (P : Nat) (v : Value) (n : Nat) (XS : List Value) (sg : Int) (a b : ByteArray) (p : Option Addr) (l c : Nat) (w : World) (hc : w.cell? ⟨P, 2, none⟩ = some v) (hf : w.frozen? ⟨P, 2, none⟩ = false) (h : w.ownsRow 0 124 4 v n XS) (hvP : v.ownBlock ≠ some P) (hl : n ≤ 1000000) :
    Calls Tryz.prog 80 #[.pointer (some ⟨P, 0, none⟩), .agg (NodeV sg a b p l c).toArray] w fun e w' => e = .returned (.int .i64 (n : Nat)) ∧
      ∃ g cap, w'.cell? ⟨P, 2, none⟩ = some (.slice (some ⟨g, 0, none⟩) (n + 1) cap) ∧ w'.ownsRow 0 124 4 (.slice (some ⟨g, 0, none⟩) (n + 1) cap) (n + 1) (XS ++ NodeV sg a b p l c) ∧ (v.ownBlock = some g ∨ w.heap.size ≤ g) ∧ g ≠ P ∧
        w'.os = w.os ∧ w'.tape = w.tape ∧ w'.output = w.output ∧ w.heap.size ≤ w'.heap.size ∧ (∀ k, k < w.heap.size → k ≠ P → v.ownBlock ≠ some k → w'.heap[k]? = w.heap[k]?) ∧ (∀ i, i ≠ 2 → w'.cell? ⟨P, i, none⟩ = w.cell? ⟨P, i, none⟩) ∧ ∀ i, w'.frozen? ⟨P, i, none⟩ = w.frozen? ⟨P, i, none⟩ := by
  obtain ⟨i0, hi, hz0, hz1, hz2⟩ := info_parts infoN
  have hPw : P < w.heap.size := World.block_lt_of_cell? w ⟨P, 2, none⟩ hc
  obtain ⟨a0, c0, rfl⟩ : ∃ a c, v = .slice a n c := by
    rcases h.2 with ⟨e, h0⟩ | ⟨g, cap', cur, e, _⟩
    · rw [h0]; exact ⟨_, _, e⟩
    · exact ⟨_, _, e⟩
  have eV : (NodeV sg a b p l c).toArray = #[.int .u8 sg, .string a, .string b, .slice p l c] := rfl
  rw [eV]
  clear eV
  have hal : Below w.heap.size w (w.alloc (.cells #[.int .u8 sg, .string a, .string b, .slice p l c] 124)) := (Below.refl _ _).alloc (Nat.le_refl _) _
  have hV := range_new w #[.int .u8 sg, .string a, .string b, .slice p l c] 124
  have hc0 : (w.alloc (.cells #[.int .u8 sg, .string a, .string b, .slice p l c] 124)).cell? ⟨P, 2, none⟩ = some (.slice a0 n c0) := by rw [hal.cell (p := ⟨P, 2, none⟩) hPw]; exact hc
  have hf0 : (w.alloc (.cells #[.int .u8 sg, .string a, .string b, .slice p l c] 124)).frozen? ⟨P, 2, none⟩ = false := by rw [hal.frozen (p := ⟨P, 2, none⟩) hPw]; exact hf
  have hown0 : (w.alloc (.cells #[.int .u8 sg, .string a, .string b, .slice p l c] 124)).ownsRow 0 124 4 (.slice a0 n c0) n XS := h.alloc _
  have hs0 : (w.alloc (.cells #[.int .u8 sg, .string a, .string b, .slice p l c] 124)).heap.size = w.heap.size + 1 := by simp
  go_enter Tryz.func80, Tryz.ntmps80
  go_upto_region 1 with fail
  generalize w.alloc (.cells #[.int .u8 sg, .string a, .string b, .slice p l c] 124) = w0 at *
  have v0 : w0.cell? ⟨w.heap.size, 0, none⟩ = some (.int .u8 sg) := hV 0 _ rfl
  have v1 : w0.cell? ⟨w.heap.size, 1, none⟩ = some (.string a) := hV 1 _ rfl
  have v2 : w0.cell? ⟨w.heap.size, 2, none⟩ = some (.string b) := hV 2 _ rfl
  have v3 : w0.cell? ⟨w.heap.size, 3, none⟩ = some (.slice p l c) := hV 3 _ rfl
  clear hV
  have hown1 : ((w0.alloc (.cells #[.int .u8 sg, .string a, .string b, .slice p l c] 124)).drew).ownsRow 0 124 4 (.slice a0 n c0) n XS := hown0.alloc _
  have hnews : ∀ j u, (NodeV sg a b p l c)[j]? = some u → ((w0.alloc (.cells #[.int .u8 sg, .string a, .string b, .slice p l c] 124)).drew).cell? ((⟨w0.heap.size, 0, none⟩ : Addr).add j) = some u :=
    World.news_of_block (w := (w0.alloc (.cells #[.int .u8 sg, .string a, .string b, .slice p l c] 124)).drew) (cs := #[.int .u8 sg, .string a, .string b, .slice p l c]) (t := 124) (fr := (0, 0)) (heap_alloc_new w0 _)
  have hone : ∀ u ∈ NodeV sg a b p l c, u.oneCell' = true := fun u hu => by simp [NodeV] at hu; rcases hu with rfl | rfl | rfl | rfl <;> rfl
  have HG : Hid (∀ w1 : World, ((w0.alloc (.cells #[.int .u8 sg, .string a, .string b, .slice p l c] 124)).drew).grownBy w1 (Value.slice a0 n c0).ownBlock → w1.heap[P]? = w0.heap[P]?) := fun w1 hg => by
    refine (hg.block P ?_ (fun e => hvP e.symm)).trans (Below.heap_alloc _ _ _ (by omega))
    show P < (w0.alloc _).heap.size
    simp; omega
  have HS0 : Hid (w0.heap.size = w.heap.size + 1) := hs0
  have hP0 : P < w0.heap.size := by omega
  have hV0 : w.heap.size < w0.heap.size := by omega
  clear hs0
  go_region_law (refine step_append_lies _ rfl (.tmp 9) (.tmp 11) 61 rfl 0 124 i0 _ 4 64 Tryz.underlying61 hi hz0 hz1 hz2 rfl (by decide) (.slice a0 n c0) n XS (by simp [Act.eval]) hown1 ⟨w0.heap.size, 0, none⟩ 1 1 (NodeV sg a b p l c) (by simp [Act.eval]) rfl hnews hone (by decide) (by unfold maxLen; omega) (by omega) (Nat.zero_le _) (w0.heap.size + 1) (by simp) ?_; intro g cap w1 hown2 hgrow2 hat2 hlt2; have hP1 : w1.cell? ⟨P, 2, none⟩ = some (.slice a0 n c0) := (World.cell?_of_block (w := w0) (a := ⟨P, 2, none⟩) (HG.out w1 hgrow2)).trans hc0; have hPf : w1.frozen? ⟨P, 2, none⟩ = false := (World.frozen?_of_block (w := w0) (a := ⟨P, 2, none⟩) (HG.out w1 hgrow2)).trans hf0)
  all_goals have hgP : g ≠ P := by
              have hs := HS0.out
              rcases hat2 with e | e
              · intro e2; rw [e2] at e; exact hvP e
              · omega
  all_goals have hs2 : (w0.alloc (.cells #[.int .u8 sg, .string a, .string b, .slice p l c] 124)).drew.heap.size = w0.heap.size + 1 := by show (w0.alloc _).heap.size = _; simp
  all_goals have hg2s := hgrow2.size
  all_goals have hset : (w1.setCell ⟨P, 2, none⟩ (.slice (some ⟨g, 0, none⟩) (n + 1) cap)).cell? ⟨P, 2, none⟩ = some (.slice (some ⟨g, 0, none⟩) (n + 1) cap) := World.cell?_setCell_same' _ _ _ (by rw [hP1]; rfl)
  all_goals have HSet : Hid _ := hset
  all_goals go_wp2
  all_goals go_ret
  all_goals
    have hs := HS0.out
    have hgb : ∀ k, k < w.heap.size → (Value.slice a0 n c0).ownBlock ≠ some k → w1.heap[k]? = w.heap[k]? := fun k hk hkr => by
      refine (hgrow2.block k (by omega) (fun e => hkr e.symm)).trans ((Below.heap_alloc w0 _ k (by omega)).trans (hal.block k hk))
    refine ⟨by first | rfl | (congr 2; omega) | simp, g, cap, HSet.out, World.ownsRow.kept hown2 (setCell_grown w1 P 2 _) (.inr (fun e => hgP (by cases e; rfl))), hat2.imp id (fun e => by omega), hgP, ?_, ?_, ?_, by simp; omega, fun k hk hkP hkr => ?_, fun i hi2 => ?_, fun i => ?_⟩
    · show w1.os = w.os; rw [hgrow2.os]; exact hal.os
    · show w1.tape = w.tape; rw [hgrow2.tape]; exact hal.tape
    · show w1.output = w.output; rw [hgrow2.output]; exact hal.output
    · rw [Below.heap_setCell _ _ _ _ hkP]; exact hgb k hk hkr
    · rw [cell_set_ne hi2]; exact World.cell?_of_block (w := w) (a := ⟨P, i, none⟩) (hgb P hPw hvP)
    · rw [World.frozen?_setCell]; exact World.frozen?_of_block (w := w) (a := ⟨P, i, none⟩) (hgb P hPw hvP)
end Go.Proofs.YtlgodpadcilcaaaGreatDoor
