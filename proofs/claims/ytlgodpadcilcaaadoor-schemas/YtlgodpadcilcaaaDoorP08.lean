import Derived.Test.YtlgodpadcilcaaaDoorP07
namespace Go.Proofs.YtlgodpadcilcaaaDoor
open Go.ChangeShapes Go.WideShapes Go.ChangeAt Go.RowKit Go.Shelf

/-- a row out of its cells -/
theorem owns_of_cells {w w' : World} {g cap n t sz : Nat} {xs xs' : List Value} (h : w.ownsRow 0 t sz (.slice (some ⟨g, 0, none⟩) n cap) n xs) (hb : ∃ c, w'.heap[g]? = some (.cells c t) ∧ c.size = cap * sz) (hl : xs'.length = n * sz) (hc : ∀ k, k < n * sz → w'.cell? ⟨g, k, none⟩ = xs'[k]?) : w'.ownsRow 0 t sz (.slice (some ⟨g, 0, none⟩) n cap) n xs' := by
  obtain ⟨c, hc1, hc2⟩ := hb
  rcases h.2 with ⟨e, _⟩ | ⟨g', cap', cur, e, h4, h5, h6, h7, h8, h9⟩
  · cases e
  · cases e
    refine ⟨hl, .inr ⟨g, cap, c, rfl, h4, hc1, h6, h7, hc2, ?_⟩⟩
    have hle : n * sz ≤ c.size := by rw [hc2]; exact Nat.mul_le_mul_right _ h6
    refine List.ext_getElem? (fun k => ?_)
    by_cases hk : k < n * sz
    · rw [List.getElem?_take_of_lt hk, ← hc k hk]
      simp [World.cell?, hc1]
    · rw [List.getElem?_eq_none (by rw [List.length_take]; simp; omega), List.getElem?_eq_none (by omega)]
theorem setCells_blk {b : Nat} {t : TypeId} : ∀ (vs : List Value) (o : Nat) (w : World) (c : Array Value), w.heap[b]? = some (.cells c t) → ∃ c', (w.setCells b o vs).heap[b]? = some (.cells c' t) ∧ c'.size = c.size
  | [], _, _, c, h => ⟨c, h, rfl⟩
  | v :: r, o, w, c, h => by
    obtain ⟨c', h1, h2⟩ := setCells_blk r (o + 1) (w.setCell ⟨b, o, none⟩ v) _ (blk_set h o v)
    exact ⟨c', h1, by rw [h2]; simp⟩
theorem setCells_far {b k : Nat} (hk : k ≠ b) : ∀ (vs : List Value) (o : Nat) (w : World), (w.setCells b o vs).heap[k]? = w.heap[k]?
  | [], _, _ => rfl
  | _ :: r, o, _ => (setCells_far hk r (o + 1) _).trans (Below.heap_setCell _ _ _ _ hk)
theorem setCells_size {b : Nat} : ∀ (vs : List Value) (o : Nat) (w : World), (w.setCells b o vs).heap.size = w.heap.size
  | [], _, _ => rfl
  | _ :: r, o, _ => (setCells_size r (o + 1) _).trans (by simp)

/-- an entry's relation put in its place -/
theorem RowR.put {w : World} {g cap : Nat} {es : List RV} (h : RowR w (.slice (some ⟨g, 0, none⟩) es.length cap) es) (p : Nat) (hp : p < es.length) (y : RV) (hy : y.key = es[p].key) : RowR (w.setCells g (p * 8 + 1) y.cells.tail) (.slice (some ⟨g, 0, none⟩) (es.set p y).length cap) (es.set p y) := by
  have htl : y.cells.tail.length = 7 := rfl
  have hsome : ∀ j, j < y.cells.tail.length → (w.cell? ⟨g, p * 8 + 1 + j, none⟩).isSome = true := fun j hj => by
    rw [htl] at hj
    have h1 := h.cell p hp (1 + j) (by omega)
    rw [show p * 8 + 1 + j = p * 8 + (1 + j) by omega, h1]
    rw [List.getElem?_eq_getElem (by show 1 + j < 8; omega)]
    rfl
  have hcl : ∀ k, k < es.length * 8 → (w.setCells g (p * 8 + 1) y.cells.tail).cell? ⟨g, k, none⟩ = (((es.set p y).map RV.cells).flatten)[k]? := fun k hk => by
    have hj : k / 8 < es.length := by omega
    have e : ((es.set p y).map RV.cells).flatten[k]? = ((es.set p y)[k / 8]'(by simpa using hj)).cells[k % 8]? := by
      have h1 := flattenK 8 ((es.set p y).map RV.cells) (fun cs hcs => by obtain ⟨x, _, rfl⟩ := List.mem_map.1 hcs; rfl) (k / 8) (by simpa using hj) (k % 8) (by omega)
      rw [show 8 * (k / 8) + k % 8 = k by omega] at h1
      rw [h1, List.getElem_map]
    rw [e, List.getElem_set]
    by_cases hjp : p = k / 8
    · rw [if_pos hjp]
      by_cases h0 : k % 8 = 0
      · rw [World.cell?_setCells_out _ _ _ _ _ (fun _ _ => .inl (by show k < _; omega)), h0]
        have h1 := h.cell p hp 0 (by decide)
        rw [show p * 8 + 0 = k by omega] at h1
        rw [h1]
        show some (strV es[p].key) = some (strV y.key)
        rw [hy]
      · obtain ⟨m, hm⟩ : ∃ m, k % 8 = m + 1 := ⟨k % 8 - 1, by omega⟩
        have hm7 : m < y.cells.tail.length := by rw [htl]; omega
        have h1 := World.cell?_setCells_in g y.cells.tail (p * 8 + 1) w hsome m hm7
        rw [show p * 8 + 1 + m = k by omega] at h1
        rw [h1, hm, List.getElem_tail, List.getElem?_eq_getElem]
    · rw [if_neg hjp, World.cell?_setCells_out _ _ _ _ _ (fun _ _ => by show k < _ ∨ _ ≤ k; rw [htl]; omega)]
      have h1 := h.cell (k / 8) hj (k % 8) (by omega)
      rw [show k / 8 * 8 + k % 8 = k by omega] at h1
      exact h1
  have hcur : ∃ c, w.heap[g]? = some (.cells c 123) ∧ c.size = cap * 8 := by
    rcases h.2 with ⟨e, _⟩ | ⟨g', cap', cur, e, h4, h5, h6, h7, h8, h9⟩
    · cases e
    · cases e; exact ⟨cur, h5, h8⟩
  obtain ⟨c, hc1, hc2⟩ := hcur
  obtain ⟨c', hc3, hc4⟩ := setCells_blk y.cells.tail (p * 8 + 1) w c hc1
  unfold RowR
  rw [List.length_set]
  refine owns_of_cells h ⟨c', hc3, by rw [hc4, hc2]⟩ ?_ hcl
  have hfl : ∀ l : List RV, (l.map RV.cells).flatten.length = l.length * 8 := fun l => by
    induction l with
    | nil => rfl
    | cons x r ih =>
      rw [List.map_cons, List.flatten_cons, List.length_append, ih, List.length_cons]
      show 8 + _ = _
      omega
  rw [hfl, List.length_set]

theorem butCells {M : List Nat} {a : World} {B : Nat} (hB : B ∈ M ∨ a.heap.size ≤ B) : ∀ (vs : List Value) (o : Nat) (w : World), ButM M a w → ButM M a (w.setCells B o vs)
  | [], _, _, h => h
  | v :: r, o, _, h => butCells hB r (o + 1) _ (h.set hB o v)
theorem ButM.drew {M : List Nat} {a w : World} (h : ButM M a w) : ButM M a w.drew := ⟨h.os, h.tape, h.output, h.size, h.block⟩
theorem keys_set {es : List RV} {p : Nat} (hp : p < es.length) {y : RV} (hy : y.key = es[p].key) : (es.set p y).map (·.key) = es.map (·.key) := by
  refine List.ext_getElem (by simp) (fun j h1 h2 => ?_)
  rw [List.getElem_map, List.getElem_map, List.getElem_set]
  split
  · rename_i e; subst e; exact hy
  · rfl
/-- an entry's name, and whether it is a set -/
def kst (e : RV) : List UInt8 × Bool := (e.key, e.set)
theorem kst_set {es : List RV} {p : Nat} (hp : p < es.length) {y : RV} (hy : kst y = kst es[p]) : (es.set p y).map kst = es.map kst := by
  refine List.ext_getElem (by simp) (fun j h1 h2 => ?_)
  rw [List.getElem_map, List.getElem_map, List.getElem_set]
  split
  · rename_i e; subst e; exact hy
  · rfl
theorem kst_keys {es es' : List RV} (h : es'.map kst = es.map kst) : es'.map (·.key) = es.map (·.key) := by
  have := congrArg (List.map Prod.fst) h
  simpa [List.map_map, Function.comp_def, kst] using this
theorem OwnR.put {w : World} {L g cap : Nat} {rb : Option Nat} {es : List RV} (h : OwnR w L rb es) (hrow : RowR w (.slice (some ⟨g, 0, none⟩) es.length cap) es) (hv : w.cell? ⟨L, 0, none⟩ = some (.slice (some ⟨g, 0, none⟩) es.length cap)) (hrb : rb = some g) (p : Nat) (hp : p < es.length) (y : RV) (hy : y.key = es[p].key) : OwnR (w.setCells g (p * 8 + 1) y.cells.tail).drew L rb (es.set p y) := by
  have hgL : L ≠ g := fun e => h.ne (by rw [hrb, e])
  have hk := keys_set hp hy
  have hrp := RowR.put hrow p hp y hy
  have hlen : (es.set p y).length = es.length := List.length_set
  generalize y.cells.tail = vs at *
  generalize es.set p y = es' at *
  have hL : (w.setCells g (p * 8 + 1) vs).heap[L]? = w.heap[L]? := setCells_far hgL _ _ _
  generalize w.setCells g (p * 8 + 1) vs = w' at *
  have hm : OwnR w' L rb es' := by
    refine ⟨⟨.slice (some ⟨g, 0, none⟩) es'.length cap, ?_, hrp, hrb.symm⟩, h.ne, ?_, by rw [hk]; exact h.up, by rw [hlen]; exact h.few⟩
    · rw [World.cell?_of_block (w := w) (a := ⟨L, 0, none⟩) hL, hv, hlen]
    · rw [World.frozen?_of_block (w := w) (a := ⟨L, 0, none⟩) hL]; exact h.fr
  exact hm.keep rfl (fun _ _ => rfl)

set_option maxHeartbeats 4000000 in
set_option maxRecDepth 100000 in
theorem PutR_old (L : Nat) (rb : Option Nat) (es : List RV) (x : RV) (w : World) (h : OwnR w L rb es) (hn0 : kst x ∈ es.map kst) :
    Calls Tryd.prog 36 #[.pointer (some ⟨L, 0, none⟩), strV x.key, .agg #[.bool x.set, .int .i64 x.k, .string x.b, .string x.c, .slice x.p x.l x.cp, .int .i64 x.rank, .int .i64 x.line]] w fun e w' => (∃ v, e = .returned v) ∧ ∃ es', OwnR w' L rb es' ∧ es'.map kst = es.map kst ∧ ButM rb.toList w w' := by
  have hn : x.key ∈ es.map (·.key) := by
    obtain ⟨y, hy, e⟩ := List.mem_map.1 hn0
    exact List.mem_map.2 ⟨y, hy, congrArg Prod.fst e⟩
  have hst : ∀ p, (hp : p < es.length) → es[p].key = x.key → es[p].set = x.set := fun p hp e => by
    obtain ⟨i, hi, e2⟩ := List.getElem_of_mem hn0
    rw [List.getElem_map] at e2
    have hi' : i < es.length := by simpa using hi
    have e3 : es[i].key = x.key := congrArg Prod.fst e2
    have hip : i = p := by
      rcases Nat.lt_trichotomy i p with hlt | heq | hlt
      · have := h.up.lt hlt (by simpa using hp)
        rw [List.getElem_map, List.getElem_map, e3, e, less_irrefl] at this
        cases this
      · exact heq
      · have := h.up.lt hlt (by simpa using hi')
        rw [List.getElem_map, List.getElem_map, e3, e, less_irrefl] at this
        cases this
    subst hip
    exact congrArg Prod.snd e2
  obtain ⟨key, set, k, b, c, pp, l, cp, rank, line⟩ := x
  obtain ⟨w0, hw0⟩ : ∃ w0, w.alloc (.cells #[.bool set, .int .i64 k, .string b, .string c, .slice pp l cp, .int .i64 rank, .int .i64 line] 76) = w0 := ⟨_, rfl⟩
  have hal0 : Below w.heap.size w w0 := by rw [← hw0]; exact (Below.refl _ _).alloc (Nat.le_refl _) _
  have hlt := h.lt
  have h0 : OwnR w0 L rb es := h.keep (hal0.block L hlt.1) (fun q hq => hal0.block q (hlt.2 q hq))
  have hV0 : w0.rangeAt w.heap.size 0 [.bool set, .int .i64 k, .string b, .string c, .slice pp l cp, .int .i64 rank, .int .i64 line] := by rw [← hw0]; exact range_new _ _ _
  have hs0 : w0.heap.size = w.heap.size + 1 := by rw [← hw0]; simp
  have hF : Calls Tryd.prog 59 #[.pointer (some ⟨L, 0, none⟩), .string ⟨key.toArray⟩] w0 fun e w' => (∃ p : Nat, Place (es.map (·.key)) key p ∧ e = .returned (.tuple #[.int .i64 p, .bool true])) ∧ Below w0.heap.size w0 w' := by
    have h1 := findR_any L es ⟨key.toArray⟩ w0 h0.list
    rw [show (⟨key.toArray⟩ : ByteArray).data.toList = key from rfl] at h1
    unfold FoundAns at h1
    rw [decide_eq_true (show key ∈ es.map (·.key) from hn)] at h1
    exact h1
  have HW0 : Hid _ := hw0
  have HH : Hid _ := h0
  have HAl : Hid _ := hal0
  clear hw0 h h0 hal0
  unfold strV
  go_enter Tryd.func36, Tryd.ntmps36
  go_wp2_with fail
  rw [HW0.out]
  refine hF.mono ?_
  clear hF
  rintro e w1 ⟨⟨p, hp, rfl⟩, hb1⟩
  have hb1s := hb1.size
  have h1 : OwnR w1 L rb es := HH.out.keep (hb1.block L (by omega)) (fun q hq => hb1.block q (by have := hlt.2 q hq; omega))
  obtain ⟨hpl0, hpk⟩ := (hp.found h1.up).1 hn
  have hpl : p < es.length := by simpa using hpl0
  rw [List.getElem_map] at hpk
  have hps := hst p hpl hpk
  have HK : Hid (kst ⟨es[p].key, set, k, b, c, pp, l, cp, rank, line⟩ = kst es[p]) := by show (es[p].key, set) = (es[p].key, es[p].set); rw [hps]
  clear hps hpk hst hpl0 hn0
  obtain ⟨v, hv, hrow, hvb⟩ := h1.row
  have hf1 := h1.fr
  obtain ⟨g, cap, rfl⟩ : ∃ g cap, v = .slice (some ⟨g, 0, none⟩) es.length cap := by
    rcases hrow.2 with ⟨_, h2⟩ | ⟨g, cap, cur, e, _⟩
    · omega
    · exact ⟨g, cap, e⟩
  have hV1 := range_below hV0 hb1 (by omega)
  have v0 : w1.cell? ⟨w.heap.size, 0, none⟩ = some (.bool set) := hV1 0 _ rfl
  have v1 : w1.cell? ⟨w.heap.size, 1, none⟩ = some (.int .i64 k) := hV1 1 _ rfl
  have v2 : w1.cell? ⟨w.heap.size, 2, none⟩ = some (.string b) := hV1 2 _ rfl
  have v3 : w1.cell? ⟨w.heap.size, 3, none⟩ = some (.string c) := hV1 3 _ rfl
  have v4 : w1.cell? ⟨w.heap.size, 4, none⟩ = some (.slice pp l cp) := hV1 4 _ rfl
  have v5 : w1.cell? ⟨w.heap.size, 5, none⟩ = some (.int .i64 rank) := hV1 5 _ rfl
  have v6 : w1.cell? ⟨w.heap.size, 6, none⟩ = some (.int .i64 line) := hV1 6 _ rfl
  have hfz : ∀ q, w1.frozen? ⟨g, q, none⟩ = false := fun q => by
    rcases hrow.2 with ⟨e, _⟩ | ⟨g', cap', cur, e, h4, h5, _⟩
    · cases e
    · cases e; simp [World.frozen?, h5]
  have hc := fun i hi => hrow.cell p hpl i hi
  have hrbg : rb = some g := by rw [← hvb]; rfl
  have hown2 := h1.put hrow hv hrbg p hpl ⟨es[p].key, set, k, b, c, pp, l, cp, rank, line⟩ rfl
  have hbut2 : ButM rb.toList w (w1.setCells g (p * 8 + 1) [.bool set, .int .i64 k, .string b, .string c, .slice pp l cp, .int .i64 rank, .int .i64 line]).drew := (butCells (.inl (by rw [hrbg]; simp)) _ _ _ ((ButM.of_below HAl.out).trans (ButM.of_below hb1))).drew
  have HFin : Hid (∃ es', OwnR (w1.setCells g (p * 8 + 1) [.bool set, .int .i64 k, .string b, .string c, .slice pp l cp, .int .i64 rank, .int .i64 line]).drew L rb es' ∧ es'.map kst = es.map kst ∧ ButM rb.toList w (w1.setCells g (p * 8 + 1) [.bool set, .int .i64 k, .string b, .string c, .slice pp l cp, .int .i64 rank, .int .i64 line]).drew) := ⟨_, hown2, kst_set hpl HK.out, hbut2⟩
  clear hown2 hbut2 hrbg
  have HO : Hid _ := h1
  have HR : Hid _ := hrow
  have HVB : Hid _ := hvb
  have HB1 : Hid _ := hb1
  obtain ⟨y0, hy0⟩ : ∃ y0, es[p] = y0 := ⟨_, rfl⟩
  have HY0 : Hid (es[p] = y0) := hy0
  rw [hy0] at hc
  clear hy0 hrow h1 hvb hb1 hp hn HW0 HH hV0 hV1
  obtain ⟨ykey, yset, yk, yb, yc, yp, yl, ycp, yrank, yline⟩ := y0
  have e1 := hc 1 (by decide)
  have e2 := hc 2 (by decide)
  have e3 := hc 3 (by decide)
  have e4 := hc 4 (by decide)
  have e5 := hc 5 (by decide)
  have e6 := hc 6 (by decide)
  have e7 := hc 7 (by decide)
  clear hc
  simp only [RV.cells, strV, List.getElem?_cons_zero, List.getElem?_cons_succ] at e1 e2 e3 e4 e5 e6 e7
  obtain ⟨n, hn⟩ : ∃ n, es.length = n := ⟨_, rfl⟩
  have HN : Hid (es.length = n) := hn
  rw [hn] at hv hpl
  clear hn
  have hpi : (p : Int) < (n : Int) := by omega
  go_upto_region 3 with fail
  go_region
  all_goals go_wp2
  all_goals (try go_end0)
  all_goals first | exact ⟨⟨_, rfl⟩, HFin.out⟩ | (refine bodyPost_ret (results_none rfl _ _ _) rfl ?_; exact ⟨⟨_, rfl⟩, HFin.out⟩)
end Go.Proofs.YtlgodpadcilcaaaDoor
namespace Go.Proofs.YtlgodpadcilcaaaDoor

/-- the relations, in the order of the places -/
def rlsOf (zs : List Zt) : List Rl := zs.flatMap (·.rs)
theorem places_rls : ∀ (zs : List Zt), (∀ z ∈ zs, z.es.length = z.rs.length) → (placesOf zs).length = (rlsOf zs).length ∧ ∀ a (h : a < (placesOf zs).length) (h' : a < (rlsOf zs).length), ∃ z ∈ zs, ∃ i, ∃ (h1 : i < z.es.length) (h2 : i < z.rs.length), (placesOf zs)[a] = mkPV z z.es[i] ∧ (rlsOf zs)[a] = z.rs[i]
  | [], _ => ⟨rfl, fun a h => by simp [placesOf] at h⟩
  | z :: zs, hl => by
    obtain ⟨ih1, ih2⟩ := places_rls zs (fun y hy => hl y (by simp [hy]))
    have hz := hl z (by simp)
    have e1 : placesOf (z :: zs) = z.es.map (mkPV z) ++ placesOf zs := by simp [placesOf]
    have e2 : rlsOf (z :: zs) = z.rs ++ rlsOf zs := by simp [rlsOf]
    refine ⟨by rw [e1, e2, List.length_append, List.length_append, List.length_map, ih1, hz], fun a h h' => ?_⟩
    simp only [e1, e2] at h h' ⊢
    by_cases ha : a < z.es.length
    · refine ⟨z, by simp, a, ha, by omega, ?_, ?_⟩
      · rw [List.getElem_append_left (by simpa using ha), List.getElem_map]
      · rw [List.getElem_append_left (by omega)]
    · have hm : a - z.es.length < (placesOf zs).length := by simp at h; omega
      obtain ⟨y, hy, i, h1, h2, h3, h4⟩ := ih2 (a - z.es.length) hm (by omega)
      refine ⟨y, by simp [hy], i, h1, h2, ?_, ?_⟩
      · rw [List.getElem_append_right (by simpa using ha), ← h3]
        simp
      · rw [List.getElem_append_right (by omega), ← h4]
        simp [hz]
/-- they are the relations of the lines -/
theorem rls_mem {w : World} {Rd S : Nat} {rbT : Option Nat} {zs : List Zt} {st : List Ty} (h : PRep w Rd S rbT zs st) (r : Rl) : r ∈ rlsOf zs ↔ r ∈ relsOf st := by
  unfold rlsOf
  rw [List.mem_flatMap, mem_relsOf]
  constructor
  · rintro ⟨z, hz, hr⟩
    exact ⟨z.ty, h.perm.mem_iff.1 (List.mem_map.2 ⟨z, hz, rfl⟩), (h.zok z hz).perm.mem_iff.1 hr⟩
  · rintro ⟨ty, hty, hr⟩
    obtain ⟨z, hz, rfl⟩ := List.mem_map.1 (h.perm.mem_iff.2 hty)
    exact ⟨z, hz, (h.zok z hz).perm.mem_iff.2 hr⟩
/-- the entries' names are the relations' -/
theorem keys_rs {M : List Nat} {w : World} {z : Zt} (h : ZOk M w z) : z.es.map (·.key) = z.rs.map (·.nm) := by
  refine List.ext_getElem (by simp [h.len]) (fun i h1 h2 => ?_)
  rw [List.getElem_map, List.getElem_map]
  exact (h.rep i (by simpa using h1) (by simpa using h2)).1
theorem keys_ty {M : List Nat} {w : World} {z : Zt} (h : ZOk M w z) (n : List UInt8) : n ∈ z.es.map (·.key) ↔ n ∈ z.ty.rels.map (·.nm) := by
  rw [keys_rs h]
  exact (h.perm.map _).mem_iff
/-- what knows tells is what the lines say -/
theorem knowZ_B {w : World} {Rd S : Nat} {rbT : Option Nat} {zs : List Zt} {st : List Ty} (h : PRep w Rd S rbT zs st) (hok : StOk st) {z : Zt} (hz : z ∈ zs) {r : Rl} (hr : r ∈ z.rs) (t : Sing) : knowZ zs z t = knowB (relsOf st) r t := by
  have hk := h.zok z hz
  have hty : z.ty ∈ st := h.perm.mem_iff.1 (List.mem_map.2 ⟨z, hz, rfl⟩)
  have hrt : r.ty = z.ty.nm := (hok.rels z.ty hty).2.2 r (hk.perm.mem_iff.1 hr)
  have hown : ∀ n, decide (n ∈ z.es.map (·.key)) = (relsOf st).any (fun q => (q.ty == r.ty) && (q.nm == n)) := fun n => by
    rw [hrt, own_any hok hty, decide_eq_decide]
    exact keys_ty hk n
  have hsome : ∀ n, decide (∃ y ∈ zs, n ∈ y.es.map (·.key)) = (relsOf st).any (fun q => q.nm == n) := fun n => by
    rw [some_any, decide_eq_decide]
    constructor
    · rintro ⟨y, hy, hn⟩
      exact ⟨y.ty, h.perm.mem_iff.1 (List.mem_map.2 ⟨y, hy, rfl⟩), (keys_ty (h.zok y hy) n).1 hn⟩
    · rintro ⟨ty, hty, hn⟩
      obtain ⟨y, hy, rfl⟩ := List.mem_map.1 (h.perm.mem_iff.2 hty)
      exact ⟨y, hy, (keys_ty (h.zok y hy) n).2 hn⟩
  cases t using Sing.kind with
  | self => rfl
  | name n => simp only [knowZ, knowB]; exact hown n
  | via v t => simp only [knowZ, knowB]; rw [hown v, hsome t]
theorem uR_congr {K J : Rl → Sing → Bool} : ∀ (rs : List Rl) (f : Nat), (∀ r ∈ rs, ∀ t, K r t = J r t) → uR K f rs = uR J f rs
  | [], f, _ => rfl
  | r :: rs, f, h => by
    have h1 : K r = J r := funext (h r (by simp))
    have h2 := uR_congr rs (uT (J r) r.line f (r.ex.flat false)) (fun q hq => h q (by simp [hq]))
    unfold uR at h2 ⊢
    rw [List.foldl_cons, List.foldl_cons, h1]
    exact h2
/-- what firstUnknown tells is the line of the first -/
theorem fuZ_eq {w : World} {Rd S : Nat} {rbT : Option Nat} {zs : List Zt} {st : List Ty} (h : PRep w Rd S rbT zs st) (hok : StOk st) {N nn : Nat} (hln : StLn N st nn) : fuZ zs nn zs = match (relsOf st).find? (unkR (knowB (relsOf st))) with | some r => r.line | none => nn := by
  have key : ∀ (l : List Zt) (f : Nat), (∀ z ∈ l, z ∈ zs) → l.foldl (fun f z => uR (fun _ => knowZ zs z) f z.rs) f = uR (knowB (relsOf st)) f (rlsOf l) := by
    intro l
    induction l with
    | nil => intro f _; rfl
    | cons z l ih =>
      intro f hm
      have e : rlsOf (z :: l) = z.rs ++ rlsOf l := by simp [rlsOf]
      rw [List.foldl_cons, ih _ (fun y hy => hm y (by simp [hy])), e, uR_append]
      congr 1
      exact uR_congr z.rs f (fun r hr t => knowZ_B h hok (hm z (by simp)) hr t)
  unfold fuZ
  rw [key zs nn (fun z hz => hz)]
  exact uR_first _ (relsOf st) (rlsOf zs) nn (rls_mem h) hln.rise hln.lt
end Go.Proofs.YtlgodpadcilcaaaDoor
namespace Go.Proofs.YtlgodpadcilcaaaDoor

theorem leadsV_B {w : World} {Rd S : Nat} {rbT : Option Nat} {zs : List Zt} {st : List Ty} (h : PRep w Rd S rbT zs st) (hok : StOk st) (a b : Nat) (ha : a < (placesOf zs).length) (hb : b < (placesOf zs).length) (ha' : a < (rlsOf zs).length) (hb' : b < (rlsOf zs).length) (t : Sing) :
    leadsV t (placesOf zs)[a] (placesOf zs)[b] = leadsB t (rlsOf zs)[a] (rlsOf zs)[b] := by
  obtain ⟨_, hp⟩ := places_rls zs (fun z hz => (h.zok z hz).len)
  have one : ∀ c (hc : c < (placesOf zs).length) (hc' : c < (rlsOf zs).length), (placesOf zs)[c].ty = (rlsOf zs)[c].ty ∧ (placesOf zs)[c].nm = (rlsOf zs)[c].nm ∧ (placesOf zs)[c].set = (rlsOf zs)[c].set := fun c hc hc' => by
    obtain ⟨z, hz, i, h1, h2, e1, e2⟩ := hp c hc hc'
    have hk := h.zok z hz
    have hty : z.ty ∈ st := h.perm.mem_iff.1 (List.mem_map.2 ⟨z, hz, rfl⟩)
    obtain ⟨r1, r2, r3, r4⟩ := hk.rep i h1 h2
    rw [e1, e2]
    refine ⟨?_, r1, r2⟩
    show z.tv.key = _
    rw [hk.key]
    exact ((hok.rels z.ty hty).2.2 _ (hk.perm.mem_iff.1 (List.getElem_mem h2))).symm
  obtain ⟨x1, x2, x3⟩ := one a ha ha'
  obtain ⟨y1, y2, y3⟩ := one b hb hb'
  cases t using Sing.kind with
  | self => simp only [leadsV, leadsB]; exact y3
  | name n => simp only [leadsV, leadsB]; rw [x1, y1, y2]
  | via v t => simp only [leadsV, leadsB]; rw [y2]

/-- the tables of the program, by relations -/
theorem tabs_at {w : World} {Rd S : Nat} {rbT : Option Nat} {zs : List Zt} {st : List Ty} (h : PRep w Rd S rbT zs st) (hok : StOk st) (a b : Nat) :
    (tabX (placesOf zs) ((rlsOf zs).map (·.ex)) (placesOf zs).length a b = true ↔ ∃ x y, (rlsOf zs)[a]? = some x ∧ (rlsOf zs)[b]? = some y ∧ hangB x y = true) ∧
    (tabY (placesOf zs) ((rlsOf zs).map (·.ex)) (placesOf zs).length a b = true ↔ ∃ x y, (rlsOf zs)[a]? = some x ∧ (rlsOf zs)[b]? = some y ∧ agB x y = true) := by
  obtain ⟨hl, _⟩ := places_rls zs (fun z hz => (h.zok z hz).len)
  by_cases ha : a < (placesOf zs).length
  · have ha' : a < (rlsOf zs).length := by omega
    by_cases hb : b < (placesOf zs).length
    · have hb' : b < (rlsOf zs).length := by omega
      have hld : ∀ t, ldV (placesOf zs) (placesOf zs)[a] t b = leadsB t (rlsOf zs)[a] (rlsOf zs)[b] := fun t => by
        rw [← leadsV_B h hok a b ha hb ha' hb' t]
        simp [ldV, List.getElem?_eq_getElem hb]
      have e1 : tabX (placesOf zs) ((rlsOf zs).map (·.ex)) (placesOf zs).length a b = hangB (rlsOf zs)[a] (rlsOf zs)[b] := by
        unfold tabX hangB
        rw [List.getElem?_eq_getElem ha, List.getElem?_map, List.getElem?_eq_getElem ha', decide_eq_true ha]
        simp only [Option.map_some, Bool.true_and, hld]
      have e2 : tabY (placesOf zs) ((rlsOf zs).map (·.ex)) (placesOf zs).length a b = agB (rlsOf zs)[a] (rlsOf zs)[b] := by
        unfold tabY agB
        rw [List.getElem?_eq_getElem ha, List.getElem?_map, List.getElem?_eq_getElem ha', decide_eq_true ha]
        simp only [Option.map_some, Bool.true_and, hld]
      rw [e1, e2, List.getElem?_eq_getElem ha', List.getElem?_eq_getElem hb']
      exact ⟨⟨fun hh => ⟨_, _, rfl, rfl, hh⟩, fun ⟨x, y, h1, h2, h3⟩ => by cases h1; cases h2; exact h3⟩, ⟨fun hh => ⟨_, _, rfl, rfl, hh⟩, fun ⟨x, y, h1, h2, h3⟩ => by cases h1; cases h2; exact h3⟩⟩
    · have hn : (placesOf zs)[b]? = none := List.getElem?_eq_none (by omega)
      have hn' : (rlsOf zs)[b]? = none := List.getElem?_eq_none (by omega)
      have hld : ∀ x t, ldV (placesOf zs) x t b = false := fun x t => by simp [ldV, hn]
      have e1 : tabX (placesOf zs) ((rlsOf zs).map (·.ex)) (placesOf zs).length a b = false := by
        unfold tabX
        rw [List.getElem?_eq_getElem ha, List.getElem?_map, List.getElem?_eq_getElem ha']
        simp [hld]
      have e2 : tabY (placesOf zs) ((rlsOf zs).map (·.ex)) (placesOf zs).length a b = false := by
        unfold tabY
        rw [List.getElem?_eq_getElem ha, List.getElem?_map, List.getElem?_eq_getElem ha']
        simp [hld]
      rw [e1, e2, hn']
      simp
  · have hn' : (rlsOf zs)[a]? = none := List.getElem?_eq_none (by omega)
    have e1 : tabX (placesOf zs) ((rlsOf zs).map (·.ex)) (placesOf zs).length a b = false := by unfold tabX; rw [decide_eq_false ha]; rfl
    have e2 : tabY (placesOf zs) ((rlsOf zs).map (·.ex)) (placesOf zs).length a b = false := by unfold tabY; rw [decide_eq_false ha]; rfl
    rw [e1, e2, hn']
    simp
theorem tab_fw {w : World} {Rd S : Nat} {rbT : Option Nat} {zs : List Zt} {st : List Ty} (h : PRep w Rd S rbT zs st) (hok : StOk st) : Fw (InM (rlsOf zs)) 36 0 (tabX (placesOf zs) ((rlsOf zs).map (·.ex)) (placesOf zs).length) :=
  ⟨fun a b _ _ hx => .single ((tabs_at h hok a b).1.1 hx), fun a b _ _ hw => (tabs_at h hok a b).1.2 hw.zero⟩
theorem rls_len {w : World} {Rd S : Nat} {rbT : Option Nat} {zs : List Zt} {st : List Ty} (h : PRep w Rd S rbT zs st) (hok : StOk st) : (rlsOf zs).length ≤ 36 := by
  have h1 : ∀ l : List Zt, (∀ z ∈ l, z ∈ zs) → (rlsOf l).length ≤ 6 * l.length := by
    intro l
    induction l with
    | nil => intro _; simp [rlsOf]
    | cons z l ih =>
      intro hm
      have h2 := ih (fun y hy => hm y (by simp [hy]))
      have hz := hm z (by simp)
      have h3 := (h.zok z hz).perm.length_eq
      have h4 := (hok.rels z.ty (h.perm.mem_iff.1 (List.mem_map.2 ⟨z, hz, rfl⟩))).1
      simp only [rlsOf, List.flatMap_cons, List.length_append, List.length_cons] at h2 ⊢
      omega
  have h2 := h1 zs (fun z hz => hz)
  have h3 := h.length
  have h4 := hok.few
  omega
/-- what leadBack tells of the closed table -/
theorem lb_ring {w : World} {Rd S : Nat} {rbT : Option Nat} {zs : List Zt} {st : List Ty} (h : PRep w Rd S rbT zs st) (hok : StOk st) {X : Nat → Nat → Bool} (hF : Fw (InM (rlsOf zs)) 36 36 X) :
    (∃ i, i < 36 ∧ ∃ j, j < 36 ∧ tabY (placesOf zs) ((rlsOf zs).map (·.ex)) (placesOf zs).length i j = true ∧ X j i = true) ↔ ringP (relsOf st) := by
  rw [← ringP_congr (rls_mem h), ← ring_table (rls_len h hok) hF]
  have hl := rls_len h hok
  constructor
  · rintro ⟨a, _, b, _, h1, h2⟩
    obtain ⟨x, y, hx, hy, hg⟩ := (tabs_at h hok a b).2.1 h1
    exact ⟨a, b, x, y, hx, hy, hg, h2⟩
  · rintro ⟨a, b, x, y, hx, hy, hg, h2⟩
    have h3 := (List.getElem?_eq_some_iff.1 hx).1
    have h4 := (List.getElem?_eq_some_iff.1 hy).1
    exact ⟨a, by omega, b, by omega, (tabs_at h hok a b).2.2 ⟨x, y, hx, hy, hg⟩, h2⟩
end Go.Proofs.YtlgodpadcilcaaaDoor
namespace Go.Proofs.YtlgodpadcilcaaaDoor
open Go.ChangeShapes Go.WideShapes Go.ChangeAt Go.RowKit Go.Shelf

theorem owns_base {w : World} {B t sz n : Nat} {v : Value} {xs : List Value} (h : w.ownsRow B t sz v n xs) : w.ownsRow 0 t sz v n xs := by
  refine ⟨h.1, ?_⟩
  rcases h.2 with h0 | ⟨g, cap, cur, e, h4, h5⟩
  · exact .inl h0
  · exact .inr ⟨g, cap, cur, e, Nat.zero_le _, h5⟩
theorem owns_keep {w w' : World} {B t sz n : Nat} {v : Value} {xs : List Value} (h : w.ownsRow B t sz v n xs) (hb : ∀ g, v.ownBlock = some g → w'.heap[g]? = w.heap[g]?) : w'.ownsRow B t sz v n xs := by
  refine ⟨h.1, ?_⟩
  rcases h.2 with h0 | ⟨g, cap, cur, rfl, h4, h5, h6⟩
  · exact .inl h0
  · exact .inr ⟨g, cap, cur, rfl, h4, by rw [hb g rfl]; exact h5, h6⟩
theorem TabC.mat {w : World} {b : Nat} {c : Array Value} {X : Nat → Nat → Bool} (h : w.heap[b]? = some (.cells c 90)) (hT : TabC c X) : Mat w b X :=
  ⟨fun i j hi hj => by
    have e : w.cell? ⟨b, i * 36 + j, none⟩ = c[i * 36 + j]? := by simp [World.cell?, h]
    rw [e]; exact hT.2 i j hi hj, fun k => by simp [World.frozen?, h], c, h, hT.1⟩
theorem TabC.one {c : Array Value} {X : Nat → Nat → Bool} (h : TabC c X) : c.all (·.oneCell') = true := by
  rw [Array.all_eq_true]
  intro i hi
  obtain ⟨b, hb⟩ := h.bool c[i] (by simp)
  rw [hb]; rfl
theorem zero_there {w : World} {b : Nat} (h : w.heap[b]? = some (.cells Tryd.zeroCells90 90)) : w.there b 0 1296 := fun j hj => by
  have hs := zeroArr_size
  generalize Tryd.zeroCells90 = c at *
  rw [Nat.zero_add]
  have e : w.cell? ⟨b, j, none⟩ = c[j]? := by simp [World.cell?, h]
  exact ⟨by rw [e, Array.getElem?_eq_getElem (by omega)]; rfl, by simp [World.frozen?, h]⟩

theorem Mat.ofCells {w : World} {b : Nat} {c : Array Value} {X : Nat → Nat → Bool} (hT : TabC c X) (hb : ∃ c', w.heap[b]? = some (.cells c' 90) ∧ c'.size = 1296) (hr : w.rangeAt b 0 c.toList) : Mat w b X := by
  obtain ⟨c', h1, h2⟩ := hb
  refine ⟨fun i j hi hj => ?_, fun k => by simp [World.frozen?, h1], c', h1, h2⟩
  have := hr (i * 36 + j) (.bool (X i j)) (by simpa using hT.2 i j hi hj)
  rw [Nat.zero_add] at this
  exact this
/-- two tables laid into two new blocks -/
theorem two_tabs {w W : World} {c1 c2 : Array Value} {X A : Nat → Nat → Bool} (hW : (w.alloc (.cells Tryd.zeroCells90 90)).alloc (.cells Tryd.zeroCells90 90) = W) (hT1 : TabC c1 X) (hT2 : TabC c2 A) :
    W.there w.heap.size 0 c1.size ∧ (W.setCells w.heap.size 0 c1.toList).there (w.heap.size + 1) 0 c2.size ∧ Mat ((W.setCells w.heap.size 0 c1.toList).setCells (w.heap.size + 1) 0 c2.toList) w.heap.size X ∧ ((W.setCells w.heap.size 0 c1.toList).setCells (w.heap.size + 1) 0 c2.toList).rangeAt (w.heap.size + 1) 0 c2.toList ∧
      Below w.heap.size w ((W.setCells w.heap.size 0 c1.toList).setCells (w.heap.size + 1) 0 c2.toList) ∧ ((W.setCells w.heap.size 0 c1.toList).setCells (w.heap.size + 1) 0 c2.toList).heap.size = w.heap.size + 2 := by
  have hb : Below w.heap.size w W := by rw [← hW]; exact ((Below.refl _ _).alloc (Nat.le_refl _) _).alloc (by simp) _
  have k1 : W.heap[w.heap.size]? = some (.cells Tryd.zeroCells90 90) := by rw [← hW, Below.heap_alloc _ _ _ (by simp)]; exact heap_alloc_new w _
  have k2 : W.heap[w.heap.size + 1]? = some (.cells Tryd.zeroCells90 90) := by
    rw [← hW]
    have := heap_alloc_new (w.alloc (.cells Tryd.zeroCells90 90)) (.cells Tryd.zeroCells90 90)
    simpa using this
  have ks : W.heap.size = w.heap.size + 2 := by rw [← hW]; simp
  have t1 := zero_there k1
  have t2 := zero_there k2
  have z := zeroArr_size
  generalize Tryd.zeroCells90 = zc at *
  have s1 : c1.toList.length = 1296 := by simpa using hT1.1
  have s2 : c2.toList.length = 1296 := by simpa using hT2.1
  have t2' : (W.setCells w.heap.size 0 c1.toList).there (w.heap.size + 1) 0 1296 := World.there_setCells t2 _ _ _
  have r1 : (W.setCells w.heap.size 0 c1.toList).rangeAt w.heap.size 0 c1.toList := World.rangeAt_setCells_same _ _ _ _ (by rw [s1]; exact t1)
  obtain ⟨d1, e1, e2⟩ := setCells_blk c1.toList 0 W zc k1
  have e3 : ((W.setCells w.heap.size 0 c1.toList).setCells (w.heap.size + 1) 0 c2.toList).heap[w.heap.size]? = some (.cells d1 90) := by rw [setCells_far (by omega)]; exact e1
  refine ⟨by rw [hT1.1]; exact t1, by rw [hT2.1]; exact t2', Mat.ofCells hT1 ⟨d1, e3, by rw [e2]; exact z⟩ (World.rangeAt_setCells_apart r1 _ _ _ (by omega)), World.rangeAt_setCells_same _ _ _ _ (by rw [s2]; exact t2'), belowCells (by omega) _ _ _ (belowCells (Nat.le_refl _) _ _ _ hb), by rw [setCells_size, setCells_size, ks]⟩

theorem flat_apart : ∀ (zs : List Zt), (zs.flatMap Zt.blocks).Nodup → ∀ z ∈ zs, ∀ y ∈ zs, ∀ g, g ∈ z.blocks → g ∈ y.blocks → z = y
  | [], _, z, hz => by cases hz
  | x :: zs, h, z, hz => fun y hy g h1 h2 => by
    rw [List.flatMap_cons, List.nodup_append] at h
    rcases List.mem_cons.1 hz with e1 | z1
    · rcases List.mem_cons.1 hy with e2 | y1
      · rw [e1, e2]
      · rw [e1] at h1
        exact absurd rfl (h.2.2 g h1 g (List.mem_flatMap.2 ⟨y, y1, h2⟩))
    · rcases List.mem_cons.1 hy with e2 | y1
      · rw [e2] at h2
        exact absurd rfl (h.2.2 g h2 g (List.mem_flatMap.2 ⟨z, z1, h1⟩))
      · exact flat_apart zs h.2.1 z z1 y y1 g h1 h2
/-- what the loop of rank keeps -/
structure RkI (w : World) (Rd S : Nat) (rbT : Option Nat) (zs : List Zt) (g cap B1 : Nat) (ps : List PV) (Y : Nat → Nat → Bool) (wr : World) : Prop where
  zl : ∀ z ∈ zs, ∃ es', OwnR wr z.tv.blk z.rb es' ∧ es'.map kst = z.es.map kst
  tl : OwnT wr S rbT (zs.map (·.tv))
  row : wr.ownsRow 0 95 10 (.slice (some ⟨g, 0, none⟩) ps.length cap) ps.length (ps.map PV.cells).flatten
  mat : Mat wr B1 Y
  rd : wr.heap[Rd]? = w.heap[Rd]?
  rl : Rd < wr.heap.size
  but : ButM (allBlocks Rd S rbT zs) w wr
theorem RkI.below {w : World} {Rd S : Nat} {rbT : Option Nat} {zs : List Zt} {g cap B1 : Nat} {ps : List PV} {Y : Nat → Nat → Bool} {wr w' : World} (h : RkI w Rd S rbT zs g cap B1 ps Y wr) (hb : Below wr.heap.size wr w') : RkI w Rd S rbT zs g cap B1 ps Y w' :=
  ⟨fun z hz => by
    obtain ⟨es', h1, h2⟩ := h.zl z hz
    exact ⟨es', h1.keep (hb.block _ h1.lt.1) (fun k hk => hb.block k (h1.lt.2 k hk)), h2⟩, h.tl.keep (hb.block _ h.tl.lt.1) (fun k hk => hb.block k (h.tl.lt.2 k hk)), owns_keep h.row (fun k hk => by cases hk; exact hb.block _ (h.row.lt _ rfl).2), h.mat.below hb, (hb.block Rd h.rl).trans h.rd, Nat.lt_of_lt_of_le h.rl hb.size, h.but.trans (ButM.of_below hb)⟩
theorem RkI.put {w : World} {Rd S : Nat} {rbT : Option Nat} {zs : List Zt} {st : List Ty} {g cap B1 : Nat} {ps : List PV} {Y : Nat → Nat → Bool} {wr w' : World} (hp : PRep w Rd S rbT zs st) (h : RkI w Rd S rbT zs g cap B1 ps Y wr) {z : Zt} (hz : z ∈ zs) (hb : ButM z.rb.toList wr w') {es' : List RV} (ho : OwnR w' z.tv.blk z.rb es') (hk : es'.map kst = z.es.map kst) (hg : w.heap.size ≤ g) (hB : w.heap.size ≤ B1) : RkI w Rd S rbT zs g cap B1 ps Y w' := by
  have hnd : (zs.flatMap Zt.blocks).Nodup := by
    have := hp.nodup
    unfold allBlocks at this
    rw [List.nodup_cons, List.nodup_cons, List.nodup_append] at this
    exact this.2.2.2.1
  obtain ⟨_, _, _, a4⟩ := blocks_apart hp.nodup
  have hrb : ∀ k, k ∈ z.rb.toList → k ∈ z.blocks ∧ k < w.heap.size := fun k hk => by
    have hm : k ∈ z.blocks := List.mem_cons_of_mem _ hk
    exact ⟨hm, hp.lt k (mem_blocks_R hz hm)⟩
  have htl := h.tl.lt
  have hrl := (h.row.lt g rfl).2
  have hml := h.mat.lt
  refine ⟨fun y hy => ?_, h.tl.keep (hb.block _ htl.1 (fun hm => (a4 z hz _ (hrb _ hm).1).2.1 rfl)) (fun k hk => hb.block k (htl.2 k hk) (fun hm => (a4 z hz _ (hrb _ hm).1).2.2 hk)), owns_keep h.row (fun k hk => by cases hk; exact hb.block g hrl (fun hm => by have := (hrb _ hm).2; omega)), h.mat.same (hb.block B1 hml (fun hm => by have := (hrb _ hm).2; omega)), (hb.block Rd h.rl (fun hm => (a4 z hz _ (hrb _ hm).1).1 rfl)).trans h.rd, Nat.lt_of_lt_of_le h.rl hb.size, h.but.trans (hb.sub (fun g hg => .inl (mem_blocks_R hz (hrb g hg).1)))⟩
  by_cases e : y = z
  · subst e; exact ⟨es', ho, hk⟩
  · obtain ⟨es2, h1, h2⟩ := h.zl y hy
    have hno : ∀ k ∈ y.blocks, k ∉ z.rb.toList := fun k hk hm => e (flat_apart zs hnd y hy z hz k hk (hrb k hm).1)
    exact ⟨es2, h1.keep (hb.block _ h1.lt.1 (hno _ (by simp [Zt.blocks]))) (fun k hk => hb.block k (h1.lt.2 k hk) (hno k (by simp [Zt.blocks, hk]))), h2⟩

set_option maxRecDepth 100000 in
set_option maxHeartbeats 8000000 in
theorem rank_any (Rd S : Nat) (rbT : Option Nat) (zs : List Zt) (st : List Ty) (w : World) (h : PRep w Rd S rbT zs st) (hok : StOk st) (hsz : ∀ r ∈ rlsOf zs, r.ex.sz ≤ 1000000) :
    Calls Tryd.prog 13 #[.pointer (some ⟨S, 0, none⟩)] w fun e w' => ∃ q : Bool, e = .returned (.bool q) ∧ (q = true ↔ ¬ ringP (relsOf st)) ∧ (q = true → OwnT w' S rbT (zs.map (·.tv)) ∧ w'.heap[Rd]? = w.heap[Rd]? ∧ ∀ z ∈ zs, ∃ es', OwnR w' z.tv.blk z.rb es' ∧ es'.map kst = z.es.map kst) ∧ ButM (allBlocks Rd S rbT zs) w w' := by
  have hX := places_any Rd S rbT zs st w h
  have HH : Hid (∀ v w1, w1.ownsRow w.heap.size 95 10 v (placesOf zs).length ((placesOf zs).map PV.cells).flatten → Below w.heap.size w w1 →
      Calls Tryd.prog 32 #[v] w1 fun e w' => ∃ c1 c2, e = .returned (.tuple #[.agg c1, .agg c2]) ∧ TabC c1 (tabX (placesOf zs) ((rlsOf zs).map (·.ex)) (placesOf zs).length) ∧ TabC c2 (tabY (placesOf zs) ((rlsOf zs).map (·.ex)) (placesOf zs).length) ∧ Below w1.heap.size w1 w') := fun v w1 hr hb => by
    obtain ⟨hl, hp⟩ := places_rls zs (fun z hz => (h.zok z hz).len)
    have hlen := rls_len h hok
    refine hanging_any v (placesOf zs) ((rlsOf zs).map (·.ex)) w1 (owns_base hr) (by omega) (by simp [hl]) (fun a ha ha' => ?_)
    rw [List.getElem_map]
    have ha2 : a < (rlsOf zs).length := by omega
    obtain ⟨z, hz, i, h1, h2, e1, e2⟩ := hp a ha ha2
    refine ⟨hsz _ (List.getElem_mem _), ?_⟩
    rw [e1, e2]
    obtain ⟨_, _, _, r4⟩ := (h.zok z hz).rep i h1 h2
    exact r4.mono (fun g hg => by have := hb.size; omega) (fun g hg => hb.block g hg.1)
  have HP : Hid _ := h
  clear h
  go_enter Tryd.func13, Tryd.ntmps13
  go_wp2_with fail
  refine hX.mono ?_
  clear hX
  rintro e w1 ⟨v, rfl, hrow, hb1⟩
  have hH := HH.out v w1 hrow hb1
  go_wp2_with fail
  refine hH.mono ?_
  clear hH
  rintro e w2 ⟨c1, c2, rfl, hT1, hT2, hb2⟩
  obtain ⟨W3, hW3⟩ : ∃ W3, (w2.alloc (.cells Tryd.zeroCells90 90)).alloc (.cells Tryd.zeroCells90 90) = W3 := ⟨_, rfl⟩
  obtain ⟨th1, th2, hM5, hr5, hb5, hs5⟩ := two_tabs hW3 hT1 hT2
  have z1 : (Tryd.prog.info? 90).map (·.size) = some c1.size := by rw [sizeArr, hT1.1]
  have z2 : (Tryd.prog.info? 90).map (·.size) = some c2.size := by rw [sizeArr, hT2.1]
  have o1 := hT1.one
  have o2 := hT2.one
  have H : Hid (W3.there w2.heap.size 0 c1.size ∧ (W3.setCells w2.heap.size 0 c1.toList).there (w2.heap.size + 1) 0 c2.size ∧ (Tryd.prog.info? 90).map (·.size) = some c1.size ∧ (Tryd.prog.info? 90).map (·.size) = some c2.size ∧ c1.all (·.oneCell') = true ∧ c2.all (·.oneCell') = true) := ⟨th1, th2, z1, z2, o1, o2⟩
  have HW3 : Hid _ := hW3
  have HT1 : Hid _ := hT1
  have HT2 : Hid _ := hT2
  have HC := close_any (InM (rlsOf zs)) w2.heap.size _ _ hM5 (tab_fw HP.out hok)
  clear th1 th2 z1 z2 o1 o2 hW3 hT1 hT2
  go_wp2_with (first | (refine wpList_store_mid rfl 90 (.tmp 4) (.tmp 13) rfl w2.heap.size 0 c1 rfl rfl (by rw [HW3.out]; exact H.out.1) H.out.2.2.1 H.out.2.2.2.2.1 ?_) | (refine wpList_store_mid rfl 90 (.tmp 5) (.tmp 14) rfl (w2.heap.size + 1) 0 c2 rfl rfl (by rw [HW3.out]; exact H.out.2.1) H.out.2.2.2.1 H.out.2.2.2.2.2 ?_))
  rw [HW3.out]
  refine HC.mono ?_
  clear HC
  rintro e w6 ⟨⟨v6, rfl⟩, ⟨Y, hMY, hFY⟩, hbut6, hs6⟩
  have hr6 : w6.rangeAt (w2.heap.size + 1) 0 c2.toList := fun j u hu => by
    have hk6 := hbut6.block (w2.heap.size + 1) (by omega) (by omega)
    rw [World.cell?_of_block (w := (W3.setCells w2.heap.size 0 c1.toList).setCells (w2.heap.size + 1) 0 c2.toList) (a := ⟨w2.heap.size + 1, 0 + j, none⟩) hk6]
    exact hr5 j u hu
  have hLB : Calls Tryd.prog 34 #[.pointer (some ⟨w2.heap.size, 0, none⟩), .agg c2.toList.toArray] w6 fun e w' => LbAns (tabY (placesOf zs) ((rlsOf zs).map (·.ex)) (placesOf zs).length) Y e ∧ Below w6.heap.size w6 w' := by
    rw [Array.toArray_toList]
    exact leadBack_any w2.heap.size c2 Y _ w6 hMY HT2.out
  have z2 : (Tryd.prog.info? 90).map (·.size) = some c2.toList.length := by rw [sizeArr]; simpa using HT2.out.1.symm
  have HR6 : Hid _ := hr6
  have HZ2 : Hid _ := z2
  have HMY : Hid _ := hMY
  have HFY : Hid _ := hFY
  have hb6 : Below w.heap.size w w6 := by
    have h1 : Below w.heap.size w w2 := hb1.trans (hb2.mono hb1.size)
    have hs1 := h1.size
    have h2 := h1.trans (hb5.mono hs1)
    exact h2.trans ⟨hbut6.os, hbut6.tape, hbut6.output, hbut6.size, fun k hk => hbut6.block k (by omega) (by omega)⟩
  have hb26 : Below w2.heap.size w2 w6 := hb5.trans ⟨hbut6.os, hbut6.tape, hbut6.output, hbut6.size, fun k hk => hbut6.block k (by omega) (by omega)⟩
  clear hr6 z2 hMY hFY hbut6 hr5 hb5 hM5
  go_wp2_with (refine wpList_load_mid rfl 90 (.tmp 5) rfl (w2.heap.size + 1) 0 rfl c2.toList _ HR6.out Tryd.underlying90 rfl HZ2.out ?_)
  refine hLB.mono ?_
  clear hLB
  rintro e w7 ⟨⟨q, rfl, hq⟩, hb7⟩
  have hring : q = true ↔ ringP (relsOf st) := hq.trans (lb_ring HP.out hok HFY.out)
  have HRing : Hid _ := hring
  clear hq hring
  cases q with
  | true =>
    have HA : Hid (ringP (relsOf st)) := HRing.out.1 rfl
    have HBw : Hid (Below w.heap.size w w7) := hb6.trans (hb7.mono hb6.size)
    go_wp2
    go_ret
    exact ⟨false, rfl, ⟨fun h => (by cases h), fun h => absurd HA.out h⟩, fun h => (by cases h), ⟨HBw.out.os, HBw.out.tape, HBw.out.output, HBw.out.size, fun k hk _ => HBw.out.block k hk⟩⟩
  | false =>
    have HA : Hid (¬ ringP (relsOf st)) := fun h => by have := HRing.out.2 h; cases this
    have hb67 : Below w.heap.size w w7 := hb6.trans (hb7.mono hb6.size)
    have hpr7 := HP.out.below hb67
    have hTl7 : OwnT w7 S rbT (zs.map (·.tv)) := hpr7.own
    have hb17 : Below w1.heap.size w1 w7 := hb2.trans ((hb26.trans (hb7.mono hb26.size)).mono hb2.size)
    obtain ⟨va, vc, rfl, hform⟩ : ∃ a c, v = .slice a (placesOf zs).length c ∧ ∀ q, a = some q → ∃ g, q = ⟨g, 0, none⟩ := by
      rcases hrow.2 with ⟨e, h0⟩ | ⟨g, cap', cur, e, _⟩
      · rw [h0]; exact ⟨_, _, e, fun q hq => by cases hq⟩
      · exact ⟨_, _, e, fun q hq => by cases hq; exact ⟨g, rfl⟩⟩
    have hnil : va = none → (placesOf zs).length = 0 := fun e => by
      rcases hrow.2 with ⟨_, h0⟩ | ⟨g, cap', cur, e2, _⟩
      · exact h0
      · rw [e] at e2; cases e2
    have HRow : Hid _ := hrow
    have hlen := rls_len HP.out hok
    obtain ⟨hpl, hpp⟩ := places_rls zs (fun z hz => (HP.out.zok z hz).len)
    have HPP : Hid _ := hpp
    obtain ⟨n, hn⟩ : ∃ n, (placesOf zs).length = n := ⟨_, rfl⟩
    have HN : Hid ((placesOf zs).length = n) := hn
    have hn36 : n ≤ 36 := by omega
    have HI0 : Hid (∀ g, va = some ⟨g, 0, none⟩ → RkI w Rd S rbT zs g vc w2.heap.size (placesOf zs) Y w7) := fun g hg => by
      subst hg
      refine ⟨fun z hz => ⟨z.es, (hpr7.zok z hz).own, rfl⟩, hTl7, owns_keep (owns_base HRow.out) (fun k hk => hb17.block k (World.ownsRow.lt HRow.out k hk).2), HMY.out.below hb7, hb67.block Rd (HP.out.lt Rd mem_Rd), hpr7.lt Rd mem_Rd, ButM.of_below hb67⟩
    have HGe : Hid (∀ g, va = some ⟨g, 0, none⟩ → w.heap.size ≤ g) := fun g hg => by subst hg; exact (World.ownsRow.lt HRow.out g rfl).1
    have HB2 : Hid (w.heap.size ≤ w2.heap.size) := by show _ ≤ _; have := hb1.size; have := hb2.size; omega
    have HTl7 : Hid _ := hTl7
    have HZl : Hid (∀ z ∈ zs, ∃ es', OwnR w7 z.tv.blk z.rb es' ∧ es'.map kst = z.es.map kst) := fun z hz => ⟨z.es, (hpr7.zok z hz).own, rfl⟩
    have HRd : Hid (w7.heap[Rd]? = w.heap[Rd]?) := hb67.block Rd (HP.out.lt Rd mem_Rd)
    have HBw : Hid (ButM (allBlocks Rd S rbT zs) w w7) := ButM.of_below hb67
    rw [hn] at hnil ⊢
    clear hn hpp hrow hb6 hb26 hb17 hb1 hb2 hTl7 hpr7 HRing hb67 HH hb7
    go_wp2
    go_loopw [20] (fun s20 wr => ∃ i : Nat, i ≤ n ∧ s20 = .int .i64 (i : Int) ∧ Hid ((∀ g, va = some ⟨g, 0, none⟩ → RkI w Rd S rbT zs g vc w2.heap.size (placesOf zs) Y wr) ∧ (OwnT wr S rbT (zs.map (·.tv)) ∧ wr.heap[Rd]? = w.heap[Rd]? ∧ ∀ z ∈ zs, ∃ es', OwnR wr z.tv.blk z.rb es' ∧ es'.map kst = z.es.map kst) ∧ ButM (allBlocks Rd S rbT zs) w wr)) (fun s20 _ => n - (intOf s20).toNat)
    case atStart => exact ⟨0, Nat.zero_le _, rfl, HI0.out, ⟨HTl7.out, HRd.out, HZl.out⟩, HBw.out⟩
    case round =>
      obtain ⟨i, hi, rfl, HI⟩ := hrel
      by_cases hlt : i < n
      · have hip : i < (placesOf zs).length := by have := HN.out; omega
        obtain ⟨g, rfl⟩ : ∃ g, va = some ⟨g, 0, none⟩ := by
          cases va with
          | none => have := hnil rfl; omega
          | some a => obtain ⟨g, rfl⟩ := hform a rfl; exact ⟨g, rfl⟩
        have hR := HI.out.1 g rfl
        have hge := HGe.out g rfl
        obtain ⟨z, hz, j, h1, h2, ep, er⟩ := HPP.out i hip (by omega)
        have cj : ∀ q, q < 10 → wr.cell? ⟨g, i * 10 + q, none⟩ = (mkPV z z.es[j]).cells[q]? := fun q hq => by rw [RowPV.cell hR.row i hip q hq, ep]
        have hmem : kst z.es[j] ∈ z.es.map kst := List.mem_map.2 ⟨z.es[j], List.getElem_mem _, rfl⟩
        have hi36 : i < 36 := by omega
        generalize z.es[j] = y at *
        obtain ⟨ykey, yset, yk, yb, yc, yp, yl, ycp, yrank, yline⟩ := y
        obtain ⟨C10, hC10⟩ : ∃ C10 : Array Value, C10 = #[strV z.tv.key, strV ykey, .pointer (some ⟨z.tv.blk, 0, none⟩), .bool yset, .int .i64 yk, .string yb, .string yc, .slice yp yl ycp, .int .i64 yrank, .int .i64 yline] := ⟨_, rfl⟩
        obtain ⟨W2, hW2⟩ : ∃ W2, wr.alloc (.cells C10 95) = W2 := ⟨_, rfl⟩
        have hbA : Below wr.heap.size wr W2 := by rw [← hW2]; exact (Below.refl _ _).alloc (Nat.le_refl _) _
        have bN : BoxA W2 wr.heap.size 95 C10 := by rw [← hW2]; exact BoxA.new wr _ _
        have hRc := reach_any w2.heap.size i Y W2 (hR.below hbA).mat hi36
        have HPut : Hid (∀ r : Int, Calls Tryd.prog 36 #[.pointer (some ⟨z.tv.blk, 0, none⟩), strV ykey, .agg #[.bool yset, .int .i64 yk, .string yb, .string yc, .slice yp yl ycp, .int .i64 r, .int .i64 yline]] (W2.setCell ⟨wr.heap.size, 8, none⟩ (.int .i64 r)) fun e w' => (∃ v, e = .returned v) ∧ RkI w Rd S rbT zs g vc w2.heap.size (placesOf zs) Y w') := fun r => by
          have hR3 := hR.below (hbA.setCell (p := ⟨wr.heap.size, 8, none⟩) (Nat.le_refl _) (.int .i64 r))
          obtain ⟨es', ho, hk⟩ := hR3.zl z hz
          refine (PutR_old z.tv.blk z.rb es' ⟨ykey, yset, yk, yb, yc, yp, yl, ycp, r, yline⟩ _ ho (by rw [hk]; exact hmem)).mono ?_
          rintro e w' ⟨hv, es2, ho2, hk2, hbut⟩
          exact ⟨hv, hR3.put HP.out hz hbut ho2 (hk2.trans hk) hge HB2.out⟩
        have d0 := cj 0 (by decide)
        have d1 := cj 1 (by decide)
        have d2 := cj 2 (by decide)
        have d3 := cj 3 (by decide)
        have d4 := cj 4 (by decide)
        have d5 := cj 5 (by decide)
        have d6 := cj 6 (by decide)
        have d7 := cj 7 (by decide)
        have d8 := cj 8 (by decide)
        have d9 := cj 9 (by decide)
        simp only [PV.cells, mkPV, List.getElem?_cons_zero, List.getElem?_cons_succ, Nat.add_zero] at d0 d1 d2 d3 d4 d5 d6 d7 d8 d9
        rw [hC10] at hW2
        have HW2 : Hid _ := hW2
        subst hC10
        have n0 : W2.cell? ⟨wr.heap.size, 1, none⟩ = some (strV ykey) := bN.cell 1
        have n1 : W2.cell? ⟨wr.heap.size, 2, none⟩ = some (.pointer (some ⟨z.tv.blk, 0, none⟩)) := bN.cell 2
        have n3 : W2.cell? ⟨wr.heap.size, 3, none⟩ = some (.bool yset) := bN.cell 3
        have n4 : W2.cell? ⟨wr.heap.size, 4, none⟩ = some (.int .i64 yk) := bN.cell 4
        have n5 : W2.cell? ⟨wr.heap.size, 5, none⟩ = some (.string yb) := bN.cell 5
        have n6 : W2.cell? ⟨wr.heap.size, 6, none⟩ = some (.string yc) := bN.cell 6
        have n7 : W2.cell? ⟨wr.heap.size, 7, none⟩ = some (.slice yp yl ycp) := bN.cell 7
        have n8 : W2.cell? ⟨wr.heap.size, 8, none⟩ = some (.int .i64 yrank) := bN.cell 8
        have n9 : W2.cell? ⟨wr.heap.size, 9, none⟩ = some (.int .i64 yline) := bN.cell 9
        have nf : W2.frozen? ⟨wr.heap.size, 8, none⟩ = false := by
          have hk : W2.heap[wr.heap.size]? = _ := bN
          simp [World.frozen?, hk]
        clear bN cj hW2 hR HI HPP hmem er ep hbA
        unfold strV at *
        go_upto_region 9 with fail
        rw [HW2.out]
        clear d0 d1 d2 d3 d4 d5 d6 d7 d8 d9
        go_wp2_with fail
        refine hRc.mono ?_
        rintro e w8 ⟨⟨r, rfl⟩, hw8⟩
        subst w8
        have hPut := HPut.out (r : Int)
        go_wp2_with (go_at_call 36; refine hPut.mono ?_; rintro e w9 ⟨⟨v9, rfl⟩, hR9⟩)
        go_roundw
        case rel => exact ⟨i + 1, by omega, by go_num, fun g' hg' => by cases hg'; exact hR9, ⟨hR9.tl, hR9.rd, hR9.zl⟩, hR9.but⟩
        case measure => simp [intOf]; omega
      · obtain rfl : i = n := by omega
        go_wp2
        go_ret
        exact ⟨true, rfl, ⟨fun _ => HA.out, fun _ => rfl⟩, fun _ => HI.out.2.1, ⟨HI.out.2.2.os, HI.out.2.2.tape, HI.out.2.2.output, HI.out.2.2.size, HI.out.2.2.block⟩⟩
end Go.Proofs.YtlgodpadcilcaaaDoor
