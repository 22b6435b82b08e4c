import Derived.Test.YtlgodpadcilcaaaDoorP06
import Derived.BigRegion
import Derived.Deep.RegionHeld
namespace Go.Proofs.YtlgodpadcilcaaaDoor
open Go.ChangeShapes Go.WideShapes Go.ChangeAt Go.RowKit Go.Shelf

/-- what a term names is there, by the entries -/
def knowZ (zs : List Zt) (z : Zt) : Sing → Bool
  | none => true
  | some (n, none) => decide (n ∈ z.es.map (·.key))
  | some (v, some t) => decide (v ∈ z.es.map (·.key)) && decide (∃ y ∈ zs, t ∈ y.es.map (·.key))

set_option maxHeartbeats 4000000 in
theorem knows_any (Rd S : Nat) (rbT : Option Nat) (zs : List Zt) (st : List Ty) (z : Zt) (hz : z ∈ zs) (t : Sing) (tc : List Value) (Sp : Nat → Prop) (w0 w : World) (h : PRep w Rd S rbT zs st) (hE : ERep Sp w0 (.leaf t) tc) :
    Calls Tryd.prog 30 #[.pointer (some ⟨S, 0, none⟩), .pointer (some ⟨z.tv.blk, 0, none⟩), .agg tc.toArray] w fun e w' => e = .returned (.bool (knowZ zs z t)) ∧ Below w.heap.size w w' := by
  have hal : ∀ o, Below w.heap.size w (w.alloc o) := fun o => (Below.refl _ _).alloc (Nat.le_refl _) _
  cases t using Sing.kind with
  | self =>
    simp only [ERep] at hE
    subst hE
    have HB : Hid (∀ o, Below w.heap.size w (w.alloc o)) := hal
    clear hal h
    simp only [knowZ]
    go_enter Tryd.func30, Tryd.ntmps30
    go_wp2
    go_ret
    exact ⟨rfl, HB.out _⟩
  | name n =>
    simp only [ERep] at hE
    subst hE
    have HB : Hid (∀ o, Below w.heap.size w (w.alloc o)) := hal
    have hX : ∀ o, Calls Tryd.prog 49 #[.pointer (some ⟨z.tv.blk, 0, none⟩), .string ⟨n.toArray⟩] (w.alloc o) fun e w' => e = .returned (.bool (decide (n ∈ z.es.map (·.key)))) ∧ Below (w.alloc o).heap.size (w.alloc o) w' := fun o => HasR_any z.tv.blk z.es ⟨n.toArray⟩ (w.alloc o) ((h.below (hal o)).zok z hz).own.list
    clear hal h
    simp only [knowZ, strV]
    generalize decide (n ∈ z.es.map (·.key)) = q at *
    go_enter Tryd.func30, Tryd.ntmps30
    go_wp2_with (go_at_call 49; refine (hX _).mono ?_; rintro e w' ⟨rfl, hb2⟩)
    go_ret
    exact ⟨rfl, (HB.out _).trans (hb2.mono (HB.out _).size)⟩
  | via v t =>
    simp only [ERep] at hE
    subst hE
    have HB : Hid (∀ o, Below w.heap.size w (w.alloc o)) := hal
    have hX : ∀ o, Calls Tryd.prog 49 #[.pointer (some ⟨z.tv.blk, 0, none⟩), .string ⟨v.toArray⟩] (w.alloc o) fun e w' => e = .returned (.bool (decide (v ∈ z.es.map (·.key)))) ∧ Below (w.alloc o).heap.size (w.alloc o) w' := fun o => HasR_any z.tv.blk z.es ⟨v.toArray⟩ (w.alloc o) ((h.below (hal o)).zok z hz).own.list
    have hY : Hid (∀ w2, Below w.heap.size w w2 → Calls Tryd.prog 56 #[.pointer (some ⟨S, 0, none⟩), .string ⟨t.toArray⟩] w2 fun e w' => e = .returned (.bool (decide (∃ y ∈ zs, t ∈ y.es.map (·.key)))) ∧ Below w2.heap.size w2 w') := fun w2 hb => someHas_any Rd S rbT zs st ⟨t.toArray⟩ w2 (h.below hb)
    clear hal h
    simp only [knowZ, strV]
    generalize decide (v ∈ z.es.map (·.key)) = q at *
    generalize decide (∃ y ∈ zs, t ∈ y.es.map (·.key)) = q2 at *
    cases q with
    | true =>
      go_enter Tryd.func30, Tryd.ntmps30
      go_wp2_with fail
      refine (hX _).mono ?_
      rintro e w' ⟨rfl, hb2⟩
      have hbw : Below w.heap.size w w' := (HB.out _).trans (hb2.mono (HB.out _).size)
      have hc2 : w'.cell? ⟨w.heap.size, 2, none⟩ = some (.string ⟨t.toArray⟩) := by rw [hb2.cell (p := ⟨w.heap.size, 2, none⟩) (by simp)]; exact World.cell?_alloc_new ..
      have hY2 := hY.out w' hbw
      clear hX hb2 HB hY
      go_wp2_with (go_at_call 56; refine hY2.mono ?_; rintro e w3 ⟨rfl, hb3⟩)
      go_ret
      exact ⟨rfl, hbw.trans (hb3.mono hbw.size)⟩
    | false =>
      go_enter Tryd.func30, Tryd.ntmps30
      go_wp2_with (go_at_call 49; refine (hX _).mono ?_; rintro e w' ⟨rfl, hb2⟩)
      go_ret
      exact ⟨rfl, (HB.out _).trans (hb2.mono (HB.out _).size)⟩

/-- what the visitor of firstUnknown keeps -/
def FuI (w : World) (S blk B2 B7 B5 B9 : Nat) (K : Sing → Bool) (ln f : Nat) (pre : List (Sing × Bool)) (W : World) : Prop :=
  Below w.heap.size w W ∧ Boxed W B5 3 (.int .i64 ((uT K ln f pre : Nat) : Int)) ∧ Boxed W B2 29 (.pointer (some ⟨S, 0, none⟩)) ∧ Boxed W B7 43 (.pointer (some ⟨blk, 0, none⟩)) ∧ B9 < W.heap.size ∧ W.cell? ⟨B9, 6, none⟩ = some (.int .i64 (ln : Int))

set_option maxHeartbeats 4000000 in
theorem fu1_visits (Rd S : Nat) (rbT : Option Nat) (zs : List Zt) (st : List Ty) (z : Zt) (hz : z ∈ zs) (w : World) (h : PRep w Rd S rbT zs st) (B2 B7 B5 B9 ln f : Nat) (h5 : w.heap.size ≤ B5) (n2 : B2 ≠ B5) (n7 : B7 ≠ B5) (n9 : B9 ≠ B5) :
    Visits 29 #[.pointer (some ⟨B2, 0, none⟩), .pointer (some ⟨B7, 0, none⟩), .pointer (some ⟨B5, 0, none⟩), .pointer (some ⟨B9, 0, none⟩)] [B5] (FuI w S z.tv.blk B2 B7 B5 B9 (knowZ zs z) ln f) where
  below := by
    rintro pre W W' ⟨hb, b5, b2, b7, l9, c9⟩ hbl
    exact ⟨hb.trans (hbl.mono hb.size), boxed_below b5 hbl, boxed_below b2 hbl, boxed_below b7 hbl, by have := hbl.size; omega, by rw [hbl.cell (p := ⟨B9, 6, none⟩) l9]; exact c9⟩
  call := by
    rintro pre t ag tc Sp w0 W ⟨hb, b5, b2, b7, l9, c9⟩ hE
    have hal : ∀ o, Below W.heap.size W (W.alloc o) := fun o => (Below.refl _ _).alloc (Nat.le_refl _) _
    have hX := fun o => knows_any Rd S rbT zs st z hz t tc Sp w0 (W.alloc o) (h.below (hb.trans ((hal o).mono hb.size))) hE
    have HU : Hid (∀ q, uT q ln f (pre ++ [(t, ag)]) = if q t then uT q ln f pre else min (uT q ln f pre) ln) := fun q => uT_snoc q ln f pre (t, ag)
    obtain ⟨k, b, c, rfl⟩ := hE.leafForm
    simp only [ExpV] at *
    have HU2 := HU.out (knowZ zs z)
    have HU3 : Hid _ := HU2
    generalize knowZ zs z = KK at *
    generalize hq : KK t = q at *
    have HQ : Hid (KK t = q) := hq
    have HI : Hid (Below w.heap.size w W ∧ Boxed W B2 29 (.pointer (some ⟨S, 0, none⟩)) ∧ Boxed W B7 43 (.pointer (some ⟨z.tv.blk, 0, none⟩))) := ⟨hb, b2, b7⟩
    have HB5 : Hid _ := b5
    generalize uT KK ln f pre = u at *
    have d2 : ∀ o, (W.alloc o).cell? ⟨B2, 0, none⟩ = some (.pointer (some ⟨S, 0, none⟩)) := fun o => (b2.alloc o).cell
    have d7 : ∀ o, (W.alloc o).cell? ⟨B7, 0, none⟩ = some (.pointer (some ⟨z.tv.blk, 0, none⟩)) := fun o => (b7.alloc o).cell
    have hsz := hb.size
    clear hq HU HU2 hb b2 b7 b5 hE h hal
    simp only [List.append_toArray, List.nil_append, List.cons_append]
    cases q with
    | true =>
      go_enter Tryd.func29, Tryd.ntmps29
      go_wp2_with (go_at_call 30; refine (hX _).mono ?_; rintro e w' ⟨rfl, hb2⟩)
      go_end0
      have hb1 : Below W.heap.size W w' := ((Below.refl _ _).alloc (Nat.le_refl _) _).trans (hb2.mono (by simp))
      obtain ⟨i1, i2, i3⟩ := HI.out
      refine ⟨⟨_, rfl⟩, ⟨i1.trans (hb1.mono hsz), ?_, boxed_below i2 hb1, boxed_below i3 hb1, by have := hb1.size; omega, by rw [hb1.cell (p := ⟨B9, 6, none⟩) l9]; exact c9⟩, ButM.of_below hb1⟩
      rw [HU3.out, if_pos trivial]
      exact boxed_below HB5.out hb1
    | false =>
      go_enter Tryd.func29, Tryd.ntmps29
      go_wp2_with fail
      refine (hX _).mono ?_
      rintro e w' ⟨rfl, hb2⟩
      have hb1 : Below W.heap.size W w' := ((Below.refl _ _).alloc (Nat.le_refl _) _).trans (hb2.mono (by simp))
      have b5' := boxed_below HB5.out hb1
      have c5 := b5'.cell
      have f5 := b5'.frozen
      have c9' : w'.cell? ⟨B9, 6, none⟩ = some (.int .i64 (ln : Int)) := by rw [hb1.cell (p := ⟨B9, 6, none⟩) l9]; exact c9
      have HB' : Hid _ := b5'
      clear b5' hb2 hX d2 d7
      go_wp2
      go_end0
      obtain ⟨i1, i2, i3⟩ := HI.out
      refine ⟨⟨_, rfl⟩, ⟨?_, ?_, ?_, ?_, ?_, ?_⟩, ?_⟩
      · exact (i1.trans (hb1.mono hsz)).setCell (p := ⟨B5, 0, none⟩) h5 _
      · have e : ((min u ln : Nat) : Int) = min (u : Int) (ln : Int) := by omega
        rw [HU3.out, if_neg (by simp), e]
        have hb5 : Boxed w' B5 3 (.int .i64 (u : Int)) := HB'.out
        exact hb5.set _
      · exact (boxed_below i2 hb1).other n2 _
      · exact (boxed_below i3 hb1).other n7 _
      · have := hb1.size; simp; omega
      · rw [cell_set_far n9]; exact c9'
      · exact (ButM.of_below hb1).set (.inl (by simp)) _ _
end Go.Proofs.YtlgodpadcilcaaaDoor
namespace Go.Proofs.YtlgodpadcilcaaaDoor
open Go.ChangeShapes Go.WideShapes Go.ChangeAt Go.RowKit Go.Shelf
attribute [local go_sem] Oper.semAt_some

/-- relations in their order: entry and relation -/
def Zt.pairs (z : Zt) : List (RV × Rl) := z.es.zip z.rs
theorem pairs_fst {w : World} {M : List Nat} {z : Zt} (h : ZOk M w z) : z.pairs.map Prod.fst = z.es := by
  unfold Zt.pairs; rw [List.map_fst_zip]; rw [h.len]; exact Nat.le_refl _
theorem pairs_snd {w : World} {M : List Nat} {z : Zt} (h : ZOk M w z) : z.pairs.map Prod.snd = z.rs := by
  unfold Zt.pairs; rw [List.map_snd_zip]; rw [h.len]; exact Nat.le_refl _
theorem pairs_rep {w : World} {M : List Nat} {z : Zt} (h : ZOk M w z) {p : RV × Rl} (hp : p ∈ z.pairs) : RelRep (fun g => g < w.heap.size ∧ g ∉ M) w p.1 p.2 := by
  obtain ⟨i, hi, rfl⟩ := List.getElem_of_mem hp
  unfold Zt.pairs at hi ⊢
  rw [List.getElem_zip]
  simp at hi
  exact h.rep i (by omega) (by omega)

/-- a block of cells -/
def BoxA (W : World) (B : Nat) (t : TypeId) (cs : Array Value) : Prop := W.heap[B]? = some (.cells cs t)
theorem BoxA.lt {W : World} {B : Nat} {t : TypeId} {cs : Array Value} (h : BoxA W B t cs) : B < W.heap.size := (Array.getElem?_eq_some_iff.1 h).1
theorem BoxA.new (W : World) (t : TypeId) (cs : Array Value) : BoxA (W.alloc (.cells cs t)) W.heap.size t cs := heap_alloc_new W _
theorem BoxA.below {W W' : World} {B : Nat} {t : TypeId} {cs : Array Value} (h : BoxA W B t cs) (hb : Below W.heap.size W W') : BoxA W' B t cs := by
  show W'.heap[B]? = _
  exact (hb.block B h.lt).trans h
theorem BoxA.alloc {W : World} {B : Nat} {t : TypeId} {cs : Array Value} (h : BoxA W B t cs) (o : Obj) : BoxA (W.alloc o) B t cs := h.below ((Below.refl _ _).alloc (Nat.le_refl _) _)
theorem BoxA.butM {W W' : World} {V : List Nat} {B : Nat} {t : TypeId} {cs : Array Value} (h : BoxA W B t cs) (hb : ButM V W W') (hn : B ∉ V) : BoxA W' B t cs := by
  show W'.heap[B]? = _
  exact (hb.block B h.lt hn).trans h
theorem BoxA.cell {W : World} {B : Nat} {t : TypeId} {cs : Array Value} (h : BoxA W B t cs) (i : Nat) : W.cell? ⟨B, i, none⟩ = cs[i]? := by
  show World.cell? W ⟨B, i, none⟩ = _
  unfold BoxA at h
  simp [World.cell?, h]
theorem boxA_own {β : Type} (B : Nat) (t : TypeId) (f : β → Array Value) : Own (fun s W => BoxA W B t (f s)) := fun s X Y row hs hg hrow => by
  show Y.heap[B]? = _
  refine (hg.block B (BoxA.lt hs) (fun e => ?_)).trans hs
  obtain ⟨o, ho, hc⟩ := hrow B e.symm
  rw [show X.heap[B]? = _ from hs] at ho
  cases ho
  cases hc
theorem boxed_butM {W W' : World} {V : List Nat} {B : Nat} {t : TypeId} {v : Value} (h : Boxed W B t v) (hb : ButM V W W') (hn : B ∉ V) : Boxed W' B t v := by
  show W'.heap[B]? = _
  exact (hb.block B h.lt hn).trans h
theorem keepsFrom_butM {B : Nat} {V : List Nat} {W W' : World} (h : ButM V W W') (hV : ∀ g ∈ V, ∀ o, W.heap[g]? = some o → o.isCells = true) : KeepsFrom B W W' :=
  ⟨h.size, fun k o _ h0 hc => by
    refine (h.block k (Array.getElem?_eq_some_iff.1 h0).1 (fun hm => ?_)).trans h0
    rw [hV k hm o h0] at hc
    cases hc⟩
theorem below_butM {n : Nat} {V : List Nat} {W W' : World} (h : ButM V W W') (hV : ∀ g ∈ V, n ≤ g) (hn : n ≤ W.heap.size) : Below n W W' :=
  ⟨h.os, h.tape, h.output, h.size, fun k hk => h.block k (by omega) (fun hm => by have := hV k hm; omega)⟩

/-- the line of the first that is unknown, over types in their order -/
def fuZ (zs : List Zt) (nn : Nat) (pre : List Zt) : Nat := pre.foldl (fun f z => uR (fun _ => knowZ zs z) f z.rs) nn
theorem fuZ_snoc (zs : List Zt) (nn : Nat) (pre : List Zt) (z : Zt) : fuZ zs nn (pre ++ [z]) = uR (fun _ => knowZ zs z) (fuZ zs nn pre) z.rs := by simp [fuZ]
theorem attach_snd {β γ : Type} (l : List (β × γ)) : l.attach.map (fun x => x.1.2) = l.map Prod.snd := by
  have e : l.attach.map (fun x => x.1.2) = (l.attach.map Subtype.val).map Prod.snd := by rw [List.map_map]; rfl
  rw [e, List.attach_map_subtype_val]
def relCells (x : RV) : Array Value := #[.bool x.set, .int .i64 x.k, .string x.b, .string x.c, .slice x.p x.l x.cp, .int .i64 x.rank, .int .i64 x.line]

set_option maxRecDepth 100000 in
set_option maxHeartbeats 8000000 in
theorem firstUnknown_any (Rd S : Nat) (rbT : Option Nat) (zs : List Zt) (st : List Ty) (nn : Nat) (w : World) (h : PRep w Rd S rbT zs st) (hsz : ∀ z ∈ zs, ∀ r ∈ z.rs, r.ex.sz ≤ 1000000) :
    Calls Tryd.prog 12 #[.pointer (some ⟨S, 0, none⟩), .int .i64 (nn : Int)] w fun e w' => e = .returned (.int .i64 ((fuZ zs nn zs : Nat) : Int)) ∧ Below w.heap.size w w' := by
  refine (callsIn_wide (n := 12)).1 ?_
  refine callsIn_of_wp_marks Tryd.func12 rfl trivial ?_ rfl
  simp only [Tryd.ntmps12, List.size_toArray, List.length_cons, List.length_nil, Nat.reduceAdd, Nat.reduceSub, Array.replicate_succ, Array.replicate_zero, List.push_toArray, List.append_toArray, List.nil_append, List.cons_append]
  gi_wp2_with (refine ⟨trivial, ?_⟩; gi_at_call 26; refine (AllT_in _ _ _).mono ?_; rintro e w' ⟨rfl, rfl⟩)
  have bB := ((Boxed.new w 29 (.pointer (some ⟨S, 0, none⟩))).alloc (.cells #[.int .i64 (nn : Int)] 3)).alloc (.cells #[.pointer (some ⟨S, 0, none⟩)] 97)
  have bS := (Boxed.new (w.alloc (.cells #[.pointer (some ⟨S, 0, none⟩)] 29)) 3 (.int .i64 (nn : Int))).alloc (.cells #[.pointer (some ⟨S, 0, none⟩)] 97)
  have bA := Boxed.new ((w.alloc (.cells #[.pointer (some ⟨S, 0, none⟩)] 29)).alloc (.cells #[.int .i64 (nn : Int)] 3)) 97 (.pointer (some ⟨S, 0, none⟩))
  simp only [World.size_alloc] at bS bA
  have hB0 : Below w.heap.size w (((w.alloc (.cells #[.pointer (some ⟨S, 0, none⟩)] 29)).alloc (.cells #[.int .i64 (nn : Int)] 3)).alloc (.cells #[.pointer (some ⟨S, 0, none⟩)] 97)) := (((Below.refl _ w).alloc (Nat.le_refl _) _).alloc (by simp) _).alloc (by simp; omega) _
  have hsz0 : (((w.alloc (.cells #[.pointer (some ⟨S, 0, none⟩)] 29)).alloc (.cells #[.int .i64 (nn : Int)] 3)).alloc (.cells #[.pointer (some ⟨S, 0, none⟩)] 97)).heap.size = w.heap.size + 3 := by simp
  obtain ⟨W0, hW0⟩ : ∃ W0, ((w.alloc (.cells #[.pointer (some ⟨S, 0, none⟩)] 29)).alloc (.cells #[.int .i64 (nn : Int)] 3)).alloc (.cells #[.pointer (some ⟨S, 0, none⟩)] 97) = W0 := ⟨_, rfl⟩
  rw [hW0] at bB bS bA hB0 hsz0 ⊢
  clear hW0
  have h0 := h.below hB0
  refine wpIn_rangeFunc_ownH (α := Of zs) rfl (by decide) (gf := 51) (lb := #[.pointer (some ⟨w.heap.size + 1 + 1, 0, none⟩)]) rfl trivial (enters_of Tryd.func51 (by kernel_rfl) rfl)
    (AllT_stops _ w.heap.size (w.heap.size + 1 + 1) S rbT Zt.tv zs W0 bA.cell (by omega) h0.own (fun g hg => h.lt g (mem_blocks_T hg)) (by omega)) belowK_t (belowK_b (by omega)) (Below.refl _ _) (fun _ => rfl)
    (fun pre W => (Boxed W (w.heap.size + 1) 3 (.int .i64 ((fuZ zs nn (pre.map (·.1)) : Nat) : Int)) ∧ Boxed W w.heap.size 29 (.pointer (some ⟨S, 0, none⟩))) ∧ Below w.heap.size w W)
    (fun _ _ _ => False)
    (OwnFrom.and (OwnFrom.and (Own.from (boxed_own _ _ _) _) (Own.from (boxed_own _ _ _) _)) (ownFrom_below (Nat.le_refl _) (by omega)))
    (fun _ _ _ _ _ hs _ _ => hs)
    ⟨⟨bS, bB⟩, hB0⟩
    (fun x a' W => ∃ Bx, w.heap.size + 1 < Bx ∧ Boxed W Bx 43 (.pointer (some ⟨x.1.tv.blk, 0, none⟩)) ∧ a' = { tmps := #[.pointer (some ⟨S, 0, none⟩), .int .i64 (nn : Int), .pointer (some ⟨w.heap.size, 0, none⟩), undef, .int .i64 0, .pointer (some ⟨w.heap.size + 1, 0, none⟩), undef, .pointer (some ⟨Bx, 0, none⟩), undef, undef, .int .i64 (nn : Int), .pointer (some ⟨S, 0, none⟩), .pointer (some ⟨S, 0, none⟩), .pointer (some ⟨S, 0, none⟩), .func (.func 51) #[] #[.pointer (some ⟨w.heap.size + 1 + 1, 0, none⟩)], strV x.1.tv.key, .pointer (some ⟨x.1.tv.blk, 0, none⟩), undef, undef, undef, undef, undef, undef, undef, undef, undef], defers := [] })
    (fun x a' _ X Y row hs hg hr => by obtain ⟨Bx, e1, e2, e3⟩ := hs; exact ⟨Bx, e1, boxed_own Bx 43 (fun (_ : Unit) => Value.pointer (some ⟨x.1.tv.blk, 0, none⟩)) () X Y row e2 hg (fun r e => (hr r e).2), e3⟩)
    ?assign ?body ?done ?stop
  case assign =>
    rintro l pre x W K ⟨⟨bS1, bB1⟩, hB1⟩ hK
    unfold encT
    gi_wp2
    exact hK _ _ ((KeepsOthers.alloc _ _).from _) ((Below.refl _ W).alloc hB1.size _) ⟨⟨bS1.alloc _, bB1.alloc _⟩, hB1.alloc hB1.size _⟩ ⟨W.heap.size, bS1.lt, Boxed.new W 43 _, rfl⟩
  case body =>
    rintro l pre x a' W hl ⟨r, hr⟩ ⟨⟨bS1, bB1⟩, hB1⟩ ⟨Bx, hBx, bX, rfl⟩ hlt
    have cX := bX.cell
    have h1' : 1 ≤ 12 - 1 - 1 := by decide
    have hzk := (h.below hB1).zok x.1 x.2
    gi_wp2_with (refine ⟨trivial, ?_⟩; gi_at_call 27; refine (CallsIn.inRound l (AllR_in _ _ _)).mono ?_; rintro e w' ⟨rfl, rfl⟩)
    have hsW := hB1.size
    have bN := Boxed.new W 43 (.pointer (some ⟨x.1.tv.blk, 0, none⟩))
    have hr' : (W.alloc (.cells #[.pointer (some ⟨x.1.tv.blk, 0, none⟩)] 43)).heap[l]? = some (.loop r) := (Below.heap_alloc W _ l (Array.getElem?_eq_some_iff.1 hr).1).trans hr
    have hal : Below W.heap.size W (W.alloc (.cells #[.pointer (some ⟨x.1.tv.blk, 0, none⟩)] 43)) := (Below.refl _ _).alloc (Nat.le_refl _) _
    have hown : OwnR (W.alloc (.cells #[.pointer (some ⟨x.1.tv.blk, 0, none⟩)] 43)) x.1.tv.blk x.1.rb (x.1.pairs.map Prod.fst) := by
      rw [pairs_fst hzk]
      exact hzk.own.keep (hal.block _ hzk.own.lt.1) (fun k hk => hal.block k (hzk.own.lt.2 k hk))
    refine wpIn_rangeFunc_ownN (α := Of x.1.pairs) (l₀ := l) (r₀ := r) rfl hr' h1' (gf := 53) (lb := #[.pointer (some ⟨W.heap.size, 0, none⟩)]) rfl trivial (enters_of Tryd.func53 (by kernel_rfl) rfl)
      ((AllR_stops _ w.heap.size W.heap.size x.1.tv.blk x.1.rb Prod.fst x.1.pairs _ bN.cell (by simp) hown (fun g hg => h.lt g (mem_blocks_R x.2 (by simp [Zt.blocks, hg]))) (by simp; omega)).inRound l) belowK_t (belowK_b (by simp; omega)) (Below.refl _ _) (fun _ => rfl)
      (fun pre' W' => ((Boxed W' (w.heap.size + 1) 3 (.int .i64 ((uR (fun _ => knowZ zs x.1) (fuZ zs nn (pre.map (·.1))) (pre'.map (·.1.2)) : Nat) : Int)) ∧ Boxed W' Bx 43 (.pointer (some ⟨x.1.tv.blk, 0, none⟩))) ∧ Boxed W' w.heap.size 29 (.pointer (some ⟨S, 0, none⟩))) ∧ (Below w.heap.size W W' ∧ KeepsFrom W0.heap.size W W'))
      (fun _ _ _ => False)
      (OwnFrom.and (OwnFrom.and (OwnFrom.and (Own.from (boxed_own _ _ _) _) (Own.from (boxed_own _ _ _) _)) (Own.from (boxed_own _ _ _) _)) (OwnFrom.and (ownFrom_below hsW (by simp; omega)) (ownFrom_keepsFrom (by simp))))
      (fun _ _ _ _ _ hs _ _ => hs)
      ⟨⟨⟨bS1.alloc _, bX.alloc _⟩, bB1.alloc _⟩, (Below.refl _ W).alloc hsW _, (KeepsOthers.alloc _ _).from _⟩
      (fun y a'' W'' => ∃ By, w.heap.size + 1 < By ∧ BoxA W'' By 76 (relCells y.1.1) ∧ a'' = { tmps := #[.pointer (some ⟨S, 0, none⟩), .int .i64 (nn : Int), .pointer (some ⟨w.heap.size, 0, none⟩), undef, .int .i64 0, .pointer (some ⟨w.heap.size + 1, 0, none⟩), undef, .pointer (some ⟨Bx, 0, none⟩), undef, .pointer (some ⟨By, 0, none⟩), .int .i64 (nn : Int), .pointer (some ⟨S, 0, none⟩), .pointer (some ⟨S, 0, none⟩), .pointer (some ⟨S, 0, none⟩), .func (.func 51) #[] #[.pointer (some ⟨w.heap.size + 1 + 1, 0, none⟩)], strV x.1.tv.key, .pointer (some ⟨x.1.tv.blk, 0, none⟩), .pointer (some ⟨x.1.tv.blk, 0, none⟩), .func (.func 53) #[] #[.pointer (some ⟨W.heap.size, 0, none⟩)], strV y.1.1.key, .agg (relCells y.1.1), undef, undef, undef, undef, undef], defers := [] })
      (fun y a'' _ X Y row hs hg hr => by obtain ⟨By, e1, e2, e3⟩ := hs; exact ⟨By, e1, boxA_own By 76 (fun (_ : Unit) => relCells y.1.1) () X Y row e2 hg (fun r e => (hr r e).2), e3⟩)
      ?assign2 ?body2 ?done2 ?stop2
    case assign2 =>
      rintro l2 pre' y W' K ⟨⟨⟨bS2, bX2⟩, bB2⟩, hBW, hKF⟩ hK
      unfold encR
      gi_wp2
      have hs2 : w.heap.size ≤ W'.heap.size := by have := hBW.size; omega
      exact hK _ _ ((KeepsOthers.alloc _ _).from _) ((Below.refl _ W').alloc hs2 _) ⟨⟨⟨bS2.alloc _, bX2.alloc _⟩, bB2.alloc _⟩, hBW.alloc hs2 _, hKF.trans ((KeepsOthers.alloc _ _).from _)⟩ ⟨W'.heap.size, bS2.lt, BoxA.new W' 76 _, rfl⟩
    case body2 =>
      rintro l2 pre' y a'' W' _ _ ⟨⟨⟨bS2, bX2⟩, bB2⟩, hBW, hKF⟩ ⟨By, hBy, bY, rfl⟩ _
      have hBw : Below w.heap.size w W' := hB1.trans hBW
      have hs2 := hBW.size
      obtain ⟨r1, r2, r3, r4⟩ := pairs_rep (h.zok x.1 x.2) y.2
      have hyr : y.1.2 ∈ x.1.rs := by
        have hzz := h.zok x.1 x.2
        rw [← pairs_snd hzz]
        exact List.mem_map.2 ⟨y.1, y.2, rfl⟩
      have c6 : W'.cell? ⟨By, 6, none⟩ = some (.int .i64 (y.1.2.line : Int)) := by rw [bY.cell 6, ← r3]; rfl
      have hv := fu1_visits Rd S rbT zs st x.1 x.2 w h w.heap.size Bx (w.heap.size + 1) By y.1.2.line (uR (fun _ => knowZ zs x.1) (fuZ zs nn (pre.map (·.1))) (pre'.map (·.1.2))) (by omega) (by omega) (by omega) (by omega)
      have hX := eachTerm_any 29 (enters_of Tryd.func29 (by kernel_rfl) rfl) _ [w.heap.size + 1] _ hv y.1.2.ex (ExpV y.1.1.k y.1.1.b y.1.1.c y.1.1.p y.1.1.l y.1.1.cp) W' (hsz x.1 x.2 _ hyr) (fun g hg => by simp at hg; subst hg; exact bS2.lt)
        (r4.mono (fun g hg => ⟨by omega, by simp; omega⟩) (fun g hg => hBw.block g hg.1)) ⟨hBw, bS2, bB2, bX2, bY.lt, c6⟩
      have HU := uR_snoc (fun _ => knowZ zs x.1) (fuZ zs nn (pre.map (·.1))) (pre'.map (·.1.2)) y.1.2
      have HUH : Hid _ := HU
      have HXS : Hid _ := hX
      have c1 : W'.cell? ⟨By, 1, none⟩ = some (.int .i64 y.1.1.k) := bY.cell 1
      have c2 : W'.cell? ⟨By, 2, none⟩ = some (.string y.1.1.b) := bY.cell 2
      have c3 : W'.cell? ⟨By, 3, none⟩ = some (.string y.1.1.c) := bY.cell 3
      have c4 : W'.cell? ⟨By, 4, none⟩ = some (.slice y.1.1.p y.1.1.l y.1.1.cp) := bY.cell 4
      have HI : Hid _ := And.intro hBW (And.intro hKF (And.intro hBw bS2))
      clear hX HU r1 r2 r3 r4 hv hBW hKF c6
      unfold relCells at bY
      simp only [relCells]
      gi_wp2_with (refine ⟨trivial, ?_⟩; gi_at_call 28; refine (CallsIn.inRound l2 (callsIn_wide.2 HXS.out)).mono ?_; rintro e w' ⟨⟨v, rfl⟩, hI2, hbut⟩)
      obtain ⟨hBW, hKF, hBw, bS2⟩ := HI.out
      obtain ⟨j1, j2, j3, j4, j5, j6⟩ := hI2
      have hkf : ∀ B, KeepsFrom B W' w' := fun B => keepsFrom_butM hbut (fun g hg o ho => by
        simp at hg; subst hg
        rw [show W'.heap[w.heap.size + 1]? = _ from bS2] at ho
        cases ho; rfl)
      have hbb : Below w.heap.size W' w' := below_butM hbut (fun g hg => by simp at hg; omega) (by omega)
      refine ⟨hkf _, hbb, ⟨⟨?_, j4⟩, j3⟩, hBW.trans hbb, hKF.trans (hkf _)⟩
      rw [List.map_append, List.map_cons, List.map_nil, HUH.out]
      exact j2
    case done2 =>
      rintro ys' W' rfl ⟨⟨⟨bS2, bX2⟩, bB2⟩, hBW, hKF⟩
      gi_wp2
      refine ⟨hKF, hBW, ⟨?_, bB2⟩, hB1.trans hBW⟩
      rw [List.map_append, List.map_cons, List.map_nil, fuZ_snoc, ← pairs_snd hzk, ← attach_snd]
      exact bS2
    case stop2 =>
      rintro c pre' W' _ h
      exact h.elim
  case done =>
    rintro D ys W hD rfl ⟨⟨bS1, bB1⟩, hB1⟩ hK
    have cS := bS1.cell
    gi_wp2
    refine ⟨by simp, .inl ⟨_, _, rfl, run_takeDeferred hK, ?_⟩⟩
    exact ⟨_, results_tmp rfl _ _ _, by simp, hB1.trans (belowK_b (w := w) (Nat.le_refl _) W D _ _ (by omega) hK rfl rfl)⟩
  case stop =>
    rintro D c pre W _ _ h _
    exact h.elim
end Go.Proofs.YtlgodpadcilcaaaDoor
namespace Go.Proofs.YtlgodpadcilcaaaDoor
open Go.ChangeShapes Go.WideShapes Go.ChangeAt Go.RowKit Go.Shelf
attribute [local go_sem] Oper.semAt_some

theorem infoPl : (Tryd.prog.info? 95).map (fun i => (i.zero, i.size, i.bytes)) = some (some (.agg #[.string ⟨#[]⟩, .string ⟨#[]⟩, .pointer none, .bool false, .int .i64 0, .string ⟨#[]⟩, .string ⟨#[]⟩, .slice none 0 0, .int .i64 0, .int .i64 0]), 10, 128) := by kernel_rfl

/-- a place out of a type and a relation's entry -/
def mkPV (z : Zt) (y : RV) : PV := ⟨z.tv.key, y.key, z.tv.blk, y.set, y.k, y.b, y.c, y.p, y.l, y.cp, y.rank, y.line⟩
theorem PV.len (x : PV) : x.cells.length = 10 := rfl
def RowPV (w : World) (v : Value) (ps : List PV) : Prop := w.ownsRow 0 95 10 v ps.length (ps.map PV.cells).flatten
/-- all places, type by type -/
def placesOf (zs : List Zt) : List PV := zs.flatMap (fun z => z.es.map (mkPV z))

theorem placesOf_len : ∀ (l : List Zt), (∀ z ∈ l, z.es.length ≤ 1000) → (placesOf l).length ≤ 1000 * l.length
  | [], _ => by simp [placesOf]
  | z :: l, h => by
    have h1 := placesOf_len l (fun y hy => h y (by simp [hy]))
    have h2 := h z (by simp)
    simp only [placesOf, List.flatMap_cons, List.length_append, List.length_map, List.length_cons] at h1 ⊢
    omega
theorem placesOf_snoc (l : List Zt) (z : Zt) : placesOf (l ++ [z]) = placesOf l ++ z.es.map (mkPV z) := by simp [placesOf]
theorem attach_fst {β γ δ : Type} (l : List (β × γ)) (f : β → δ) : l.attach.map (fun x => f x.1.1) = (l.map Prod.fst).map f := by
  have e : l.attach.map (fun x => f x.1.1) = ((l.attach.map Subtype.val).map Prod.fst).map f := by rw [List.map_map, List.map_map]; rfl
  rw [e, List.attach_map_subtype_val]

/-- the box holds places -/
def HoldsPl (n₀ B : Nat) (W : World) (ps : List PV) : Prop := ∃ v, Boxed W B 86 v ∧ W.ownsRow n₀ 95 10 v ps.length (ps.map PV.cells).flatten ∧ True
theorem HoldsPl.alloc {n₀ B : Nat} {W : World} {ps : List PV} (h : HoldsPl n₀ B W ps) (o : Obj) : HoldsPl n₀ B (W.alloc o) ps := by
  obtain ⟨v, h1, h2, h3⟩ := h
  exact ⟨v, h1.alloc o, h2.alloc o, h3⟩
theorem holdsPl_own {β : Type} (n₀ B : Nat) (f : β → List PV) : Own (fun s W => HoldsPl n₀ B W (f s)) := holdsRow_own n₀ B 86 95 10 (fun s => (f s).length) (fun s => ((f s).map PV.cells).flatten) (fun _ _ => True)
def vals {zs : List Zt} (pre : List (Of zs)) : List Zt := pre.map (·.1)
theorem vals_snoc {zs : List Zt} (pre : List (Of zs)) (x : Of zs) : vals (pre ++ [x]) = vals pre ++ [x.1] := by simp [vals]
theorem vals_attach (zs : List Zt) : vals zs.attach = zs := List.attach_map_subtype_val zs
def mkAll {z : Zt} (pre : List (Of z.pairs)) : List PV := pre.map (fun y => mkPV z y.1.1)
theorem mkAll_snoc {z : Zt} (pre : List (Of z.pairs)) (y : Of z.pairs) : mkAll (pre ++ [y]) = mkAll pre ++ [mkPV z y.1.1] := by simp [mkAll]

set_option maxRecDepth 100000 in
set_option maxHeartbeats 8000000 in
theorem places_any (Rd S : Nat) (rbT : Option Nat) (zs : List Zt) (st : List Ty) (w : World) (h : PRep w Rd S rbT zs st) :
    Calls Tryd.prog 31 #[.pointer (some ⟨S, 0, none⟩)] w fun e w' => ∃ v, e = .returned v ∧ w'.ownsRow w.heap.size 95 10 v (placesOf zs).length ((placesOf zs).map PV.cells).flatten ∧ Below w.heap.size w w' := by
  obtain ⟨i0, hi, hz0, hz1, hz2⟩ := info_parts infoPl
  have hfew : zs.length ≤ 1000 := by have := h.own.few; simpa using this
  have hesl : ∀ z ∈ zs, z.es.length ≤ 1000 := fun z hz => (h.zok z hz).own.few
  refine (callsIn_wide (n := 12)).1 ?_
  refine callsIn_of_wp_marks Tryd.func31 rfl trivial ?_ rfl
  simp only [Tryd.ntmps31, List.size_toArray, List.length_cons, List.length_nil, Nat.reduceAdd, Nat.reduceSub, Array.replicate_succ, Array.replicate_zero, List.push_toArray, List.append_toArray, List.nil_append, List.cons_append]
  gi_wp2_with (refine ⟨trivial, ?_⟩; gi_at_call 26; refine (AllT_in _ _ _).mono ?_; rintro e w' ⟨rfl, rfl⟩)
  have bS := (Boxed.new w 86 (.slice none 0 0)).alloc (.cells #[.pointer (some ⟨S, 0, none⟩)] 97)
  have bA := Boxed.new (w.alloc (.cells #[.slice none 0 0] 86)) 97 (.pointer (some ⟨S, 0, none⟩))
  simp only [World.size_alloc] at bA
  have hB0 : Below w.heap.size w ((w.alloc (.cells #[.slice none 0 0] 86)).alloc (.cells #[.pointer (some ⟨S, 0, none⟩)] 97)) := ((Below.refl _ w).alloc (Nat.le_refl _) _).alloc (by simp) _
  have hsz0 : ((w.alloc (.cells #[.slice none 0 0] 86)).alloc (.cells #[.pointer (some ⟨S, 0, none⟩)] 97)).heap.size = w.heap.size + 2 := by simp
  obtain ⟨W0, hW0⟩ : ∃ W0, (w.alloc (.cells #[.slice none 0 0] 86)).alloc (.cells #[.pointer (some ⟨S, 0, none⟩)] 97) = W0 := ⟨_, rfl⟩
  rw [hW0] at bS bA hB0 hsz0 ⊢
  clear hW0
  have h0 := h.below hB0
  refine wpIn_rangeFunc_ownH (α := Of zs) rfl (by decide) (gf := 51) (lb := #[.pointer (some ⟨w.heap.size + 1, 0, none⟩)]) rfl trivial (enters_of Tryd.func51 (by kernel_rfl) rfl)
    (AllT_stops _ w.heap.size (w.heap.size + 1) S rbT Zt.tv zs W0 bA.cell (by omega) h0.own (fun g hg => h.lt g (mem_blocks_T hg)) (by omega)) belowK_t (belowK_b (by omega)) (Below.refl _ _) (fun _ => rfl)
    (fun pre W => HoldsPl w.heap.size w.heap.size W (placesOf (vals pre)) ∧ Below w.heap.size w W)
    (fun _ _ _ => False)
    (OwnFrom.and (Own.from (holdsPl_own _ _ _) _) (ownFrom_below (Nat.le_refl _) (by omega)))
    (fun _ _ _ _ _ hs _ _ => hs)
    ⟨⟨.slice none 0 0, bS, World.ownsRow_nil _ _ _ _, trivial⟩, hB0⟩
    (fun x a' W => ∃ B4 B5, w.heap.size < B4 ∧ w.heap.size < B5 ∧ (Boxed W B4 9 (strV x.1.tv.key) ∧ Boxed W B5 43 (.pointer (some ⟨x.1.tv.blk, 0, none⟩))) ∧ a' = { tmps := #[.pointer (some ⟨S, 0, none⟩), undef, .slice none 0 0, .pointer (some ⟨w.heap.size, 0, none⟩), .pointer (some ⟨B4, 0, none⟩), .pointer (some ⟨B5, 0, none⟩), undef, undef, .pointer (some ⟨S, 0, none⟩), .pointer (some ⟨S, 0, none⟩), .pointer (some ⟨S, 0, none⟩), .func (.func 51) #[] #[.pointer (some ⟨w.heap.size + 1, 0, none⟩)], strV x.1.tv.key, .pointer (some ⟨x.1.tv.blk, 0, none⟩), undef, undef, undef, undef, undef, undef, undef, undef, undef, undef, undef, undef, undef], defers := [] })
    (fun x a' _ X Y row hs hg hr => by
      obtain ⟨B4, B5, e1, e2, ⟨e3, e4⟩, e5⟩ := hs
      exact ⟨B4, B5, e1, e2, ⟨boxed_own B4 9 (fun (_ : Unit) => strV x.1.tv.key) () X Y row e3 hg (fun r e => (hr r e).2), boxed_own B5 43 (fun (_ : Unit) => Value.pointer (some ⟨x.1.tv.blk, 0, none⟩)) () X Y row e4 hg (fun r e => (hr r e).2)⟩, e5⟩)
    ?assign ?body ?done ?stop
  case assign =>
    rintro l pre x W K ⟨hPl, hB1⟩ hK
    have bSl : w.heap.size < W.heap.size := by obtain ⟨v, hv, _⟩ := hPl; exact hv.lt
    unfold encT
    simp only [strV]
    gi_wp2
    refine hK _ _ (((KeepsOthers.alloc _ _).trans (KeepsOthers.alloc _ _)).from _) (((Below.refl _ W).alloc hB1.size _).alloc (by simp; have := hB1.size; omega) _) ⟨(hPl.alloc _).alloc _, (hB1.alloc hB1.size _).alloc (by simp; have := hB1.size; omega) _⟩ ⟨W.heap.size, W.heap.size + 1, bSl, by omega, ⟨(Boxed.new W 9 _).alloc _, ?_⟩, rfl⟩
    have := Boxed.new (W.alloc (.cells #[.string ⟨x.1.tv.key.toArray⟩] 9)) 43 (.pointer (some ⟨x.1.tv.blk, 0, none⟩))
    simpa using this
  case body =>
    rintro l pre x a' W hl ⟨r, hr⟩ ⟨hPl, hB1⟩ ⟨B4, B5, hB4, hB5, ⟨b4, b5⟩, rfl⟩ hlt
    have c5 := b5.cell
    have h1' : 1 ≤ 12 - 1 - 1 := by decide
    have hzk := (h.below hB1).zok x.1 x.2
    gi_wp2_with (refine ⟨trivial, ?_⟩; gi_at_call 27; refine (CallsIn.inRound l (AllR_in _ _ _)).mono ?_; rintro e w' ⟨rfl, rfl⟩)
    have hsW := hB1.size
    have bN := Boxed.new W 43 (.pointer (some ⟨x.1.tv.blk, 0, none⟩))
    have hr' : (W.alloc (.cells #[.pointer (some ⟨x.1.tv.blk, 0, none⟩)] 43)).heap[l]? = some (.loop r) := (Below.heap_alloc W _ l (Array.getElem?_eq_some_iff.1 hr).1).trans hr
    have hal : Below W.heap.size W (W.alloc (.cells #[.pointer (some ⟨x.1.tv.blk, 0, none⟩)] 43)) := (Below.refl _ _).alloc (Nat.le_refl _) _
    have hown : OwnR (W.alloc (.cells #[.pointer (some ⟨x.1.tv.blk, 0, none⟩)] 43)) x.1.tv.blk x.1.rb (x.1.pairs.map Prod.fst) := by
      rw [pairs_fst hzk]
      exact hzk.own.keep (hal.block _ hzk.own.lt.1) (fun k hk => hal.block k (hzk.own.lt.2 k hk))
    have hpl : (placesOf (vals pre)).length ≤ 1000000 := by
      have h1 := placesOf_len (vals pre) (fun z hz => by
        obtain ⟨y, _, rfl⟩ := List.mem_map.1 hz
        exact hesl y.1 y.2)
      have h2 : (vals pre).length = pre.length := List.length_map _
      rw [h2] at h1
      omega
    have hpr : x.1.pairs.length ≤ 1000 := by
      have := hesl x.1 x.2
      unfold Zt.pairs
      rw [List.length_zip]
      omega
    refine wpIn_rangeFunc_ownN (α := Of x.1.pairs) (l₀ := l) (r₀ := r) rfl hr' h1' (gf := 53) (lb := #[.pointer (some ⟨W.heap.size, 0, none⟩)]) rfl trivial (enters_of Tryd.func53 (by kernel_rfl) rfl)
      ((AllR_stops _ w.heap.size W.heap.size x.1.tv.blk x.1.rb Prod.fst x.1.pairs _ bN.cell (by simp) hown (fun g hg => h.lt g (mem_blocks_R x.2 (by simp [Zt.blocks, hg]))) (by simp; omega)).inRound l) belowK_t (belowK_b (by simp; omega)) (Below.refl _ _) (fun _ => rfl)
      (fun pre' W' => ((HoldsPl w.heap.size w.heap.size W' (placesOf (vals pre) ++ mkAll pre') ∧ Boxed W' B4 9 (strV x.1.tv.key)) ∧ Boxed W' B5 43 (.pointer (some ⟨x.1.tv.blk, 0, none⟩))) ∧ (Below w.heap.size W W' ∧ KeepsFrom W0.heap.size W W'))
      (fun _ _ _ => False)
      (OwnFrom.and (OwnFrom.and (OwnFrom.and (Own.from (holdsPl_own _ _ _) _) (Own.from (boxed_own _ _ _) _)) (Own.from (boxed_own _ _ _) _)) (OwnFrom.and (ownFrom_below hsW (by simp; omega)) (ownFrom_keepsFrom (by simp))))
      (fun _ _ _ _ _ hs _ _ => hs)
      ⟨⟨⟨by have := hPl.alloc (.cells #[.pointer (some ⟨x.1.tv.blk, 0, none⟩)] 43); simpa [mkAll] using this, b4.alloc _⟩, b5.alloc _⟩, (Below.refl _ W).alloc hsW _, (KeepsOthers.alloc _ _).from _⟩
      (fun y a'' W'' => ∃ By, w.heap.size < By ∧ BoxA W'' By 76 (relCells y.1.1) ∧ a'' = { tmps := #[.pointer (some ⟨S, 0, none⟩), undef, .slice none 0 0, .pointer (some ⟨w.heap.size, 0, none⟩), .pointer (some ⟨B4, 0, none⟩), .pointer (some ⟨B5, 0, none⟩), strV y.1.1.key, .pointer (some ⟨By, 0, none⟩), .pointer (some ⟨S, 0, none⟩), .pointer (some ⟨S, 0, none⟩), .pointer (some ⟨S, 0, none⟩), .func (.func 51) #[] #[.pointer (some ⟨w.heap.size + 1, 0, none⟩)], strV x.1.tv.key, .pointer (some ⟨x.1.tv.blk, 0, none⟩), .pointer (some ⟨x.1.tv.blk, 0, none⟩), .func (.func 53) #[] #[.pointer (some ⟨W.heap.size, 0, none⟩)], strV y.1.1.key, .agg (relCells y.1.1), undef, undef, undef, undef, undef, undef, undef, undef, undef], defers := [] })
      (fun y a'' _ X Y row hs hg hr => by obtain ⟨By, e1, e2, e3⟩ := hs; exact ⟨By, e1, boxA_own By 76 (fun (_ : Unit) => relCells y.1.1) () X Y row e2 hg (fun r e => (hr r e).2), e3⟩)
      ?assign2 ?body2 ?done2 ?stop2
    case assign2 =>
      rintro l2 pre' y W' K ⟨⟨⟨hPl2, b42⟩, b52⟩, hBW, hKF⟩ hK
      have bSl : w.heap.size < W'.heap.size := by obtain ⟨v, hv, _⟩ := hPl2; exact hv.lt
      unfold encR
      simp only [strV]
      gi_wp2
      have hs2 : w.heap.size ≤ W'.heap.size := by have := hBW.size; omega
      exact hK _ _ ((KeepsOthers.alloc _ _).from _) ((Below.refl _ W').alloc hs2 _) ⟨⟨⟨hPl2.alloc _, b42.alloc _⟩, b52.alloc _⟩, hBW.alloc hs2 _, hKF.trans ((KeepsOthers.alloc _ _).from _)⟩ ⟨W'.heap.size, bSl, BoxA.new W' 76 _, rfl⟩
    case body2 =>
      rintro l2 pre' y a'' W' _ _ ⟨⟨⟨⟨v2, bS2, hr2, -⟩, b42⟩, b52⟩, hBW, hKF⟩ ⟨By, hBy, bY, rfl⟩ hlt2
      have hs2 := hBW.size
      have cS := bS2.cell
      have c4 := b42.cell
      have c5 := b52.cell
      have y0 : W'.cell? ⟨By, 0, none⟩ = some (.bool y.1.1.set) := bY.cell 0
      have y1 : W'.cell? ⟨By, 1, none⟩ = some (.int .i64 y.1.1.k) := bY.cell 1
      have y2 : W'.cell? ⟨By, 2, none⟩ = some (.string y.1.1.b) := bY.cell 2
      have y3 : W'.cell? ⟨By, 3, none⟩ = some (.string y.1.1.c) := bY.cell 3
      have y4 : W'.cell? ⟨By, 4, none⟩ = some (.slice y.1.1.p y.1.1.l y.1.1.cp) := bY.cell 4
      have y5 : W'.cell? ⟨By, 5, none⟩ = some (.int .i64 y.1.1.rank) := bY.cell 5
      have y6 : W'.cell? ⟨By, 6, none⟩ = some (.int .i64 y.1.1.line) := bY.cell 6
      have hnl : (placesOf (vals pre) ++ mkAll pre').length ≤ 1001000 := by
        have h2 : (mkAll pre').length = pre'.length := List.length_map _
        rw [List.length_append, h2]; omega
      have HL : Hid (placesOf (vals pre) ++ mkAll (pre' ++ [y]) = (placesOf (vals pre) ++ mkAll pre') ++ [mkPV x.1 y.1.1]) := by show _ = _; rw [mkAll_snoc, List.append_assoc]
      obtain ⟨ps, hps⟩ : ∃ ps, placesOf (vals pre) ++ mkAll pre' = ps := ⟨_, rfl⟩
      rw [hps] at hr2 hnl HL
      clear hps
      unfold relCells at bY
      simp only [relCells, strV] at *
      gi_wp2_with (gi_at_builtin; refine wpListIn_append_own _ rfl _ _ 86 rfl w.heap.size 95 i0 _ 10 128 Tryd.underlying86 hi hz0 hz1 hz2 rfl (by decide) _ _ _ rfl (hr2.alloc _) ⟨W'.heap.size, 0, none⟩ 1 1 (mkPV x.1 y.1.1).cells rfl rfl ?_ ?_ (by unfold maxLen; omega) (by omega) (by simp; omega) ?_; (exact World.news_of_block (cs := (mkPV x.1 y.1.1).cells.toArray) (t := 95) (fr := (0, 0)) (heap_alloc_new W' _)); (intro u hu; simp [PV.cells, mkPV, strV] at hu; rcases hu with rfl | rfl | rfl | rfl | rfl | rfl | rfl | rfl | rfl | rfl <;> rfl); intro v' w1 hown' hgrow _; obtain ⟨g', cap', rfl⟩ := ownsRow_succ hown'; obtain ⟨hv1, hv2, hr3, hk2, hb2⟩ := bS2.appended (by decide) hr2 (by omega) (Nat.le_refl _) hown' hgrow; have hc1 := hv1.cell; have hf1 := hv1.frozen)
      have hb4 := ((b42.alloc _).kept hgrow (b42.not_row (by decide) hr2)).other (B' := w.heap.size) (by omega) (.slice (some ⟨g', 0, none⟩) (ps.length + 1) cap')
      have hb5 := ((b52.alloc _).kept hgrow (b52.not_row (by decide) hr2)).other (B' := w.heap.size) (by omega) (.slice (some ⟨g', 0, none⟩) (ps.length + 1) cap')
      refine ⟨hk2.from _, hb2, ⟨⟨?_, hb4⟩, hb5⟩, hBW.trans hb2, hKF.trans (hk2.from _)⟩
      rw [HL.out]
      refine ⟨_, hv2, ?_, trivial⟩
      rw [List.map_append, List.flatten_append, List.length_append]
      simpa using hr3
    case done2 =>
      rintro ys' W' rfl ⟨⟨⟨hPl2, b42⟩, b52⟩, hBW, hKF⟩
      have HPl2 : Hid (HoldsPl w.heap.size w.heap.size W' (placesOf (vals (pre ++ [x])))) := by
        show HoldsPl _ _ _ _
        rw [vals_snoc, placesOf_snoc]
        unfold mkAll at hPl2
        rw [attach_fst, pairs_fst hzk] at hPl2
        exact hPl2
      gi_wp2
      exact ⟨hKF, hBW, HPl2.out, hB1.trans hBW⟩
    case stop2 =>
      rintro c pre' W' _ h
      exact h.elim
  case done =>
    rintro D ys W hD rfl ⟨hPl, hB1⟩ hK
    rw [vals_attach] at hPl
    obtain ⟨v, bS1, hr1, -⟩ := hPl
    have cS := bS1.cell
    gi_wp2
    refine ⟨by simp, .inl ⟨_, _, rfl, run_takeDeferred hK, ?_⟩⟩
    refine ⟨_, results_tmp rfl _ _ _, v, rfl, ownsRow_putObj ?_ _ hK rfl, hB1.trans (belowK_b (w := w) (Nat.le_refl _) W D _ _ (by omega) hK rfl rfl)⟩
    exact hr1
  case stop =>
    rintro D c pre W _ _ h _
    exact h.elim
end Go.Proofs.YtlgodpadcilcaaaDoor
namespace Go.Proofs.YtlgodpadcilcaaaDoor
open Go.ChangeShapes Go.WideShapes Go.ChangeAt Go.RowKit Go.Shelf

theorem RowPV.cell {B : Nat} {w : World} {g cap : Nat} {ps : List PV} (h : w.ownsRow B 95 10 (.slice (some ⟨g, 0, none⟩) ps.length cap) ps.length (ps.map PV.cells).flatten) (j : Nat) (hj : j < ps.length) (i : Nat) (hi : i < 10) : w.cell? ⟨g, j * 10 + i, none⟩ = ps[j].cells[i]? := by
  rw [Nat.mul_comm j, h.cellAt _ (by omega), flattenK 10 (ps.map PV.cells) (fun cs hcs => by obtain ⟨x, _, rfl⟩ := List.mem_map.1 hcs; exact x.len) j (by simpa using hj) i hi]
  simp

theorem Mat.lt {w : World} {b : Nat} {X : Nat → Nat → Bool} (h : Mat w b X) : b < w.heap.size := World.block_lt_of_cell? w ⟨b, 0 * 36 + 0, none⟩ (h.cell 0 0 (by decide) (by decide))
theorem Mat.same {w w' : World} {b : Nat} {X : Nat → Nat → Bool} (h : Mat w b X) (hb : w'.heap[b]? = w.heap[b]?) : Mat w' b X :=
  ⟨fun i j hi hj => by rw [World.cell?_of_block (w := w) (a := ⟨b, i * 36 + j, none⟩) hb]; exact h.cell i j hi hj, fun k => by rw [World.frozen?_of_block (w := w) (a := ⟨b, k, none⟩) hb]; exact h.fr k, by rw [hb]; exact h.blk⟩
theorem Mat.below {w w' : World} {b : Nat} {X : Nat → Nat → Bool} (h : Mat w b X) (hb : Below w.heap.size w w') : Mat w' b X := h.same (hb.block b h.lt)
theorem Mat.congr {w : World} {b : Nat} {X Y : Nat → Nat → Bool} (h : Mat w b X) (e : ∀ i j, i < 36 → j < 36 → X i j = Y i j) : Mat w b Y := ⟨fun i j hi hj => by rw [← e i j hi hj]; exact h.cell i j hi hj, h.fr, h.blk⟩
theorem Mat.far {w : World} {b c k : Nat} {X : Nat → Nat → Bool} {v : Value} (h : Mat w b X) (hn : b ≠ c) : Mat (w.setCell ⟨c, k, none⟩ v) b X := h.same (Below.heap_setCell _ _ _ _ hn)
theorem BoxA.far {W : World} {B c k : Nat} {t : TypeId} {cs : Array Value} {v : Value} (h : BoxA W B t cs) (hn : B ≠ c) : BoxA (W.setCell ⟨c, k, none⟩ v) B t cs := by
  show (W.setCell ⟨c, k, none⟩ v).heap[B]? = _
  rw [Below.heap_setCell _ _ _ _ hn]; exact h
theorem boxed_far {W : World} {B c k : Nat} {t : TypeId} {u v : Value} (h : Boxed W B t u) (hn : B ≠ c) : Boxed (W.setCell ⟨c, k, none⟩ v) B t u := by
  show (W.setCell ⟨c, k, none⟩ v).heap[B]? = _
  rw [Below.heap_setCell _ _ _ _ hn]; exact h

/-- whether a term in one place's expression leads to place number b -/
def ldV (ps : List PV) (x : PV) (t : Sing) (b : Nat) : Bool := match ps[b]? with | some q => leadsV t x q | none => false

/-- the tables behind some terms of place number i -/
def tabH (ps : List PV) (x : PV) (i : Nat) (X : Nat → Nat → Bool) (pre : List (Sing × Bool)) (a b : Nat) : Bool := X a b || (decide (a = i) && pre.any (fun p => ldV ps x p.1 b))
def tabA (ps : List PV) (x : PV) (i : Nat) (X : Nat → Nat → Bool) (pre : List (Sing × Bool)) (a b : Nat) : Bool := X a b || (decide (a = i) && pre.any (fun p => p.2 && ldV ps x p.1 b))

/-- what the visitor of hanging keeps -/
structure HgI (w : World) (v : Value) (ps : List PV) (x : PV) (i B1 B5 Bh B4 Ba : Nat) (X A : Nat → Nat → Bool) (pre : List (Sing × Bool)) (W : World) : Prop where
  bel : Below w.heap.size w W
  b1 : Boxed W B1 86 v
  b4 : Boxed W B4 3 (.int .i64 (i : Int))
  b5 : BoxA W B5 95 x.cells.toArray
  mh : Mat W Bh (tabH ps x i X pre)
  ma : Mat W Ba (tabA ps x i A pre)

/-- within a round of its loop, ahead of place number j -/
structure HgJ (w : World) (v : Value) (ps : List PV) (x : PV) (i B1 B5 Bh B4 Ba B7 : Nat) (tc : Array Value) (t : Sing) (ag : Bool) (X A : Nat → Nat → Bool) (j : Nat) (W0 W : World) : Prop where
  bel : Below w.heap.size w W
  b1 : Boxed W B1 86 v
  b4 : Boxed W B4 3 (.int .i64 (i : Int))
  b5 : BoxA W B5 95 x.cells.toArray
  b7 : BoxA W B7 74 tc
  mh : Mat W Bh (fun a b => X a b || (decide (a = i) && (decide (b < j) && ldV ps x t b)))
  ma : Mat W Ba (fun a b => A a b || (decide (a = i) && (decide (b < j) && (ag && ldV ps x t b))))
  but : ButM [Bh, Ba] W0 W
theorem HgJ.below {w : World} {v : Value} {ps : List PV} {x : PV} {i B1 B5 Bh B4 Ba B7 : Nat} {tc : Array Value} {t : Sing} {ag : Bool} {X A : Nat → Nat → Bool} {j : Nat} {W0 W W' : World} (h : HgJ w v ps x i B1 B5 Bh B4 Ba B7 tc t ag X A j W0 W) (hb : Below W.heap.size W W') : HgJ w v ps x i B1 B5 Bh B4 Ba B7 tc t ag X A j W0 W' :=
  ⟨h.bel.trans (hb.mono h.bel.size), boxed_below h.b1 hb, boxed_below h.b4 hb, h.b5.below hb, h.b7.below hb, h.mh.below hb, h.ma.below hb, h.but.trans (ButM.of_below hb)⟩
/-- a place that is not led to -/
theorem HgJ.skip {w : World} {v : Value} {ps : List PV} {x : PV} {i B1 B5 Bh B4 Ba B7 : Nat} {tc : Array Value} {t : Sing} {ag : Bool} {X A : Nat → Nat → Bool} {j : Nat} {W0 W : World} (h : HgJ w v ps x i B1 B5 Bh B4 Ba B7 tc t ag X A j W0 W) (hl : ldV ps x t j = false) : HgJ w v ps x i B1 B5 Bh B4 Ba B7 tc t ag X A (j + 1) W0 W := by
  refine ⟨h.bel, h.b1, h.b4, h.b5, h.b7, h.mh.congr (fun a b _ _ => ?_), h.ma.congr (fun a b _ _ => ?_), h.but⟩
  · by_cases e : b = j
    · subst e; simp [hl]
    · have : decide (b < j + 1) = decide (b < j) := by rw [decide_eq_decide]; omega
      rw [this]
  · by_cases e : b = j
    · subst e; simp [hl]
    · have : decide (b < j + 1) = decide (b < j) := by rw [decide_eq_decide]; omega
      rw [this]
/-- a place that is led to -/
theorem HgJ.hit {w : World} {v : Value} {ps : List PV} {x : PV} {i B1 B5 Bh B4 Ba B7 : Nat} {tc : Array Value} {t : Sing} {ag : Bool} {X A : Nat → Nat → Bool} {j : Nat} {W0 W : World} (h : HgJ w v ps x i B1 B5 Bh B4 Ba B7 tc t ag X A j W0 W) (hl : ldV ps x t j = true) (hi : i < 36) (hj : j < 36)
    (hne : Bh ≠ Ba) (n1 : B1 ≠ Bh ∧ B1 ≠ Ba) (n4 : B4 ≠ Bh ∧ B4 ≠ Ba) (n5 : B5 ≠ Bh ∧ B5 ≠ Ba) (n7 : B7 ≠ Bh ∧ B7 ≠ Ba) (hwh : w.heap.size ≤ Bh) (hwa : w.heap.size ≤ Ba) {q : Bool} (hq : q = (A i j || ag)) :
    HgJ w v ps x i B1 B5 Bh B4 Ba B7 tc t ag X A (j + 1) W0 ((W.setCell ⟨Bh, i * 36 + j, none⟩ (.bool true)).setCell ⟨Ba, i * 36 + j, none⟩ (.bool q)) := by
  refine ⟨(h.bel.setCell (p := ⟨Bh, i * 36 + j, none⟩) hwh _).setCell (p := ⟨Ba, i * 36 + j, none⟩) hwa _, boxed_far (boxed_far h.b1 n1.1) n1.2, boxed_far (boxed_far h.b4 n4.1) n4.2, (h.b5.far n5.1).far n5.2, (h.b7.far n7.1).far n7.2, ((h.mh.set i j hi hj true).far hne).congr (fun a b _ _ => ?_), ((h.ma.far (Ne.symm hne)).set i j hi hj q).congr (fun a b _ _ => ?_), (h.but.set (.inl (by simp)) _ _).set (.inl (by simp)) _ _⟩
  · by_cases e : a = i ∧ b = j
    · obtain ⟨rfl, rfl⟩ := e; simp [hl]
    · rw [if_neg e]
      by_cases ea : a = i
      · have : decide (b < j + 1) = decide (b < j) := by rw [decide_eq_decide]; omega
        rw [this]
      · simp [ea]
  · by_cases e : a = i ∧ b = j
    · obtain ⟨rfl, rfl⟩ := e; simp [hl, hq]
    · rw [if_neg e]
      by_cases ea : a = i
      · have : decide (b < j + 1) = decide (b < j) := by rw [decide_eq_decide]; omega
        rw [this]
      · simp [ea]
end Go.Proofs.YtlgodpadcilcaaaDoor
namespace Go.Proofs.YtlgodpadcilcaaaDoor
open Go.ChangeShapes Go.WideShapes Go.ChangeAt Go.RowKit Go.Shelf

set_option maxRecDepth 100000 in
set_option maxHeartbeats 16000000 in
theorem hanging1_visits (w : World) (g cap : Nat) (ps : List PV) (i B1 B5 Bh B4 Ba : Nat) (X A : Nat → Nat → Bool) (hrow : w.ownsRow 0 95 10 (.slice (some ⟨g, 0, none⟩) ps.length cap) ps.length (ps.map PV.cells).flatten) (hps : ps.length ≤ 36) (hi : i < ps.length) (hne : Bh ≠ Ba) (n1 : B1 ≠ Bh ∧ B1 ≠ Ba) (n4 : B4 ≠ Bh ∧ B4 ≠ Ba) (n5 : B5 ≠ Bh ∧ B5 ≠ Ba) (hwh : w.heap.size ≤ Bh) (hwa : w.heap.size ≤ Ba) :
    Visits 57 #[.pointer (some ⟨B1, 0, none⟩), .pointer (some ⟨B5, 0, none⟩), .pointer (some ⟨Bh, 0, none⟩), .pointer (some ⟨B4, 0, none⟩), .pointer (some ⟨Ba, 0, none⟩)] [Bh, Ba] (HgI w (.slice (some ⟨g, 0, none⟩) ps.length cap) ps ps[i] i B1 B5 Bh B4 Ba X A) where
  below := fun pre W W' h hb => ⟨h.bel.trans (hb.mono h.bel.size), boxed_below h.b1 hb, boxed_below h.b4 hb, h.b5.below hb, h.mh.below hb, h.ma.below hb⟩
  call := by
    intro pre t ag tc Sp w0 W hI hE
    have hg : g < w.heap.size := (hrow.lt g rfl).2
    have HCell : Hid (∀ W', Below w.heap.size w W' → ∀ j (hj : j < ps.length) k, k < 10 → W'.cell? ⟨g, j * 10 + k, none⟩ = ps[j].cells[k]?) := fun W' hb j hj k hk => by
      rw [hb.cell (p := ⟨g, j * 10 + k, none⟩) hg]; exact RowPV.cell hrow j hj k hk
    have HLd : Hid (∀ (u : World) y, Calls Tryd.prog 58 #[.agg tc.toArray, .agg ps[i].cells.toArray, .agg (PV.cells y).toArray] u fun e w' => e = .returned (.bool (leadsV t ps[i] y)) ∧ Below u.heap.size u w') := fun u y => leads_any t Sp tc ps[i] y w0 u hE
    obtain ⟨B7, hB7⟩ : ∃ B7, W.heap.size = B7 := ⟨_, rfl⟩
    obtain ⟨W1, hW1⟩ : ∃ W1, W.alloc (.cells tc.toArray 74) = W1 := ⟨_, rfl⟩
    have hb1 : Below W.heap.size W W1 := by rw [← hW1]; exact (Below.refl _ _).alloc (Nat.le_refl _) _
    have n7 : B7 ≠ Bh ∧ B7 ≠ Ba := ⟨by have := hI.mh.lt; omega, by have := hI.ma.lt; omega⟩
    have hJ0 : HgJ w (.slice (some ⟨g, 0, none⟩) ps.length cap) ps ps[i] i B1 B5 Bh B4 Ba B7 tc.toArray t ag (tabH ps ps[i] i X pre) (tabA ps ps[i] i A pre) 0 W W1 :=
      ⟨hI.bel.trans (hb1.mono hI.bel.size), boxed_below hI.b1 hb1, boxed_below hI.b4 hb1, hI.b5.below hb1, by rw [← hW1, ← hB7]; exact BoxA.new W _ _, (hI.mh.below hb1).congr (fun a b _ _ => by simp), (hI.ma.below hb1).congr (fun a b _ _ => by simp), ButM.of_below hb1⟩
    have HFin : Hid (∀ W', HgJ w (.slice (some ⟨g, 0, none⟩) ps.length cap) ps ps[i] i B1 B5 Bh B4 Ba B7 tc.toArray t ag (tabH ps ps[i] i X pre) (tabA ps ps[i] i A pre) ps.length W W' → HgI w (.slice (some ⟨g, 0, none⟩) ps.length cap) ps ps[i] i B1 B5 Bh B4 Ba X A (pre ++ [(t, ag)]) W' ∧ ButM [Bh, Ba] W W') := fun W' h => by
      have hout : ∀ b, (decide (b < ps.length) && ldV ps ps[i] t b) = ldV ps ps[i] t b := fun b => by
        by_cases hb : b < ps.length
        · simp [hb]
        · have : ps[b]? = none := List.getElem?_eq_none (by omega)
          simp [ldV, this]
      refine ⟨⟨h.bel, h.b1, h.b4, h.b5, h.mh.congr (fun a b _ _ => ?_), h.ma.congr (fun a b _ _ => ?_)⟩, h.but⟩
      · rw [hout]
        simp only [tabH, List.any_append, List.any_cons, List.any_nil, Bool.or_false]
        cases X a b <;> cases decide (a = i) <;> simp
      · have e : (decide (b < ps.length) && (ag && ldV ps ps[i] t b)) = (ag && ldV ps ps[i] t b) := by
          have := hout b
          cases ag <;> simp_all
        rw [e]
        simp only [tabA, List.any_append, List.any_cons, List.any_nil, Bool.or_false]
        cases A a b <;> cases decide (a = i) <;> simp
    obtain ⟨X', hX'⟩ : ∃ X', tabH ps ps[i] i X pre = X' := ⟨_, rfl⟩
    obtain ⟨A', hA'⟩ : ∃ A', tabA ps ps[i] i A pre = A' := ⟨_, rfl⟩
    rw [hX', hA'] at hJ0 HFin
    have HLt : Hid (∀ j (hj : j < ps.length), ldV ps ps[i] t j = leadsV t ps[i] ps[j]) := fun j hj => by simp [ldV, List.getElem?_eq_getElem hj]
    have HW1 : Hid _ := hW1
    have HJ0 : Hid _ := hJ0
    obtain ⟨k, b, c, rfl⟩ := hE.leafForm
    have c1 := hJ0.b1.cell
    clear hJ0 hX' hA' hW1 hE hI hrow hb1
    have hi36 : i < 36 := by omega
    have hii : (i : Int) < 36 := by omega
    obtain ⟨x, hx⟩ : ∃ x, ps[i] = x := ⟨_, rfl⟩
    have HX : Hid (ps[i] = x) := hx
    rw [hx] at HLd HFin HLt HJ0
    clear hx
    obtain ⟨n, hn⟩ : ∃ n, ps.length = n := ⟨_, rfl⟩
    have HN : Hid (ps.length = n) := hn
    rw [hn] at c1 HFin HJ0 hps
    clear hn
    simp only [ExpV] at *
    simp only [List.append_toArray, List.cons_append, List.nil_append]
    go_enter Tryd.func57, Tryd.ntmps57
    go_upto_region 1 with fail
    rw [HW1.out]
    go_wp2
    go_loopw [13] (fun s13 wr => ∃ j : Nat, j ≤ n ∧ s13 = .int .i64 (j : Int) ∧ Hid (HgJ w (.slice (some ⟨g, 0, none⟩) n cap) ps x i B1 B5 Bh B4 Ba B7 #[.int .i64 k, .string b, .string c, .slice none 0 0] t ag X' A' j W wr)) (fun s13 _ => n - (intOf s13).toNat)
    case atStart => exact ⟨0, Nat.zero_le _, rfl, HJ0.out⟩
    case round =>
      obtain ⟨j, hj, rfl, HJ⟩ := hrel
      by_cases hlt : j < n
      · have hjp : j < ps.length := by have := HN.out; omega
        obtain ⟨y, hy⟩ : ∃ y, ps[j] = y := ⟨_, rfl⟩
        have cj : ∀ k, k < 10 → wr.cell? ⟨g, j * 10 + k, none⟩ = y.cells[k]? := fun k hk => by rw [HCell.out wr HJ.out.bel j hjp k hk, hy]
        have HL : Hid (ldV ps x t j = leadsV t x y) := by show _ = _; rw [HLt.out j hjp, hy]
        have hld := fun u => HLd.out u y
        generalize leadsV t x y = q at *
        clear hy HCell HLd HLt HX
        obtain ⟨yty, ynm, yblk, yset, yk, yb, yc, yp, yl, ycp, yrank, yline⟩ := y
        obtain ⟨xty, xnm, xblk, xset, xk, xb, xc, xp, xl, xcp, xrank, xline⟩ := x
        have d0 := cj 0 (by decide)
        have d1 := cj 1 (by decide)
        have d2 := cj 2 (by decide)
        have d3 := cj 3 (by decide)
        have d4 := cj 4 (by decide)
        have d5 := cj 5 (by decide)
        have d6 := cj 6 (by decide)
        have d7 := cj 7 (by decide)
        have d8 := cj 8 (by decide)
        have d9 := cj 9 (by decide)
        clear cj
        simp only [PV.cells, strV, List.getElem?_cons_zero, List.getElem?_cons_succ, Nat.add_zero] at d0 d1 d2 d3 d4 d5 d6 d7 d8 d9 hld
        obtain ⟨C10, hC10⟩ : ∃ C10 : Array Value, C10 = #[.string ⟨yty.toArray⟩, .string ⟨ynm.toArray⟩, .pointer (some ⟨yblk, 0, none⟩), .bool yset, .int .i64 yk, .string yb, .string yc, .slice yp yl ycp, .int .i64 yrank, .int .i64 yline] := ⟨_, rfl⟩
        obtain ⟨W2, hW2⟩ : ∃ W2, wr.alloc (.cells C10 95) = W2 := ⟨_, rfl⟩
        have hb2 : Below wr.heap.size wr W2 := by rw [← hW2]; exact (Below.refl _ _).alloc (Nat.le_refl _) _
        have hJ2 := HJ.out.below hb2
        have bN : BoxA W2 wr.heap.size 95 C10 := by rw [← hW2]; exact BoxA.new wr _ _
        rw [hC10] at hW2
        have HW2 : Hid _ := hW2
        clear hW2
        subst hC10
        have HJ2 : Hid _ := hJ2
        go_upto_region 4 with fail
        rw [HW2.out]
        clear d0 d1 d2 d3 d4 d5 d6 d7 d8 d9
        have f0 : W2.cell? ⟨B5, 0, none⟩ = some (.string ⟨xty.toArray⟩) := hJ2.b5.cell 0
        have f1 : W2.cell? ⟨B5, 1, none⟩ = some (.string ⟨xnm.toArray⟩) := hJ2.b5.cell 1
        have f2 : W2.cell? ⟨B5, 2, none⟩ = some (.pointer (some ⟨xblk, 0, none⟩)) := hJ2.b5.cell 2
        have f3 : W2.cell? ⟨B5, 3, none⟩ = some (.bool xset) := hJ2.b5.cell 3
        have f4 : W2.cell? ⟨B5, 4, none⟩ = some (.int .i64 xk) := hJ2.b5.cell 4
        have f5 : W2.cell? ⟨B5, 5, none⟩ = some (.string xb) := hJ2.b5.cell 5
        have f6 : W2.cell? ⟨B5, 6, none⟩ = some (.string xc) := hJ2.b5.cell 6
        have f7 : W2.cell? ⟨B5, 7, none⟩ = some (.slice xp xl xcp) := hJ2.b5.cell 7
        have f8 : W2.cell? ⟨B5, 8, none⟩ = some (.int .i64 xrank) := hJ2.b5.cell 8
        have f9 : W2.cell? ⟨B5, 9, none⟩ = some (.int .i64 xline) := hJ2.b5.cell 9
        have t0 : W2.cell? ⟨wr.heap.size, 0, none⟩ = some (.string ⟨yty.toArray⟩) := bN.cell 0
        have t1 : W2.cell? ⟨wr.heap.size, 1, none⟩ = some (.string ⟨ynm.toArray⟩) := bN.cell 1
        have t2 : W2.cell? ⟨wr.heap.size, 2, none⟩ = some (.pointer (some ⟨yblk, 0, none⟩)) := bN.cell 2
        have t3 : W2.cell? ⟨wr.heap.size, 3, none⟩ = some (.bool yset) := bN.cell 3
        have t4 : W2.cell? ⟨wr.heap.size, 4, none⟩ = some (.int .i64 yk) := bN.cell 4
        have t5 : W2.cell? ⟨wr.heap.size, 5, none⟩ = some (.string yb) := bN.cell 5
        have t6 : W2.cell? ⟨wr.heap.size, 6, none⟩ = some (.string yc) := bN.cell 6
        have t7 : W2.cell? ⟨wr.heap.size, 7, none⟩ = some (.slice yp yl ycp) := bN.cell 7
        have t8 : W2.cell? ⟨wr.heap.size, 8, none⟩ = some (.int .i64 yrank) := bN.cell 8
        have t9 : W2.cell? ⟨wr.heap.size, 9, none⟩ = some (.int .i64 yline) := bN.cell 9
        have e0 : W2.cell? ⟨B7, 0, none⟩ = some (.int .i64 k) := hJ2.b7.cell 0
        have e1 : W2.cell? ⟨B7, 1, none⟩ = some (.string b) := hJ2.b7.cell 1
        have e2 : W2.cell? ⟨B7, 2, none⟩ = some (.string c) := hJ2.b7.cell 2
        have e3 : W2.cell? ⟨B7, 3, none⟩ = some (.slice none 0 0) := hJ2.b7.cell 3
        clear hJ2 bN HJ
        have hld2 := hld W2
        clear hld
        generalize (⟨xty.toArray⟩ : ByteArray) = XT at *
        generalize (⟨xnm.toArray⟩ : ByteArray) = XN at *
        generalize (⟨yty.toArray⟩ : ByteArray) = YT at *
        generalize (⟨ynm.toArray⟩ : ByteArray) = YN at *
        cases q with
        | false =>
          go_wp2_with (go_at_call 58; refine hld2.mono ?_; rintro e w3 ⟨rfl, hb3⟩)
          go_roundw
          case rel => exact ⟨j + 1, by omega, by go_num, (HJ2.out.below hb3).skip HL.out⟩
          case measure => simp [intOf]; omega
        | true =>
          go_wp2_with fail
          refine hld2.mono ?_
          rintro e w3 ⟨rfl, hb3⟩
          have hJ3 := HJ2.out.below hb3
          have HJ3 : Hid _ := hJ3
          have g4 := hJ3.b4.cell
          have gh := hJ3.mh.cell i j hi36 (by omega)
          have gf := hJ3.mh.fr
          have w4b : ∀ v, (w3.setCell ⟨Bh, i * 36 + j, none⟩ v).cell? ⟨B4, 0, none⟩ = some (.int .i64 (i : Int)) := fun v => by rw [cell_set_far n4.1]; exact g4
          have w4a : ∀ v, (w3.setCell ⟨Bh, i * 36 + j, none⟩ v).cell? ⟨Ba, i * 36 + j, none⟩ = some (.bool (A' i j)) := fun v => by
            rw [cell_set_far (Ne.symm hne), hJ3.ma.cell i j hi36 (by omega)]; simp
          have w4f : ∀ v k, (w3.setCell ⟨Bh, i * 36 + j, none⟩ v).frozen? ⟨Ba, k, none⟩ = false := fun v k => by rw [World.frozen?_setCell]; exact hJ3.ma.fr k
          clear hJ3 f0 f1 f2 f3 f4 f5 f6 f7 f8 f9 t0 t1 t2 t3 t4 t5 t6 t7 t8 t9 e0 e1 e2 e3 hld2
          have hji : (j : Int) < 36 := by omega
          go_upto_region 6 with fail
          have h4b := w4b (.bool true)
          have h4a := w4a (.bool true)
          have h4f := w4f (.bool true)
          have HHit : Hid (∀ q, q = (A' i j || ag) → HgJ w (.slice (some ⟨g, 0, none⟩) n cap) ps ⟨xty, xnm, xblk, xset, xk, xb, xc, xp, xl, xcp, xrank, xline⟩ i B1 B5 Bh B4 Ba B7 #[.int .i64 k, .string b, .string c, .slice none 0 0] t ag X' A' (j + 1) W ((w3.setCell ⟨Bh, i * 36 + j, none⟩ (.bool true)).setCell ⟨Ba, i * 36 + j, none⟩ (.bool q))) := fun q hq => HJ3.out.hit HL.out hi36 (by omega) hne n1 n4 n5 n7 hwh hwa hq
          clear w4b w4a w4f HJ3 HJ2
          generalize w3.setCell ⟨Bh, i * 36 + j, none⟩ (.bool true) = w4 at *
          generalize A' i j = qa at *
          cases qa with
          | true =>
            go_region
            all_goals go_wp2
            all_goals go_roundw
            all_goals first | (refine ⟨j + 1, by omega, by go_num, ?_⟩; exact (HHit.out _ (by simp)).below ((Below.refl _ _).drew)) | (simp [intOf]; omega)
          | false =>
            go_region
            all_goals go_wp2
            all_goals go_roundw
            all_goals first | (refine ⟨j + 1, by omega, by go_num, ?_⟩; exact (HHit.out _ (by simp)).below ((Below.refl _ _).drew)) | (simp [intOf]; omega)
      · obtain rfl : j = n := by omega
        go_wp2
        go_end0
        have hf := HFin.out _ HJ.out
        rw [← HX.out, ← HN.out] at hf
        exact ⟨⟨_, rfl⟩, hf⟩
end Go.Proofs.YtlgodpadcilcaaaDoor
namespace Go.Proofs.YtlgodpadcilcaaaDoor
open Go.ChangeShapes Go.WideShapes Go.ChangeAt Go.RowKit Go.Shelf

/-- the tables behind the first k places -/
def tabX (ps : List PV) (exs : List Exp) (k a b : Nat) : Bool := decide (a < k) && (match ps[a]?, exs[a]? with | some x, some e => (e.flat false).any (fun p => ldV ps x p.1 b) | _, _ => false)
def tabY (ps : List PV) (exs : List Exp) (k a b : Nat) : Bool := decide (a < k) && (match ps[a]?, exs[a]? with | some x, some e => (e.flat false).any (fun p => p.2 && ldV ps x p.1 b) | _, _ => false)
theorem tabX_step (ps : List PV) (exs : List Exp) (k : Nat) (hk : k < ps.length) (he : k < exs.length) (a b : Nat) : tabH ps ps[k] k (tabX ps exs k) (exs[k].flat false) a b = tabX ps exs (k + 1) a b := by
  unfold tabH tabX
  by_cases e : a = k
  · subst e
    simp [List.getElem?_eq_getElem hk, List.getElem?_eq_getElem he]
  · have h1 : decide (a < k + 1) = decide (a < k) := by rw [decide_eq_decide]; omega
    simp [e, h1]
theorem tabY_step (ps : List PV) (exs : List Exp) (k : Nat) (hk : k < ps.length) (he : k < exs.length) (a b : Nat) : tabA ps ps[k] k (tabY ps exs k) (exs[k].flat false) a b = tabY ps exs (k + 1) a b := by
  unfold tabA tabY
  by_cases e : a = k
  · subst e
    simp [List.getElem?_eq_getElem hk, List.getElem?_eq_getElem he]
  · have h1 : decide (a < k + 1) = decide (a < k) := by rw [decide_eq_decide]; omega
    simp [e, h1]

def isOff : Value → Bool | .bool false => true | _ => false
theorem isOff_eq {v : Value} (h : isOff v = true) : v = .bool false := by
  unfold isOff at h
  split at h
  · rfl
  · cases h
theorem zeroArr_size : Tryd.zeroCells90.size = 1296 := by kernel_rfl
theorem zeroArr_all : Tryd.zeroCells90.toList.all isOff = true := by kernel_rfl
theorem Mat.zero {w : World} {b : Nat} (h : w.heap[b]? = some (.cells Tryd.zeroCells90 90)) : Mat w b (fun _ _ => false) := by
  have hs := zeroArr_size
  have ha := zeroArr_all
  generalize Tryd.zeroCells90 = c at *
  refine ⟨fun i j hi hj => ?_, fun k => ?_, c, h, hs⟩
  · have hlt : i * 36 + j < c.size := by omega
    have e : w.cell? ⟨b, i * 36 + j, none⟩ = c[i * 36 + j]? := by simp [World.cell?, h]
    rw [e, Array.getElem?_eq_getElem hlt]
    rw [List.all_eq_true] at ha
    exact congrArg some (isOff_eq (ha _ (by simp)))
  · simp [World.frozen?, h]

/-- a table, by value -/
def TabC (c : Array Value) (X : Nat → Nat → Bool) : Prop := c.size = 1296 ∧ ∀ i j, i < 36 → j < 36 → c[i * 36 + j]? = some (.bool (X i j))
theorem Mat.tab {w : World} {b : Nat} {X : Nat → Nat → Bool} (h : Mat w b X) : ∃ c, w.heap[b]? = some (.cells c 90) ∧ TabC c X := by
  obtain ⟨c, h1, h2⟩ := h.blk
  refine ⟨c, h1, h2, fun i j hi hj => ?_⟩
  have := h.cell i j hi hj
  have e : w.cell? ⟨b, i * 36 + j, none⟩ = c[i * 36 + j]? := by simp [World.cell?, h1]
  rw [← e]; exact this

theorem belowCells {B g : Nat} {a : World} (hg : B ≤ g) : ∀ (vs : List Value) (o : Nat) (w : World), Below B a w → Below B a (w.setCells g o vs)
  | [], _, _, h => h
  | v :: r, o, _, h => belowCells hg r (o + 1) _ (h.setCell (p := ⟨g, o, none⟩) hg v)
theorem sizeArr : (Tryd.prog.info? 90).map (·.size) = some 1296 := by kernel_rfl
theorem results_cell2 {fn : Func} {p q : Tmp} {t u : TypeId} (h : fn.results = #[.cell p t, .cell q u]) (tmps : Array Value) (P : Program) (w : World) :
    (results fn tmps).run P w = ((asAddr (tmps.getD p undef)).run P w).andThen fun a w₁ => ((loadVar t a).run P w₁).andThen fun v w₂ => ((asAddr (tmps.getD q undef)).run P w₂).andThen fun a' w₃ => ((loadVar u a').run P w₃).andThen fun v' w₄ => .ok (.tuple #[v, v']) w₄ := by
  simp only [results, h]
  simp [Sem.run_bind, Result.andThen]
theorem post_two {fn : Func} (hres : fn.results = #[.cell 2 90, .cell 3 90]) {R : Ending → World → Prop} {a : Act} {w : World} (B C : Nat) (L1 L2 : List Value) (hd : a.defers = [])
    (h2 : a.tmps.getD 2 undef = .pointer (some ⟨B, 0, none⟩)) (h3 : a.tmps.getD 3 undef = .pointer (some ⟨C, 0, none⟩)) (hl1 : L1.length = 1296) (hl2 : L2.length = 1296) (hc : w.rangeAt B 0 L1) (hc2 : w.rangeAt C 0 L2) (hR : R (.returned (.tuple #[.agg L1.toArray, .agg L2.toArray])) w) : bodyPost Tryd.prog fn R .ret a w := by
  refine bodyPost_ret (v := .tuple #[.agg L1.toArray, .agg L2.toArray]) ?_ hd hR
  rw [results_cell2 hres, h2, h3]
  simp only [asAddr, Sem.run_pure, Result.andThen]
  rw [run_loadVar_mid w B 0 90 L1 _ hc Tryd.underlying90 rfl (by rw [sizeArr, hl1])]
  simp only []
  rw [run_loadVar_mid w C 0 90 L2 _ hc2 Tryd.underlying90 rfl (by rw [sizeArr, hl2])]
theorem TabC.bool {c : Array Value} {X : Nat → Nat → Bool} (h : TabC c X) : ∀ v ∈ c.toList, ∃ b, v = .bool b := fun v hv => by
  obtain ⟨k, hk, rfl⟩ := List.getElem_of_mem hv
  have hk2 : k < 1296 := by have := h.1; simp at hk; omega
  have e := h.2 (k / 36) (k % 36) (by omega) (by omega)
  rw [show k / 36 * 36 + k % 36 = k by omega] at e
  refine ⟨X (k / 36) (k % 36), ?_⟩
  have e2 : c[k]? = some c.toList[k] := by rw [Array.getElem?_eq_getElem (by simpa using hk)]; simp
  rw [e2] at e
  exact Option.some.inj e

set_option maxRecDepth 100000 in
set_option maxHeartbeats 8000000 in
theorem hanging_any (v : Value) (ps : List PV) (exs : List Exp) (w : World) (hrow : w.ownsRow 0 95 10 v ps.length (ps.map PV.cells).flatten) (hps : ps.length ≤ 36) (hel : exs.length = ps.length)
    (hex : ∀ a (h : a < ps.length) (h' : a < exs.length), exs[a].sz ≤ 1000000 ∧ ERep (fun g => g < w.heap.size) w exs[a] (ExpV ps[a].k ps[a].b ps[a].c ps[a].p ps[a].l ps[a].cp)) :
    Calls Tryd.prog 32 #[v] w fun e w' => ∃ c1 c2, e = .returned (.tuple #[.agg c1, .agg c2]) ∧ TabC c1 (tabX ps exs ps.length) ∧ TabC c2 (tabY ps exs ps.length) ∧ Below w.heap.size w w' := by
  obtain ⟨va, vc, rfl, hform⟩ : ∃ a c, v = .slice a ps.length c ∧ ∀ q, a = some q → ∃ g, q = ⟨g, 0, none⟩ := by
    rcases hrow.2 with ⟨e, h0⟩ | ⟨g, cap', cur, e, _⟩
    · rw [h0]; exact ⟨_, _, e, fun q hq => by cases hq⟩
    · exact ⟨_, _, e, fun q hq => by cases hq; exact ⟨g, rfl⟩⟩
  have hnil : va = none → ps.length = 0 := fun e => by
    rcases hrow.2 with ⟨_, h0⟩ | ⟨g, cap', cur, e2, _⟩
    · exact h0
    · rw [e] at e2; cases e2
  obtain ⟨W0, hW0⟩ : ∃ W0, ((w.alloc (.cells #[.slice va ps.length vc] 86)).alloc (.cells Tryd.zeroCells90 90)).alloc (.cells Tryd.zeroCells90 90) = W0 := ⟨_, rfl⟩
  have hb0 : Below w.heap.size w W0 := by rw [← hW0]; exact (((Below.refl _ w).alloc (Nat.le_refl _) _).alloc (by simp) _).alloc (by simp; omega) _
  have hs0 : W0.heap.size = w.heap.size + 3 := by rw [← hW0]; simp
  have b1 : Boxed W0 w.heap.size 86 (.slice va ps.length vc) := by rw [← hW0]; exact ((Boxed.new w 86 _).alloc _).alloc _
  have mh : Mat W0 (w.heap.size + 1) (fun _ _ => false) := Mat.zero (by
    rw [← hW0]
    have h1 := heap_alloc_new (w.alloc (.cells #[.slice va ps.length vc] 86)) (.cells Tryd.zeroCells90 90)
    simp only [World.size_alloc] at h1
    rw [Below.heap_alloc _ _ _ (by simp)]
    exact h1)
  have ma : Mat W0 (w.heap.size + 1 + 1) (fun _ _ => false) := Mat.zero (by
    rw [← hW0]
    have h1 := heap_alloc_new ((w.alloc (.cells #[.slice va ps.length vc] 86)).alloc (.cells Tryd.zeroCells90 90)) (.cells Tryd.zeroCells90 90)
    simp only [World.size_alloc] at h1
    exact h1)
  have HW0 : Hid _ := hW0
  have c1 := b1.cell
  clear hW0
  have HInit : Hid (Below w.heap.size w W0 ∧ Boxed W0 w.heap.size 86 (.slice va ps.length vc) ∧ Mat W0 (w.heap.size + 1) (tabX ps exs 0) ∧ Mat W0 (w.heap.size + 1 + 1) (tabY ps exs 0)) := ⟨hb0, b1, mh.congr (fun a b _ _ => by simp [tabX]), ma.congr (fun a b _ _ => by simp [tabY])⟩
  clear hb0 b1 mh ma
  obtain ⟨n, hn⟩ : ∃ n, ps.length = n := ⟨_, rfl⟩
  have HN : Hid (ps.length = n) := hn
  have HRow : Hid _ := hrow
  have HEx : Hid _ := hex
  clear hrow hex
  rw [hn] at c1 hnil hps ⊢
  have HW0' : Hid (((w.alloc (.cells #[.slice va n vc] 86)).alloc (.cells Tryd.zeroCells90 90)).alloc (.cells Tryd.zeroCells90 90) = W0) := by
    show _ = _; rw [← hn]; exact HW0.out
  clear HW0 hn
  go_enter Tryd.func32, Tryd.ntmps32
  go_upto_region 1 with fail
  rw [HW0'.out]
  go_wp2
  go_loopw [8] (fun s8 wr => ∃ k : Nat, k ≤ n ∧ s8 = .int .i64 (k : Int) ∧ Hid (Below w.heap.size w wr ∧ Boxed wr w.heap.size 86 (.slice va ps.length vc) ∧ Mat wr (w.heap.size + 1) (tabX ps exs k) ∧ Mat wr (w.heap.size + 1 + 1) (tabY ps exs k))) (fun s8 _ => n - (intOf s8).toNat)
  case atStart => exact ⟨0, Nat.zero_le _, rfl, HInit.out⟩
  case round =>
    obtain ⟨k, hk, rfl, HI⟩ := hrel
    by_cases hlt : k < n
    · have hkp : k < ps.length := by have := HN.out; omega
      have hke : k < exs.length := by omega
      obtain ⟨g, rfl⟩ : ∃ g, va = some ⟨g, 0, none⟩ := by
        cases va with
        | none => have := hnil rfl; omega
        | some a => obtain ⟨g, rfl⟩ := hform a rfl; exact ⟨g, rfl⟩
      obtain ⟨hbw, hb1, hmh, hma⟩ := HI.out
      have hrow' : w.ownsRow 0 95 10 (.slice (some ⟨g, 0, none⟩) ps.length vc) ps.length (ps.map PV.cells).flatten := HRow.out
      have hg : g < w.heap.size := (hrow'.lt g rfl).2
      have cj : ∀ q, q < 10 → wr.cell? ⟨g, k * 10 + q, none⟩ = ps[k].cells[q]? := fun q hq => by
        rw [hbw.cell (p := ⟨g, k * 10 + q, none⟩) hg]; exact RowPV.cell hrow' k hkp q hq
      obtain ⟨hsz, hE⟩ := HEx.out k hkp hke
      have hsw := hbw.size
      have hml := hma.lt
      obtain ⟨W2, hW2⟩ : ∃ W2, (wr.alloc (.cells #[.int .i64 (k : Int)] 3)).alloc (.cells ps[k].cells.toArray 95) = W2 := ⟨_, rfl⟩
      have hb2 : Below wr.heap.size wr W2 := by rw [← hW2]; exact ((Below.refl _ wr).alloc (Nat.le_refl _) _).alloc (by simp) _
      have hbw2 : Below w.heap.size w W2 := hbw.trans (hb2.mono hsw)
      have hI0 : HgI w (.slice (some ⟨g, 0, none⟩) ps.length vc) ps ps[k] k w.heap.size (wr.heap.size + 1) (w.heap.size + 1) wr.heap.size (w.heap.size + 1 + 1) (tabX ps exs k) (tabY ps exs k) [] W2 := by
        refine ⟨hbw2, boxed_below hb1 hb2, ?_, ?_, (hmh.below hb2).congr (fun a b _ _ => by simp [tabH]), (hma.below hb2).congr (fun a b _ _ => by simp [tabA])⟩
        · rw [← hW2]; exact (Boxed.new wr 3 _).alloc _
        · rw [← hW2]
          have := BoxA.new (wr.alloc (.cells #[.int .i64 (k : Int)] 3)) 95 ps[k].cells.toArray
          simpa using this
      have hv := hanging1_visits w g vc ps k w.heap.size (wr.heap.size + 1) (w.heap.size + 1) wr.heap.size (w.heap.size + 1 + 1) (tabX ps exs k) (tabY ps exs k) hrow' (by have := HN.out; omega) hkp (by omega) ⟨by omega, by omega⟩ ⟨by omega, by omega⟩ ⟨by omega, by omega⟩ (by omega) (by omega)
      have hX := eachTerm_any 57 (enters_of Tryd.func57 (by kernel_rfl) rfl) _ [w.heap.size + 1, w.heap.size + 1 + 1] _ hv exs[k] (ExpV ps[k].k ps[k].b ps[k].c ps[k].p ps[k].l ps[k].cp) W2 hsz
        (fun q hq => by have := hb2.size; simp at hq; omega) (hE.mono (fun q hq => ⟨by have := hbw2.size; omega, by simp; omega⟩) (fun q hq => hbw2.block q hq)) hI0
      have b5 := hI0.b5
      have HStep : Hid (∀ W', HgI w (.slice (some ⟨g, 0, none⟩) ps.length vc) ps ps[k] k w.heap.size (wr.heap.size + 1) (w.heap.size + 1) wr.heap.size (w.heap.size + 1 + 1) (tabX ps exs k) (tabY ps exs k) (exs[k].flat false) W' → Below w.heap.size w W' ∧ Boxed W' w.heap.size 86 (.slice (some ⟨g, 0, none⟩) ps.length vc) ∧ Mat W' (w.heap.size + 1) (tabX ps exs (k + 1)) ∧ Mat W' (w.heap.size + 1 + 1) (tabY ps exs (k + 1))) := fun W' h =>
        ⟨h.bel, h.b1, h.mh.congr (fun a b _ _ => tabX_step ps exs k hkp hke a b), h.ma.congr (fun a b _ _ => tabY_step ps exs k hkp hke a b)⟩
      clear hv hI0 hE hb1 hmh hma HI HRow HEx hbw hb2 hrow'
      have HW2 : Hid _ := hW2
      clear hW2
      generalize ps[k] = y at *
      obtain ⟨yty, ynm, yblk, yset, yk, yb, yc, yp, yl, ycp, yrank, yline⟩ := y
      have d0 := cj 0 (by decide)
      have d1 := cj 1 (by decide)
      have d2 := cj 2 (by decide)
      have d3 := cj 3 (by decide)
      have d4 := cj 4 (by decide)
      have d5 := cj 5 (by decide)
      have d6 := cj 6 (by decide)
      have d7 := cj 7 (by decide)
      have d8 := cj 8 (by decide)
      have d9 := cj 9 (by decide)
      clear cj
      simp only [PV.cells, strV, List.getElem?_cons_zero, List.getElem?_cons_succ, Nat.add_zero] at d0 d1 d2 d3 d4 d5 d6 d7 d8 d9 HW2
      have e4 : W2.cell? ⟨wr.heap.size + 1, 4, none⟩ = some (.int .i64 yk) := b5.cell 4
      have e5 : W2.cell? ⟨wr.heap.size + 1, 5, none⟩ = some (.string yb) := b5.cell 5
      have e6 : W2.cell? ⟨wr.heap.size + 1, 6, none⟩ = some (.string yc) := b5.cell 6
      have e7 : W2.cell? ⟨wr.heap.size + 1, 7, none⟩ = some (.slice yp yl ycp) := b5.cell 7
      simp only [ExpV] at hX
      clear b5
      go_upto_region 4 with fail
      rw [HW2.out]
      go_wp2_with (go_at_call 28; refine hX.mono ?_; rintro e w' ⟨⟨v2, rfl⟩, h1, h2⟩)
      go_roundw
      case rel => exact ⟨k + 1, by omega, by go_num, HStep.out _ h1⟩
      case measure => simp [intOf]; omega
    · obtain rfl : k = n := by omega
      obtain ⟨hbw, hb1, hmh, hma⟩ := HI.out
      obtain ⟨t1, hh1, ht1⟩ := hmh.tab
      obtain ⟨t2, hh2, ht2⟩ := hma.tab
      obtain ⟨L1, hL1⟩ : ∃ L1, t1.toList = L1 := ⟨_, rfl⟩
      obtain ⟨L2, hL2⟩ : ∃ L2, t2.toList = L2 := ⟨_, rfl⟩
      have hl1 : L1.length = 1296 := by rw [← hL1]; simpa using ht1.1
      have hl2 : L2.length = 1296 := by rw [← hL2]; simpa using ht2.1
      have o1 : ∀ v ∈ L1, v.oneCell' = true := fun v hv => by rw [← hL1] at hv; obtain ⟨b, rfl⟩ := ht1.bool v hv; rfl
      have o2 : ∀ v ∈ L2, v.oneCell' = true := fun v hv => by rw [← hL2] at hv; obtain ⟨b, rfl⟩ := ht2.bool v hv; rfl
      have r1 : wr.rangeAt (w.heap.size + 1) 0 L1 := fun j v hv => by
        rw [← hL1] at hv
        rw [Nat.zero_add]
        simp [World.cell?, hh1]
        simpa using hv
      have r2 : wr.rangeAt (w.heap.size + 1 + 1) 0 L2 := fun j v hv => by
        rw [← hL2] at hv
        rw [Nat.zero_add]
        simp [World.cell?, hh2]
        simpa using hv
      have q1 : wr.there (w.heap.size + 1) 0 1296 := fun j hj => ⟨r1.isSome j (by omega), by rw [Nat.zero_add]; exact hmh.fr j⟩
      have q2 : wr.there (w.heap.size + 1 + 1) 0 1296 := fun j hj => ⟨r2.isSome j (by omega), by rw [Nat.zero_add]; exact hma.fr j⟩
      have hu := Tryd.underlying90
      have z1 : (Tryd.prog.info? 90).map (·.size) = some L1.length := by rw [sizeArr, hl1]
      have z2 : (Tryd.prog.info? 90).map (·.size) = some L2.length := by rw [sizeArr, hl2]
      have HT1 : Hid (TabC L1.toArray (tabX ps exs ps.length)) := by show TabC _ _; rw [← hL1, HN.out]; simpa using ht1
      have HT2 : Hid (TabC L2.toArray (tabY ps exs ps.length)) := by show TabC _ _; rw [← hL2, HN.out]; simpa using ht2
      have HBw : Hid _ := hbw
      clear hh1 hh2 ht1 ht2 hL1 hL2 hmh hma hb1 hbw HI HRow HEx HInit
      go_wp2
      have hS0 : (wr.drew.rangeAt (w.heap.size + 1) 0 L1 ∧ wr.drew.rangeAt (w.heap.size + 1 + 1) 0 L2) ∧ (wr.drew.there (w.heap.size + 1) 0 1296 ∧ wr.drew.there (w.heap.size + 1 + 1) 0 1296) :=
        ⟨⟨(World.rangeAt_drew _ _ _ _).2 r1, (World.rangeAt_drew _ _ _ _).2 r2⟩, (World.there_drew _ _ _ _).2 q1, (World.there_drew _ _ _ _).2 q2⟩
      refine wp_region_held_drew (S := fun u => (u.rangeAt (w.heap.size + 1) 0 L1 ∧ u.rangeAt (w.heap.size + 1 + 1) 0 L2) ∧ (u.there (w.heap.size + 1) 0 1296 ∧ u.there (w.heap.size + 1 + 1) 0 1296)) (by kernel_rfl) hS0 (fun hS => ?_)
      refine wpAnyH_take (i := 0) (v := .agg L1.toArray) rfl (by kernel_rfl) (by kernel_rfl) (by kernel_rfl) (fun _ _ _ h => h) (yieldsIf_load_mid (by rfl) _ _ rfl (w.heap.size + 1) 0 rfl L1 _ (fun u hu => hu.1.1) hu rfl z1) hS ?_
      refine wpAnyH_take (i := 1) (v := .agg L2.toArray) rfl (by kernel_rfl) (by kernel_rfl) (by kernel_rfl) (fun _ _ _ h => h) (yieldsIf_load_mid (by rfl) _ _ rfl (w.heap.size + 1 + 1) 0 rfl L2 _ (fun u hu => hu.1.2) hu rfl z2) hS ?_
      refine wpAnyH_ready (rs := [2]) (by kernel_rfl) (by simp) ?_
      refine AllReadyH.cons rfl (fun K' hK => ?_) AllReadyH.nil
      rw [if_pos (by rfl)]
      refine wp_store_mid 90 _ _ rfl (w.heap.size + 1) 0 L1.toArray rfl rfl (by simpa [hl1] using hS.2.1) (by simpa using z1) (all_oneCell_toArray o1) ?_
      have hS1 : ((wr.drew.setCells (w.heap.size + 1) 0 L1).rangeAt (w.heap.size + 1) 0 L1 ∧ (wr.drew.setCells (w.heap.size + 1) 0 L1).rangeAt (w.heap.size + 1 + 1) 0 L2) ∧ ((wr.drew.setCells (w.heap.size + 1) 0 L1).there (w.heap.size + 1) 0 1296 ∧ (wr.drew.setCells (w.heap.size + 1) 0 L1).there (w.heap.size + 1 + 1) 0 1296) :=
        ⟨⟨World.rangeAt_setCells_same _ _ _ _ (by rw [hl1]; exact hS.2.1), World.rangeAt_setCells_apart hS.1.2 _ _ _ (by omega)⟩, World.there_setCells hS.2.1 _ _ _, World.there_setCells hS.2.2 _ _ _⟩
      refine hK.out _ _ hS1 (fun _ => ?_)
      refine wpAnyH_ready (rs := [3]) (by kernel_rfl) (by simp) ?_
      refine AllReadyH.cons rfl (fun K' hK => ?_) AllReadyH.nil
      rw [if_pos (by rfl)]
      refine wp_store_mid 90 _ _ rfl (w.heap.size + 1 + 1) 0 L2.toArray rfl rfl (by simpa [hl2] using hS1.2.2) (by simpa using z2) (all_oneCell_toArray o2) ?_
      have hS2 : (((wr.drew.setCells (w.heap.size + 1) 0 L1).setCells (w.heap.size + 1 + 1) 0 L2).rangeAt (w.heap.size + 1) 0 L1 ∧ ((wr.drew.setCells (w.heap.size + 1) 0 L1).setCells (w.heap.size + 1 + 1) 0 L2).rangeAt (w.heap.size + 1 + 1) 0 L2) ∧ (((wr.drew.setCells (w.heap.size + 1) 0 L1).setCells (w.heap.size + 1 + 1) 0 L2).there (w.heap.size + 1) 0 1296 ∧ ((wr.drew.setCells (w.heap.size + 1) 0 L1).setCells (w.heap.size + 1 + 1) 0 L2).there (w.heap.size + 1 + 1) 0 1296) :=
        ⟨⟨World.rangeAt_setCells_apart hS1.1.1 _ _ _ (by omega), World.rangeAt_setCells_same _ _ _ _ (by rw [hl2]; exact hS1.2.2)⟩, World.there_setCells hS1.2.1 _ _ _, World.there_setCells hS1.2.2 _ _ _⟩
      refine hK.out _ _ hS2 (fun _ => ?_)
      refine wpAnyH_done (by kernel_rfl) ?_ _
      go_wp2
      have h1 := HT1.out
      have h2 := HT2.out
      rw [HN.out] at h1 h2
      exact post_two rfl (w.heap.size + 1) (w.heap.size + 1 + 1) L1 L2 rfl rfl rfl hl1 hl2 hS2.1.1 hS2.1.2 ⟨_, _, rfl, h1, h2, belowCells (by omega) _ _ _ (belowCells (by omega) _ _ _ (HBw.out.trans ((Below.refl _ _).drew)))⟩
end Go.Proofs.YtlgodpadcilcaaaDoor
namespace Go.Proofs.YtlgodpadcilcaaaDoor
open Go.ChangeShapes Go.WideShapes Go.ChangeAt Go.RowKit Go.Shelf

theorem sizeRow36 : (Tryd.prog.info? 88).map (·.size) = some 36 := by kernel_rfl
/-- row i of a table -/
def rowC (c : Array Value) (i : Nat) : List Value := (c.toList.drop (i * 36)).take 36
theorem rowC_len {c : Array Value} {X : Nat → Nat → Bool} (h : TabC c X) {i : Nat} (hi : i < 36) : (rowC c i).length = 36 := by
  have := h.1
  simp [rowC]; omega
theorem rowC_at {c : Array Value} {X : Nat → Nat → Bool} (h : TabC c X) {i j : Nat} (hi : i < 36) (hj : j < 36) : (rowC c i)[j]? = some (.bool (X i j)) := by
  unfold rowC
  rw [List.getElem?_take_of_lt hj, List.getElem?_drop]
  have := h.2 i j hi hj
  simpa using this
theorem range_row {w : World} {b : Nat} {c : Array Value} (h : w.heap[b]? = some (.cells c 90)) (i : Nat) : w.rangeAt b (i * 36) (rowC c i) := fun j v hv => by
  unfold rowC at hv
  have hj : j < 36 := by
    have h1 := (List.getElem?_eq_some_iff.1 hv).1
    rw [List.length_take] at h1; omega
  rw [List.getElem?_take_of_lt hj, List.getElem?_drop] at hv
  simp [World.cell?, h]
  simpa using hv

theorem index_row (row : List Value) (j : Nat) (hj : j < 36) (q : Bool) (h : row.toArray[j]? = some (.bool q)) (W : World) : (Instr.index 88 (.agg row.toArray) (.int .i64 (j : Int))).run Tryd.prog W = .ok (.bool q) W := by
  have h' : row[j]? = some (.bool q) := by simpa using h
  unfold Instr.index
  simp [go_sem, Sem.run_bind, hj, h']

/-- what leadBack answers -/
def LbAns (A X : Nat → Nat → Bool) (e : Ending) : Prop := ∃ q : Bool, e = .returned (.bool q) ∧ (q = true ↔ ∃ i, i < 36 ∧ ∃ j, j < 36 ∧ A i j = true ∧ X j i = true)

set_option maxRecDepth 100000 in
set_option maxHeartbeats 4000000 in
theorem leadBack_any (Bh : Nat) (c2 : Array Value) (X A : Nat → Nat → Bool) (w : World) (hM : Mat w Bh X) (hT : TabC c2 A) :
    Calls Tryd.prog 34 #[.pointer (some ⟨Bh, 0, none⟩), .agg c2] w fun e w' => LbAns A X e ∧ Below w.heap.size w w' := by
  obtain ⟨W, hW⟩ : ∃ W, w.alloc (.cells c2 90) = W := ⟨_, rfl⟩
  have hb : Below w.heap.size w W := by rw [← hW]; exact (Below.refl _ _).alloc (Nat.le_refl _) _
  have hblk : W.heap[w.heap.size]? = some (.cells c2 90) := by rw [← hW]; exact heap_alloc_new w _
  have hM2 := hM.below hb
  have HRg : Hid (∀ i, W.rangeAt w.heap.size (i * 36) (rowC c2 i)) := fun i => range_row hblk i
  have HW : Hid _ := hW
  have HB : Hid _ := hb
  have HM : Hid _ := hM2
  have HT : Hid _ := hT
  clear hW hb hblk hM hM2 hT
  go_enter Tryd.func34, Tryd.ntmps34
  go_wp2
  rw [HW.out]
  go_loop [8] (fun s8 => ∃ i : Nat, i ≤ 36 ∧ s8 = .int .i64 (i : Int) ∧ Hid (∀ a, a < i → ∀ b, b < 36 → ¬ (A a b = true ∧ X b a = true))) (fun s8 => 36 - (intOf s8).toNat)
  case atStart => exact ⟨0, by omega, rfl, fun a ha => by omega⟩
  case round =>
    obtain ⟨i, hi, rfl, HN⟩ := hrel
    by_cases hi6 : i < 36
    · have hrg := HRg.out i
      have hz : (Tryd.prog.info? 88).map (·.size) = some (rowC c2 i).length := by rw [sizeRow36, rowC_len HT.out hi6]
      have HRow : Hid (∀ j, j < 36 → (rowC c2 i)[j]? = some (.bool (A i j))) := fun j hj => rowC_at HT.out hi6 hj
      have hrl : (rowC c2 i).length = 36 := rowC_len HT.out hi6
      have hii : (i : Int) < 36 := by omega
      generalize rowC c2 i = row at *
      have HZ : Hid _ := hz
      have HG : Hid _ := hrg
      clear hz hrg
      go_wp2_with (refine wpList_load_mid rfl 88 (.tmp 12) rfl w.heap.size (i * 36) rfl row _ HG.out Tryd.underlying88 rfl HZ.out ?_)
      go_loop [14] (fun s14 => ∃ j : Nat, j ≤ 36 ∧ s14 = .int .i64 (j : Int) ∧ Hid (∀ b, b < j → ¬ (A i b = true ∧ X b i = true))) (fun s14 => 36 - (intOf s14).toNat)
      case atStart => exact ⟨0, by omega, rfl, fun b hb => by omega⟩
      case round =>
        obtain ⟨j, hj, rfl, HN2⟩ := hrel
        by_cases hj6 : j < 36
        · have hr := HRow.out j hj6
          have hr2 : row.toArray[j]? = some (.bool (A i j)) := by simpa using hr
          have cx := HM.out.cell j i hj6 hi6
          have hji : (j : Int) < 36 := by omega
          have hr3 := index_row row j hj6 (A i j) hr2 W
          have HEq : Hid (∀ q1 q2, q1 = A i j → q2 = X j i → q1 = true → q2 = true → LbAns A X (.returned (.bool true))) := fun q1 q2 h1 h2 h3 h4 => ⟨true, rfl, ⟨fun _ => ⟨i, hi6, j, hj6, by rw [← h1]; exact h3, by rw [← h2]; exact h4⟩, fun _ => rfl⟩⟩
          have HNx : Hid (∀ q1 q2, q1 = A i j → q2 = X j i → ¬ (q1 = true ∧ q2 = true) → ∀ b, b < j + 1 → ¬ (A i b = true ∧ X b i = true)) := fun q1 q2 h1 h2 h3 b hb => by
            by_cases e : b = j
            · subst e; rw [← h1, ← h2]; exact h3
            · exact HN2.out b (by omega)
          obtain ⟨q1, hq1⟩ : ∃ q1, A i j = q1 := ⟨_, rfl⟩
          obtain ⟨q2, hq2⟩ : ∃ q2, X j i = q2 := ⟨_, rfl⟩
          have HQ1 : Hid (A i j = q1) := hq1
          have HQ2 : Hid (X j i = q2) := hq2
          rw [hq1] at hr3
          clear hr hr2
          rw [hq2] at cx
          clear hq1 hq2 HN2
          cases q1 with
          | true =>
            cases q2 with
            | true =>
              go_wp2
              go_ret
              exact ⟨HEq.out true true HQ1.out.symm HQ2.out.symm rfl rfl, HB.out⟩
            | false =>
              go_wp2
              go_round
              case rel => exact ⟨j + 1, by omega, by go_num, HNx.out true false HQ1.out.symm HQ2.out.symm (by simp)⟩
              case measure => simp [intOf]; omega
          | false =>
            go_wp2
            go_round
            case rel => exact ⟨j + 1, by omega, by go_num, HNx.out false q2 HQ1.out.symm HQ2.out.symm (by simp)⟩
            case measure => simp [intOf]; omega
        · obtain rfl : j = 36 := by omega
          go_wp2
          go_round
          case rel => exact ⟨i + 1, by omega, by go_num, fun a ha b hb => by
            by_cases e : a = i
            · subst e; exact HN2.out b hb
            · exact HN.out a (by omega) b hb⟩
          case measure => simp [intOf]; omega
    · obtain rfl : i = 36 := by omega
      go_wp2
      go_ret
      exact ⟨⟨false, rfl, ⟨fun h => (by cases h), fun ⟨a, ha, b, hb, h1, h2⟩ => absurd ⟨h1, h2⟩ (HN.out a ha b hb)⟩⟩, HB.out⟩
end Go.Proofs.YtlgodpadcilcaaaDoor
namespace Go.Proofs.YtlgodpadcilcaaaDoor
open Go.ChangeShapes Go.WideShapes Go.ChangeAt Go.RowKit Go.Shelf

def RcAns (e : Ending) : Prop := ∃ r : Nat, e = .returned (.int .i64 (r : Int))

set_option maxRecDepth 100000 in
set_option maxHeartbeats 4000000 in
theorem reach_any (Bh i : Nat) (X : Nat → Nat → Bool) (w : World) (hM : Mat w Bh X) (hi : i < 36) :
    Calls Tryd.prog 35 #[.pointer (some ⟨Bh, 0, none⟩), .int .i64 (i : Int)] w fun e w' => RcAns e ∧ w' = w := by
  obtain ⟨c, hblk, hT⟩ := hM.tab
  have hrg := range_row hblk i
  have hz : (Tryd.prog.info? 88).map (·.size) = some (rowC c i).length := by rw [sizeRow36, rowC_len hT hi]
  have HIx : Hid (∀ j : Nat, j < 36 → (Instr.index 88 (.agg (rowC c i).toArray) (.int .i64 (j : Int))).run Tryd.prog w = .ok (.bool (X i j)) w) := fun j hj => index_row _ j hj _ (by simpa using rowC_at hT hi hj) w
  have HZ : Hid _ := hz
  have HG : Hid _ := hrg
  have hii : (i : Int) < 36 := by omega
  clear hz hrg hT hM hblk
  generalize rowC c i = row at *
  go_enter Tryd.func35, Tryd.ntmps35
  go_wp2_with (refine wpList_load_mid rfl 88 (.tmp 11) rfl Bh (i * 36) rfl row _ HG.out Tryd.underlying88 rfl HZ.out ?_)
  go_loop [5, 13] (fun s5 s13 => ∃ j r : Nat, j ≤ 36 ∧ s13 = .int .i64 (j : Int) ∧ s5 = .int .i64 (r : Int) ∧ r ≤ j + 1) (fun _ s13 => 36 - (intOf s13).toNat)
  case atStart => exact ⟨0, 1, by omega, rfl, rfl, by omega⟩
  case round =>
    obtain ⟨j, r, hj, rfl, rfl, hr⟩ := hrel
    by_cases hj6 : j < 36
    · have hx := HIx.out j hj6
      generalize X i j = q at *
      have hji : (j : Int) < 36 := by omega
      cases q with
      | true =>
        by_cases hji2 : j = i
        · subst hji2
          go_wp2
          go_round
          case rel => exact ⟨j + 1, r, by omega, by go_num, rfl, by omega⟩
          case measure => simp [intOf]; omega
        · have hq : ¬ (j : Int) = (i : Int) := by omega
          go_wp2
          go_round
          case rel => exact ⟨j + 1, r + 1, by omega, by go_num, by go_num, by omega⟩
          case measure => simp [intOf]; omega
      | false =>
        go_wp2
        go_round
        case rel => exact ⟨j + 1, r, by omega, by go_num, rfl, by omega⟩
        case measure => simp [intOf]; omega
    · obtain rfl : j = 36 := by omega
      go_wp2
      go_ret
      exact ⟨⟨r, rfl⟩, rfl⟩
end Go.Proofs.YtlgodpadcilcaaaDoor
