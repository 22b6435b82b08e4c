import Derived.Test.YtlgodpadcilcaaaGreatDoorP20
namespace Go.Proofs.YtlgodpadcilcaaaGreatDoor
open Go.ChangeShapes Go.WideShapes Go.ChangeAt Go.RowKit

theorem blocks_mid {Rd S : Nat} {rbT : Option Nat} {A B : List Zt} {z : Zt} : (allBlocks Rd S rbT (A ++ z :: B)).Perm (z.blocks ++ (Rd :: S :: (rbT.toList ++ (A.flatMap Zt.blocks ++ B.flatMap Zt.blocks)))) := by
  unfold allBlocks
  rw [List.flatMap_append, List.flatMap_cons]
  have h1 : (rbT.toList ++ (A.flatMap Zt.blocks ++ (z.blocks ++ B.flatMap Zt.blocks))).Perm (z.blocks ++ (rbT.toList ++ (A.flatMap Zt.blocks ++ B.flatMap Zt.blocks))) := by
    have h2 : (A.flatMap Zt.blocks ++ (z.blocks ++ B.flatMap Zt.blocks)).Perm (z.blocks ++ (A.flatMap Zt.blocks ++ B.flatMap Zt.blocks)) := List.perm_append_comm_assoc _ _ _
    exact (h2.append_left _).trans (List.perm_append_comm_assoc _ _ _)
  refine ((h1.cons S).cons Rd).trans ?_
  have h3 : (S :: (z.blocks ++ (rbT.toList ++ (A.flatMap Zt.blocks ++ B.flatMap Zt.blocks)))).Perm (z.blocks ++ S :: (rbT.toList ++ (A.flatMap Zt.blocks ++ B.flatMap Zt.blocks))) := List.perm_middle.symm
  exact (h3.cons Rd).trans List.perm_middle.symm

/-- one relation more, of the last type -/
theorem PRep.addRel {w w3 : World} {Rd S : Nat} {rbT : Option Nat} {A B : List Zt} {z : Zt} {st : List Ty} {x : RV} {r : Rl} (h : PRep w Rd S rbT (A ++ z :: B) st) (hlast : st.getLast? = some z.ty) (hr1 : w.cell? ⟨Rd, 1, none⟩ = some (.pointer (some ⟨z.tv.blk, 0, none⟩)))
    (hrep : RelRep (fun g => g < w.heap.size ∧ g ∉ allBlocks Rd S rbT (A ++ z :: B)) w x r) (hput : PutRAns w w3 z.tv.blk z.rb z.es x) :
    ∃ zs', PRep w3 Rd S rbT zs' (st.dropLast ++ [⟨z.ty.nm, z.ty.rels ++ [r]⟩]) ∧ (∀ g ∈ allBlocks Rd S rbT zs', g ∈ allBlocks Rd S rbT (A ++ z :: B) ∨ w.heap.size ≤ g) ∧ ButM (allBlocks Rd S rbT (A ++ z :: B)) w w3 := by
  obtain ⟨p, rb', hp, hown3, hrb, hbut⟩ := hput
  have hzm : z ∈ A ++ z :: B := by simp
  have hz := h.zok z hzm
  obtain ⟨a1, a2, a3, a4⟩ := blocks_apart h.nodup
  have hs3 := hbut.size
  have hblk : z.tv.blk ∈ allBlocks Rd S rbT (A ++ z :: B) := mem_blocks_R hzm (by simp [Zt.blocks])
  have hrbm : ∀ k, z.rb = some k → k ∈ allBlocks Rd S rbT (A ++ z :: B) := fun k hk => mem_blocks_R hzm (by simp [Zt.blocks, hk])
  have hkeep : ∀ k, k < w.heap.size → k ∉ z.blocks → w3.heap[k]? = w.heap[k]? := fun k hk hn => hbut.block k hk (fun e => hn (by rw [e]; simp [Zt.blocks])) (fun e => hn (by simp [Zt.blocks, e]))
  have hbm : ButM (allBlocks Rd S rbT (A ++ z :: B)) w w3 := ⟨hbut.os, hbut.tape, hbut.output, hbut.size, fun k hk hn => hkeep k hk (fun hm => hn (mem_blocks_R hzm hm))⟩
  obtain ⟨z', hz'⟩ : ∃ z' : Zt, z' = ⟨z.tv, ⟨z.ty.nm, z.ty.rels ++ [r]⟩, rb', z.es.take p ++ x :: z.es.drop p, z.rs.take p ++ r :: z.rs.drop p⟩ := ⟨_, rfl⟩
  have hnd := (blocks_mid (Rd := Rd) (S := S) (rbT := rbT) (A := A) (B := B) (z := z)).nodup_iff.1 h.nodup
  rw [List.nodup_append] at hnd
  obtain ⟨n1, n2, n3⟩ := hnd
  have hmid' := blocks_mid (Rd := Rd) (S := S) (rbT := rbT) (A := A) (B := B) (z := z')
  have hmid := blocks_mid (Rd := Rd) (S := S) (rbT := rbT) (A := A) (B := B) (z := z)
  have hzb' : ∀ g ∈ z'.blocks, g = z.tv.blk ∨ rb' = some g := fun g hg => by
    rw [hz'] at hg
    simpa [Zt.blocks] using hg
  have hmem : ∀ g ∈ allBlocks Rd S rbT (A ++ z' :: B), g ∈ allBlocks Rd S rbT (A ++ z :: B) ∨ w.heap.size ≤ g := fun g hg => by
    rcases List.mem_append.1 (hmid'.mem_iff.1 hg) with hg | hg
    · rcases hzb' g hg with rfl | e
      · exact .inl hblk
      · rcases hrb with e2 | ⟨g', e2, hle⟩
        · exact .inl (hrbm g (by rw [← e2]; exact e))
        · rw [e2] at e; cases e; exact .inr hle
    · exact .inl (hmid.mem_iff.2 (List.mem_append_right _ hg))
  have hlt3 : ∀ g ∈ allBlocks Rd S rbT (A ++ z' :: B), g < w3.heap.size := fun g hg => by
    rcases List.mem_append.1 (hmid'.mem_iff.1 hg) with hg | hg
    · rcases hzb' g hg with rfl | e
      · have := h.lt _ hblk; omega
      · exact hown3.lt.2 g e
    · have := h.lt g (hmid.mem_iff.2 (List.mem_append_right _ hg)); omega
  have hrest : ∀ g ∈ (Rd :: S :: (rbT.toList ++ (A.flatMap Zt.blocks ++ B.flatMap Zt.blocks))), w3.heap[g]? = w.heap[g]? := fun g hg =>
    hkeep g (h.lt g (hmid.mem_iff.2 (List.mem_append_right _ hg))) (fun hm => n3 g hm g hg rfl)
  have hRd3 : w3.heap[Rd]? = w.heap[Rd]? := hrest Rd (List.mem_cons_self ..)
  have hmono : ∀ g, g < w.heap.size ∧ g ∉ allBlocks Rd S rbT (A ++ z :: B) → g < w3.heap.size ∧ g ∉ allBlocks Rd S rbT (A ++ z' :: B) := fun g hg => ⟨by omega, fun hm => by
    rcases hmem g hm with hm | hm
    · exact hg.2 hm
    · omega⟩
  have hsame : ∀ g, g < w.heap.size ∧ g ∉ allBlocks Rd S rbT (A ++ z :: B) → w3.heap[g]? = w.heap[g]? := fun g hg => hbm.block g hg.1 hg.2
  refine ⟨A ++ z' :: B, ⟨?_, ?_, ?_, ?_, hlt3, ?_, ?_, ?_⟩, hmem, hbm⟩
  · have e : (A ++ z' :: B).map (·.tv) = (A ++ z :: B).map (·.tv) := by rw [hz']; simp
    rw [e]
    exact h.own.keep (hrest S (by simp)) (fun k hk => hrest k (by simp [hk]))
  · have hs := getLast_split hlast
    have h1 := h.perm
    rw [hs] at h1
    have h2 : ((A.map (·.ty)) ++ z.ty :: B.map (·.ty)).Perm (st.dropLast ++ [z.ty]) := by simpa using h1
    have h3 : (z.ty :: (A.map (·.ty) ++ B.map (·.ty))).Perm (z.ty :: st.dropLast) := List.perm_middle.symm.trans (h2.trans (List.perm_append_singleton _ _))
    have h4 := List.Perm.cons_inv h3
    have e : (A ++ z' :: B).map (·.ty) = A.map (·.ty) ++ ⟨z.ty.nm, z.ty.rels ++ [r]⟩ :: B.map (·.ty) := by rw [hz']; simp
    rw [e]
    exact List.perm_middle.trans ((h4.cons _).trans (List.perm_append_singleton _ _).symm)
  · intro y hy
    have hy' : (y ∈ A ∨ y ∈ B) ∨ y = z' := by
      rcases List.mem_append.1 hy with hy | hy
      · exact .inl (.inl hy)
      · rcases List.mem_cons.1 hy with hy | hy
        · exact .inr hy
        · exact .inl (.inr hy)
    rcases hy' with hy' | hyz
    · have hym : y ∈ A ++ z :: B := by rcases hy' with hy' | hy' <;> simp [hy']
      have hk := h.zok y hym
      have hb1 : ∀ g ∈ y.blocks, w3.heap[g]? = w.heap[g]? := fun g hg => hrest g (by
        refine List.mem_cons_of_mem _ (List.mem_cons_of_mem _ (List.mem_append_right _ ?_))
        rcases hy' with hy' | hy'
        · exact List.mem_append_left _ (List.mem_flatMap.2 ⟨y, hy', hg⟩)
        · exact List.mem_append_right _ (List.mem_flatMap.2 ⟨y, hy', hg⟩))
      refine ⟨hk.key, hk.own.keep (hb1 _ (by simp [Zt.blocks])) (fun k hk' => hb1 k (by simp [Zt.blocks, hk'])), hk.perm, hk.len, fun i h1 h2 => ?_⟩
      obtain ⟨r1, r2, r3, r4⟩ := hk.rep i h1 h2
      exact ⟨r1, r2, r3, r4.mono hmono hsame⟩
    · have hlen := hz.len
      have hpl : p ≤ z.es.length := by have := hp.le; simpa using this
      have e_tv : z'.tv = z.tv := by rw [hz']
      have e_ty : z'.ty = ⟨z.ty.nm, z.ty.rels ++ [r]⟩ := by rw [hz']
      have e_rb : z'.rb = rb' := by rw [hz']
      have e_es : z'.es = z.es.take p ++ x :: z.es.drop p := by rw [hz']
      have e_rs : z'.rs = z.rs.take p ++ r :: z.rs.drop p := by rw [hz']
      rw [hyz]
      refine ⟨by rw [e_tv, e_ty]; exact hz.key, by rw [e_tv, e_rb, e_es]; exact hown3, ?_, by rw [e_es, e_rs]; simp; omega, fun i h1' h2' => ?_⟩
      · rw [e_rs, e_ty]
        exact (perm_ins z.rs r p).trans (hz.perm.append_right _)
      · have key : ∀ a b, RelRep (fun g => g < w.heap.size ∧ g ∉ allBlocks Rd S rbT (A ++ z :: B)) w a b → RelRep (fun g => g < w3.heap.size ∧ g ∉ allBlocks Rd S rbT (A ++ z' :: B)) w3 a b := fun a b hab => ⟨hab.1, hab.2.1, hab.2.2.1, hab.2.2.2.mono hmono hsame⟩
        have h1 : i < (z.es.take p ++ x :: z.es.drop p).length := by rw [← e_es]; exact h1'
        have h2 : i < (z.rs.take p ++ r :: z.rs.drop p).length := by rw [← e_rs]; exact h2'
        have g1 : z'.es[i]'h1' = (z.es.take p ++ x :: z.es.drop p)[i]'h1 := by simp only [e_es]
        have g2 : z'.rs[i]'h2' = (z.rs.take p ++ r :: z.rs.drop p)[i]'h2 := by simp only [e_rs]
        rw [g1, g2]
        rcases Nat.lt_trichotomy i p with hlt | heq | hgt
        · rw [List.getElem_append_left (by rw [List.length_take]; omega), List.getElem_append_left (by rw [List.length_take]; omega), List.getElem_take, List.getElem_take]
          exact key _ _ (hz.rep i (by omega) (by omega))
        · subst heq
          have e1 : (z.es.take i ++ x :: z.es.drop i)[i]'h1 = x := by
            rw [List.getElem_append_right (by rw [List.length_take]; omega)]
            simp [List.length_take, Nat.min_eq_left hpl]
          have e2 : (z.rs.take i ++ r :: z.rs.drop i)[i]'h2 = r := by
            rw [List.getElem_append_right (by rw [List.length_take]; omega)]
            simp [List.length_take, Nat.min_eq_left (show i ≤ z.rs.length by omega)]
          rw [e1, e2]
          exact key _ _ hrep
        · have hi1 : i < z.es.length + 1 := by simp at h1; omega
          have e1 : (z.es.take p ++ x :: z.es.drop p)[i]'h1 = z.es[i - 1]'(by omega) := by
            rw [List.getElem_append_right (by rw [List.length_take]; omega)]
            simp only [List.length_take, Nat.min_eq_left hpl]
            rw [List.getElem_cons, dif_neg (by omega), List.getElem_drop]
            congr 1
            omega
          have e2 : (z.rs.take p ++ r :: z.rs.drop p)[i]'h2 = z.rs[i - 1]'(by omega) := by
            rw [List.getElem_append_right (by rw [List.length_take]; omega)]
            simp only [List.length_take, Nat.min_eq_left (show p ≤ z.rs.length by omega)]
            rw [List.getElem_cons, dif_neg (by omega), List.getElem_drop]
            congr 1
            omega
          rw [e1, e2]
          exact key _ _ (hz.rep (i - 1) (by omega) (by omega))
  · rw [hmid'.nodup_iff, List.nodup_append]
    refine ⟨?_, n2, fun a ha b hb e => ?_⟩
    · rw [hz']
      simp only [Zt.blocks]
      rw [List.nodup_cons]
      refine ⟨fun hm => hown3.ne (by simpa using hm), by cases rb' <;> simp⟩
    · subst e
      rcases hzb' a ha with rfl | e
      · exact n3 _ (by simp [Zt.blocks]) _ hb rfl
      · rcases hrb with e2 | ⟨g', e2, hle⟩
        · exact n3 a (by simp [Zt.blocks]; right; rw [← e2]; exact e) a hb rfl
        · rw [e2] at e; cases e
          have := h.lt a (hmid.mem_iff.2 (List.mem_append_right _ hb))
          omega
  · rw [World.cell?_of_block (w := w) (a := ⟨Rd, 0, none⟩) hRd3]; exact h.rd0
  · right
    refine ⟨z', by simp, by rw [hz']; simp, ?_⟩
    rw [World.cell?_of_block (w := w) (a := ⟨Rd, 1, none⟩) hRd3, hz']; exact hr1
  · intro j
    rw [World.frozen?_of_block (w := w) (a := ⟨Rd, j, none⟩) hRd3]; exact h.frz j
end Go.Proofs.YtlgodpadcilcaaaGreatDoor
namespace Go.Proofs.YtlgodpadcilcaaaGreatDoor
open Go.ChangeShapes Go.WideShapes Go.ChangeAt Go.RowKit

theorem ZOk.keys {M : List Nat} {w : World} {z : Zt} (h : ZOk M w z) (n : List UInt8) : n ∈ z.es.map (·.key) ↔ n ∈ z.ty.rels.map (·.nm) := by
  have e : z.es.map (·.key) = z.rs.map (·.nm) := by
    apply List.ext_getElem
    · simp [h.len]
    · intro i h1 h2
      simp only [List.getElem_map]
      exact (h.rep i (by simpa using h1) (by simpa using h2)).1
  rw [e]
  exact (h.perm.map _).mem_iff
theorem ZOk.count {M : List Nat} {w : World} {z : Zt} (h : ZOk M w z) : z.es.length = z.ty.rels.length := by rw [h.len]; exact h.perm.length_eq

def saidV (set : Bool) (num : Int) : Array Value := #[.bool set, .int .i64 0, .string ⟨#[]⟩, .string ⟨#[]⟩, .slice none 0 0, .int .i64 0, .int .i64 num]

set_option maxHeartbeats 2000000 in
theorem relLine_none (Rd S : Nat) (rbT : Option Nat) (zs : List Zt) (ps : List (List UInt8)) (b o c num : Nat) (set : Bool) (w : World) (h : PRep w Rd S rbT zs []) :
    Calls Tryz.prog 32 #[.pointer (some ⟨Rd, 0, none⟩), .slice (some ⟨b, o, none⟩) ps.length c, .agg (saidV set num)] w fun e w' => LAns Rd S rbT zs w (2, []) e w' := by
  have hal : Below w.heap.size w (w.alloc (.cells (saidV set num) 90)) := (Below.refl _ _).alloc (Nat.le_refl _) _
  have h1 : (w.alloc (.cells (saidV set num) 90)).cell? ⟨Rd, 1, none⟩ = some (.pointer none) := by
    rw [hal.cell (p := ⟨Rd, 1, none⟩) (h.lt Rd mem_Rd)]
    rcases h.rd1 with ⟨_, e⟩ | ⟨z, _, e, _⟩
    · exact e
    · simp at e
  unfold saidV at *
  generalize ps.length = n at *
  go_enter Tryz.func32, Tryz.ntmps32
  go_wp2
  go_ret
  exact LAns.same h hal

set_option maxHeartbeats 2000000 in
theorem relLine_empty (Rd S : Nat) (rbT : Option Nat) (zs : List Zt) (st : List Ty) (q : Addr) (b o c num : Nat) (set : Bool) (w : World) (h : PRep w Rd S rbT zs st) (hq : w.cell? ⟨Rd, 1, none⟩ = some (.pointer (some q))) :
    Calls Tryz.prog 32 #[.pointer (some ⟨Rd, 0, none⟩), .slice (some ⟨b, o, none⟩) 0 c, .agg (saidV set num)] w fun e w' => LAns Rd S rbT zs w (2, st) e w' := by
  have hal : Below w.heap.size w (w.alloc (.cells (saidV set num) 90)) := (Below.refl _ _).alloc (Nat.le_refl _) _
  have h1 : (w.alloc (.cells (saidV set num) 90)).cell? ⟨Rd, 1, none⟩ = some (.pointer (some q)) := by
    rw [hal.cell (p := ⟨Rd, 1, none⟩) (h.lt Rd mem_Rd)]; exact hq
  unfold saidV at *
  go_enter Tryz.func32, Tryz.ntmps32
  go_wp2
  go_ret
  exact LAns.same h hal

set_option maxHeartbeats 2000000 in
theorem relLine_badName (Rd S : Nat) (rbT : Option Nat) (zs : List Zt) (st : List Ty) (q : Addr) (n : List UInt8) (m b o c num : Nat) (set : Bool) (w : World) (h : PRep w Rd S rbT zs st) (hq : w.cell? ⟨Rd, 1, none⟩ = some (.pointer (some q))) (hc : w.cell? ⟨b, o, none⟩ = some (strV n)) (hn : nameL n = false) :
    Calls Tryz.prog 32 #[.pointer (some ⟨Rd, 0, none⟩), .slice (some ⟨b, o, none⟩) (m + 1) c, .agg (saidV set num)] w fun e w' => LAns Rd S rbT zs w (2, st) e w' := by
  have hal : Below w.heap.size w (w.alloc (.cells (saidV set num) 90)) := (Below.refl _ _).alloc (Nat.le_refl _) _
  have h1 : (w.alloc (.cells (saidV set num) 90)).cell? ⟨Rd, 1, none⟩ = some (.pointer (some q)) := by
    rw [hal.cell (p := ⟨Rd, 1, none⟩) (h.lt Rd mem_Rd)]; exact hq
  have h2 : (w.alloc (.cells (saidV set num) 90)).cell? ⟨b, o, none⟩ = some (.string ⟨n.toArray⟩) := by
    rw [hal.cell (p := ⟨b, o, none⟩) (World.block_lt_of_cell? w ⟨b, o, none⟩ hc)]; exact hc
  have hN := fun u => isName_any ⟨n.toArray⟩ u
  have en : (⟨n.toArray⟩ : ByteArray).data.toList = n := rfl
  rw [en, hn] at hN
  clear en
  have hm : (((m : Nat) : Int) + 1 == 0) = false := by rw [beq_eq_false_iff_ne]; omega
  unfold saidV at *
  go_enter Tryz.func32, Tryz.ntmps32
  go_wp2_with (go_at_call 45; refine (hN _).mono ?_; rintro e w' ⟨rfl, rfl⟩)
  go_ret
  exact LAns.same h hal
end Go.Proofs.YtlgodpadcilcaaaGreatDoor
