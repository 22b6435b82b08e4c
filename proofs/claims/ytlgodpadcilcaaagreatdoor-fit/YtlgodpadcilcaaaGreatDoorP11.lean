import Derived.Test.YtlgodpadcilcaaaGreatDoorP10
namespace Go.Proofs.YtlgodpadcilcaaaGreatDoor
open Go.ChangeShapes Go.WideShapes Go.ChangeAt Go.RowKit

set_option maxRecDepth 100000 in
set_option maxHeartbeats 16000000 in
theorem hangs_self (P a b i : Nat) (ag : Bool) (N : List NV) (rs : List RR) (w : World) (h : PlanAt w P N rs) (ha : a < rs.length) (hb : b < rs.length) (hx : N[i]? = some ⟨115, [], [], none, 0, 0⟩) :
    Calls Tryz.prog 22 #[.pointer (some ⟨P, 0, none⟩), .int .i64 (a : Int), .int .i64 (i : Int), .int .i64 (b : Int), .bool ag] w fun e w' => e = .returned (.int .i64 ((hgL (leadsR rs[a] rs[b]) [(.self, ag)] : Nat) : Int)) ∧ Below w.heap.size w w' := by
  obtain ⟨G2, cap2, b1, hi, d0, d1, d2, d3⟩ := h.node hx
  obtain ⟨G1, cap1, a1, a2, a3⟩ := h.c1
  simp only at d0 d1 d2 d3
  have cb0 : w.cell? ⟨G1, b * 5, none⟩ = some (.int .i64 (rs[b].ty : Int)) := by
    have := RowRR.cell a3 b hb 0 (by decide); rw [Nat.add_zero] at this; rw [this]; rfl
  have ca0 : w.cell? ⟨G1, a * 5, none⟩ = some (.int .i64 (rs[a].ty : Int)) := by
    have := RowRR.cell a3 a ha 0 (by decide); rw [Nat.add_zero] at this; rw [this]; rfl
  have cb1 : w.cell? ⟨G1, b * 5 + 1, none⟩ = some (.string ⟨rs[b].nm.toArray⟩) := by rw [RowRR.cell a3 b hb 1 (by decide)]; rfl
  have cb2 : w.cell? ⟨G1, b * 5 + 2, none⟩ = some (.bool rs[b].set) := by rw [RowRR.cell a3 b hb 2 (by decide)]; rfl
  have hR : hgL (leadsR rs[a] rs[b]) [(.self, ag)] = if rs[b].set then (if ag then 2 else 1) else 0 := by cases h1 : rs[b].set <;> cases ag <;> simp [hgL, hg1, leadsR, h1]
  rw [hR]
  clear hR
  obtain ⟨W, hW⟩ : ∃ W, w.alloc (.cells #[.int .u8 115, .string ⟨#[]⟩, .string ⟨#[]⟩, .slice none 0 0] 124) = W := ⟨_, rfl⟩
  have hbl : Below w.heap.size w W := by rw [← hW]; exact (Below.refl _ _).alloc (Nat.le_refl _) _
  have e0 : W.cell? ⟨w.heap.size, 0, none⟩ = some (.int .u8 115) := by rw [← hW]; exact World.cell?_alloc_new ..
  have e1 : W.cell? ⟨w.heap.size, 1, none⟩ = some (.string ⟨#[]⟩) := by rw [← hW]; exact World.cell?_alloc_new ..
  have e2 : W.cell? ⟨w.heap.size, 2, none⟩ = some (.string ⟨#[]⟩) := by rw [← hW]; exact World.cell?_alloc_new ..
  have e3 : W.cell? ⟨w.heap.size, 3, none⟩ = some (.slice none 0 0) := by rw [← hW]; exact World.cell?_alloc_new ..
  have a1' : W.cell? ⟨P, 1, none⟩ = some (.slice (some ⟨G1, 0, none⟩) rs.length cap1) := by rw [hbl.cell (p := ⟨P, 1, none⟩) h.lt]; exact a1
  have ca0' : W.cell? ⟨G1, a * 5, none⟩ = some (.int .i64 (rs[a].ty : Int)) := by rw [hbl.cell (p := ⟨G1, a * 5, none⟩) a2]; exact ca0
  have cb0' : W.cell? ⟨G1, b * 5, none⟩ = some (.int .i64 (rs[b].ty : Int)) := by rw [hbl.cell (p := ⟨G1, b * 5, none⟩) a2]; exact cb0
  have cb1' : W.cell? ⟨G1, b * 5 + 1, none⟩ = some (.string ⟨rs[b].nm.toArray⟩) := by rw [hbl.cell (p := ⟨G1, b * 5 + 1, none⟩) a2]; exact cb1
  have cb2' : W.cell? ⟨G1, b * 5 + 2, none⟩ = some (.bool rs[b].set) := by rw [hbl.cell (p := ⟨G1, b * 5 + 2, none⟩) a2]; exact cb2
  have HB : Hid _ := hbl
  have HW : Hid _ := hW
  clear hW hbl h a3 hx cb0 cb1 cb2 ca0
  generalize (⟨rs[b].nm.toArray⟩ : ByteArray) = Y at *
  generalize rs[b].set = q at *
  generalize rs[b].ty = tyb at *
  generalize rs[a].ty = tya at *
  generalize N.length = nl at *
  generalize rs.length = rl at *
  have hbi : (b : Int) < (rl : Int) := by omega
  have hai : (a : Int) < (rl : Int) := by omega
  have hii : (i : Int) < (nl : Int) := by omega
  go_enter Tryz.func22, Tryz.ntmps22
  go_upto_region 2 with fail
  rw [HW.out]
  simp only [List.append]
  cases q with
  | true =>
    go_quiet (fail)
    cases ag with
    | true =>
      go_wp2
      go_loop [13, 14] (fun m j => m = .int .i64 2 ∧ j = .int .i64 0) (fun _ _ => 0)
      case atStart => exact ⟨rfl, rfl⟩
      case round =>
        obtain ⟨rfl, rfl⟩ := hrel
        go_wp2
        go_ret
        exact ⟨rfl, HB.out.trans (below_drewN _ _ _)⟩
    | false =>
      go_wp2
      go_loop [13, 14] (fun m j => m = .int .i64 1 ∧ j = .int .i64 0) (fun _ _ => 0)
      case atStart => exact ⟨rfl, rfl⟩
      case round =>
        obtain ⟨rfl, rfl⟩ := hrel
        go_wp2
        go_ret
        exact ⟨rfl, HB.out.trans (below_drewN _ _ _)⟩
  | false =>
    go_quiet (fail)
    go_wp2
    go_loop [13, 14] (fun m j => m = .int .i64 0 ∧ j = .int .i64 0) (fun _ _ => 0)
    case atStart => exact ⟨rfl, rfl⟩
    case round =>
      obtain ⟨rfl, rfl⟩ := hrel
      go_wp2
      go_ret
      exact ⟨rfl, HB.out.trans (below_drewN _ _ _)⟩
end Go.Proofs.YtlgodpadcilcaaaGreatDoor
