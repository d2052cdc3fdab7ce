import Derived.Test.YtfiipfcdddaceaaGreatDoorQ9Re
namespace Go.Proofs.YtfiipfcdddaceaaGreatDoor
open Go.RowKit

theorem assert_nil (w : World) : (Instr.typeAssert Value.nilIface 20 85 true).run Tryz.prog w = .ok (.tuple #[.agg #[.int .i64 0, .int .i64 0], .bool false]) w := by kernel_rfl

set_option maxRecDepth 100000 in
set_option maxHeartbeats 1000000 in
theorem parse1_idle (p0 p1 p2 : Addr) (w : World) :
    CallsD Tryz.prog 47 #[.pointer (some p0), .pointer (some p1), .pointer (some p2)] .returning w fun e u' w' => e = .returned (.tuple #[]) ∧ u' = .returning ∧ w' = w.alloc (.cells #[.int .i64 0, .int .i64 0] 85) := by
  refine callsD_of_wpS Tryz.func47 rfl fun c₀ cs hu => ?_
  apply wpS_seq
  apply wpS_region
  simp [wpOpsS, go_sem, recoverD, hu, Tryz.ntmps47, Exit.thenS, assert_nil, Array.replicate]
  apply wpS_seq
  apply wpS_region
  simp [wpOpsS, go_sem, Exit.thenS]
  refine wpS_cond (t := false) (by simp [Act.eval]) ?_
  simp only [Bool.false_eq_true, if_false]
  refine wpS_of_wp (wp_skip ?_)
  cases c₀
  simp_all [bodyPostS, results, Tryz.results47]

theorem cell_alloc_old (w : World) (o : Obj) (b k : Nat) (h : b < w.heap.size) : (w.alloc o).cell? ⟨b, k, none⟩ = w.cell? ⟨b, k, none⟩ :=
  World.cell?_of_block (w := w) (Below.heap_alloc w o b h)

theorem cells3 (w : World) (o1 o2 o3 : Obj) (k : Nat) : (((w.alloc o1).alloc o2).alloc o3).cell? ⟨w.heap.size, k, none⟩ = (w.alloc o1).cell? ⟨w.heap.size, k, none⟩ := by
  rw [cell_alloc_old _ _ _ _ (by simp; omega), cell_alloc_old _ _ _ _ (by simp)]

theorem below3 (w : World) (o1 o2 o3 : Obj) : Below w.heap.size w (((w.alloc o1).alloc o2).alloc o3) :=
  (((Below.refl _ _).alloc (Nat.le_refl _) o1).alloc (by simp) o2).alloc (by simp; omega) o3

set_option maxRecDepth 100000 in
set_option maxHeartbeats 1000000 in
theorem parse_ok (s : ByteArray) (n m : Nat) (nm : ByteArray) (t : Nat → Tm) (P : List Value → Prop) (w : World) (h4 : s.size ≤ 4000) (hpl : ∀ j (h : j < s.size), ((s[j].toNat : Int) == 37) = false) (hmk : Mk w)
    (hj : ps s 0 < s.size) (hq : mk (s.data.toList.drop (ps s 0)) ≠ 1) (hcl : ClauseAt s (ps s 0) s.size n m nm t P) :
    Calls Tryz.prog 14 #[.string s] w fun e w' => ∃ g cap ab cb, e = .returned (.tuple #[.agg #[.slice (some ⟨g, 0, none⟩) 1 cap, .slice none 0 0], .int .i64 0, .int .i64 0]) ∧ w'.cell? ⟨g, 2, none⟩ = some (.slice ab (m + 1) cb) ∧ Below w.heap.size w w' := by
  have hmf : ∀ (fn : Fn) (first cap : Array Value) (w : World), (Instr.makeFunc fn first cap).run Tryz.prog w = .ok (.func fn first cap) w := fun _ _ _ _ => rfl
  have HR := hide (fun pb qv w hm hlt hp0 hc hf => read_parse s pb n m nm t P qv w h4 hpl hm hlt hp0 hc hf hj hq hcl)
  have HM := hide hmk
  clear hpl hmk hcl hq
  go_enter_defers Tryz.func14, Tryz.ntmps14
  go_wp2_with fail
  refine (HR.out w.heap.size _ _ ?h1 ?h2 HM.out.1 ?h3 ?h4).mono ?_
  case h1 => exact HM.out.below (below3 _ _ _ _)
  case h2 => simp; omega
  case h3 => rw [cells3]; simp
  case h4 => simp [go_sem]
  rintro x w1 ⟨rfl, hk, ⟨hs1, hs2⟩, g, cap, ab, cb, hg, hc0, hc2⟩
  have hz := hk.size
  simp at hz
  have k1 := fun o => hk.cell (b := w.heap.size + 1) (o := o) (by omega) (by simp)
  have k2 := fun o => hk.cell (b := w.heap.size + 1 + 1) (o := o) (by omega) (by simp)
  have k3 := fun o => hk.frozen (b := w.heap.size + 1) (o := o) (by omega) (by simp)
  have k4 := fun o => hk.frozen (b := w.heap.size + 1 + 1) (o := o) (by omega) (by simp)
  have hs3 := hs1 1 (by omega)
  have HK := hide hk
  clear hk hs1
  go_wp2_with fail
  refine leaves_cons (f := 47) (args := #[.pointer (some ⟨w.heap.size, 0, none⟩), .pointer (some ⟨w.heap.size + 1, 0, none⟩), .pointer (some ⟨w.heap.size + 1 + 1, 0, none⟩)]) (by simp) (by simp [go_sem]) ?_
  refine (parse1_idle _ _ _ _).mono ?_
  rintro e u' w2 ⟨rfl, rfl, hw2⟩
  have f0 : w2.cell? ⟨w.heap.size, 0, none⟩ = some (.slice (some ⟨g, 0, none⟩) 1 cap) := by
    rw [hw2, cell_alloc_old _ _ _ _ (by simp; omega)]; simp [go_sem, hc0]
  have f1 : w2.cell? ⟨w.heap.size, 1, none⟩ = some (.slice none 0 0) := by
    rw [hw2, cell_alloc_old _ _ _ _ (by simp; omega), cell_other _ _ _ _ _ (by show w.heap.size + 1 + 1 ≠ w.heap.size; omega), cell_other _ _ _ _ _ (by show w.heap.size + 1 ≠ w.heap.size; omega)]
    refine World.cell?_setCell_same _ _ _ (u := .slice none 0 0) ?_
    rw [World.cell?_setCell_other _ _ _ _ (by simp), hs3, cells3]
    simp
  have f2 : w2.cell? ⟨w.heap.size + 1, 0, none⟩ = some (.int .i64 0) := by
    rw [hw2, cell_alloc_old _ _ _ _ (by simp; omega)]; simp [go_sem, k1]
  have f3 : w2.cell? ⟨w.heap.size + 1 + 1, 0, none⟩ = some (.int .i64 0) := by
    rw [hw2, cell_alloc_old _ _ _ _ (by simp; omega)]; simp [go_sem, k2]
  have hgl : g < w1.heap.size := by
    rcases Nat.lt_or_ge g w1.heap.size with h' | h'
    · exact h'
    · simp [World.cell?, Array.getElem?_eq_none h'] at hc2
  simp at hg
  have f4 : w2.cell? ⟨g, 2, none⟩ = some (.slice ab (m + 1) cb) := by
    rw [hw2, cell_alloc_old _ _ _ _ (by simp; omega), cell_other _ _ _ _ _ (by show w.heap.size + 1 + 1 ≠ g; omega), cell_other _ _ _ _ _ (by show w.heap.size + 1 ≠ g; omega), cell_other _ _ _ _ _ (by show w.heap.size ≠ g; omega), cell_other _ _ _ _ _ (by show w.heap.size ≠ g; omega)]
    exact hc2
  have f5 : Below w.heap.size w w2 := by
    rw [hw2]
    exact (((((((below3 w _ _ _).trans HK.out.below).setCell (Nat.le_refl _) _).setCell (Nat.le_refl _) _).setCell (by show w.heap.size ≤ w.heap.size + 1; omega) _).setCell (by show w.heap.size ≤ w.heap.size + 1 + 1; omega) _)).alloc (by simp; omega) _
  clear hw2
  simp [Leaves, settle, results, Tryz.results14, go_sem, f0, f1, f2, f3]
  exact ⟨⟨_, _, f4⟩, f5⟩
end Go.Proofs.YtfiipfcdddaceaaGreatDoor
