import Derived.Test.YtfiipfcdddaceaaGreatDoorQ9Rp
namespace Go.Proofs.YtfiipfcdddaceaaGreatDoor
open Go.RowKit

set_option maxRecDepth 100000 in
set_option maxHeartbeats 1000000 in
theorem print1_idle (p0 p1 p2 : Addr) (w : World) :
    CallsD Tryz.prog 59 #[.pointer (some p0), .pointer (some p1), .pointer (some p2)] .returning w fun e u' w' => e = .returned (.tuple #[]) ∧ u' = .returning ∧ w' = w.alloc (.cells #[.int .i64 0, .int .i64 0] 85) := by
  refine callsD_of_wpS Tryz.func59 rfl fun c₀ cs hu => ?_
  apply wpS_seq
  apply wpS_region
  simp [wpOpsS, go_sem, recoverD, hu, Tryz.ntmps59, Exit.thenS, assert_nil, Array.replicate]
  apply wpS_seq
  apply wpS_region
  simp [wpOpsS, go_sem, Exit.thenS]
  refine wpS_cond (t := false) (by simp [Act.eval]) ?_
  simp only [Bool.false_eq_true, if_false]
  refine wpS_of_wp (wp_skip ?_)
  cases c₀
  simp_all [bodyPostS, results, Tryz.results59]

theorem new_cell (W : World) (u : Value) (e : TypeId) (b : Nat) (h : b = W.heap.size) : (W.alloc (.cells #[u] e)).cell? ⟨b, 0, none⟩ = some u := by
  subst h
  simp

theorem below4 (w : World) (o1 o2 o3 o4 : Obj) : Below w.heap.size w ((((w.alloc o1).alloc o2).alloc o3).alloc o4) :=
  (below3 w o1 o2 o3).alloc (by simp; omega) o4

set_option maxRecDepth 100000 in
set_option maxHeartbeats 1000000 in
theorem print_ok (s : ByteArray) (nm n2 : ByteArray) (t : Nat → Tm) (w : World) (h4 : s.size ≤ 4000) (hpl : ∀ j (h : j < s.size), ((s[j].toNat : Int) == 37) = false) (hmk : Mk w)
    (hnm : nm.size ≤ 100) (hn2 : n2.size ≤ 100) (hA : (showA nm t 1).size ≤ 1000) (ht : TmOk (t 0)) (hps : (pstr (t 0)).size ≤ 100) (hw : Lib.TabIs Tryz.prog w "internal/strconv.uint64pow10" .u64 Lib.pow10Tab)
    (hj : ps s 0 < s.size) (hq : mk (s.data.toList.drop (ps s 0)) ≠ 1) (hcl : ClauseAt s (ps s 0) s.size 1 0 nm t (fun cs => 0 = 0 → cs = litCells n2 (.slice none 0 0))) :
    Calls Tryz.prog 19 #[.string s] w fun e w' => e = .returned (.tuple #[.string (clauseS nm n2 t), .int .i64 0, .int .i64 0]) ∧ Below w.heap.size w w' := by
  have hmf : ∀ (fn : Fn) (first cap : Array Value) (w : World), (Instr.makeFunc fn first cap).run Tryz.prog w = .ok (.func fn first cap) w := fun _ _ _ _ => rfl
  have HR := hide (fun pb qv w hm hp0 hbd hw => read_print s pb nm n2 t qv w h4 hpl hm hp0 hbd hnm hn2 hA ht hps hw hj hq hcl)
  have HM := hide hmk
  have HT := hide hw
  clear hpl hmk hcl hq hw ht
  go_enter_defers Tryz.func19, Tryz.ntmps19
  go_wp2_with fail
  refine (HR.out (w.heap.size + 1 + 1 + 1) _ _ ?h1 ?h2 ?h3 ?h4).mono ?_
  case h1 => exact HM.out.below (below4 _ _ _ _ _)
  case h2 => omega
  case h3 =>
    have := Bd.new (w := ((w.alloc (.cells #[.string ⟨#[]⟩] 9)).alloc (.cells #[.int .i64 0] 26)).alloc (.cells #[.int .i64 0] 3))
    simpa using this
  case h4 => exact tab_below HT.out (below4 _ _ _ _ _)
  rintro x w1 ⟨rfl, hk, v1, hb1⟩
  have hz := hk.size
  simp at hz
  have hbw : Below w.heap.size w w1 := (below4 w _ _ _ _).trans (hk.below.mono (by omega))
  have HBW := hide hbw
  have k0 := fun o => hk.cell (b := w.heap.size) (o := o) (by omega) (by simp; omega)
  have k1 := fun o => hk.cell (b := w.heap.size + 1) (o := o) (by omega) (by simp)
  have k2 := fun o => hk.cell (b := w.heap.size + 1 + 1) (o := o) (by omega) (by simp)
  have f0 := fun o => hk.frozen (b := w.heap.size) (o := o) (by omega) (by simp; omega)
  have f1 := fun o => hk.frozen (b := w.heap.size + 1) (o := o) (by omega) (by simp)
  have f2 := fun o => hk.frozen (b := w.heap.size + 1 + 1) (o := o) (by omega) (by simp)
  have HB1 := hide hb1
  clear hk hbw hb1
  go_wp2_with fail
  refine (Tryz.Builder_String_any (w.heap.size + 1 + 1 + 1) (w.heap.size + 1 + 1 + 1) _ _ HB1.out.is (by omega)).mono ?_
  rintro x w2 ⟨rfl, hb2⟩
  have m0 := fun o => hb2.cell (p := ⟨w.heap.size, o, none⟩) (by show w.heap.size < _; omega)
  have m1 := fun o => hb2.cell (p := ⟨w.heap.size + 1, o, none⟩) (by show w.heap.size + 1 < _; omega)
  have m2 := fun o => hb2.cell (p := ⟨w.heap.size + 1 + 1, o, none⟩) (by show w.heap.size + 1 + 1 < _; omega)
  have n0 := fun o => hb2.frozen (p := ⟨w.heap.size, o, none⟩) (by show w.heap.size < _; omega)
  have n1 := fun o => hb2.frozen (p := ⟨w.heap.size + 1, o, none⟩) (by show w.heap.size + 1 < _; omega)
  have n2' := fun o => hb2.frozen (p := ⟨w.heap.size + 1 + 1, o, none⟩) (by show w.heap.size + 1 + 1 < _; omega)
  have hz2 := hb2.size
  have HB2 := hide (HBW.out.trans (hb2.mono (by omega)))
  clear hb2
  go_wp2_with fail
  refine leaves_cons (f := 59) (args := #[.pointer (some ⟨w.heap.size, 0, none⟩), .pointer (some ⟨w.heap.size + 1, 0, none⟩), .pointer (some ⟨w.heap.size + 1 + 1, 0, none⟩)]) (by simp) (by simp [go_sem]) ?_
  refine (print1_idle _ _ _ _).mono ?_
  rintro e u' w3 ⟨rfl, rfl, hw3⟩
  have x0 : ∃ u, w2.cell? ⟨w.heap.size, 0, none⟩ = some u := ⟨.string ⟨#[]⟩, (m0 0).trans ((k0 0).trans (by rw [cell_alloc_old _ _ _ _ (by simp; omega), cells3]; simp))⟩
  have x1 : ∃ u, w2.cell? ⟨w.heap.size + 1, 0, none⟩ = some u := ⟨.int .i64 0, (m1 0).trans ((k1 0).trans (by rw [cell_alloc_old _ _ _ _ (by simp), cell_alloc_old _ _ _ _ (by simp)]; simp))⟩
  have x2 : ∃ u, w2.cell? ⟨w.heap.size + 1 + 1, 0, none⟩ = some u := ⟨.int .i64 0, (m2 0).trans ((k2 0).trans (by rw [cell_alloc_old _ _ _ _ (by simp)]; exact new_cell _ _ _ _ (by simp)))⟩
  obtain ⟨u0, x0⟩ := x0
  obtain ⟨u1, x1⟩ := x1
  obtain ⟨u2, x2⟩ := x2
  have g0 : w3.cell? ⟨w.heap.size, 0, none⟩ = some (.string (clauseS nm n2 t)) := by
    rw [hw3, cell_alloc_old _ _ _ _ (by simp; omega), cell_other _ _ _ _ _ (by show w.heap.size + 1 + 1 ≠ w.heap.size; omega), cell_other _ _ _ _ _ (by show w.heap.size + 1 ≠ w.heap.size; omega)]
    exact World.cell?_setCell_same _ _ _ x0
  have g1 : w3.cell? ⟨w.heap.size + 1, 0, none⟩ = some (.int .i64 0) := by
    rw [hw3, cell_alloc_old _ _ _ _ (by simp; omega), cell_other _ _ _ _ _ (by show w.heap.size + 1 + 1 ≠ w.heap.size + 1; omega)]
    exact World.cell?_setCell_same _ _ _ ((cell_other _ _ _ _ _ (by show w.heap.size ≠ w.heap.size + 1; omega)).trans x1)
  have g2 : w3.cell? ⟨w.heap.size + 1 + 1, 0, none⟩ = some (.int .i64 0) := by
    rw [hw3, cell_alloc_old _ _ _ _ (by simp; omega)]
    exact World.cell?_setCell_same _ _ _ ((cell_other _ _ _ _ _ (by show w.heap.size + 1 ≠ w.heap.size + 1 + 1; omega)).trans ((cell_other _ _ _ _ _ (by show w.heap.size ≠ w.heap.size + 1 + 1; omega)).trans x2))
  have g5 : Below w.heap.size w w3 := by
    rw [hw3]
    exact (((HB2.out.setCell (Nat.le_refl _) _).setCell (by show w.heap.size ≤ w.heap.size + 1; omega) _).setCell (by show w.heap.size ≤ w.heap.size + 1 + 1; omega) _).alloc (by simp; omega) _
  clear hw3
  simp [Leaves, settle, results, Tryz.results19, go_sem, g0, g1, g2]
  exact g5
end Go.Proofs.YtfiipfcdddaceaaGreatDoor
