import Derived.Test.YtfiipfcdddaceaaGreatDoorJe
import Derived.Test.YtfiipfcdddaceaaGreatDoorJk
namespace Go.Proofs.YtfiipfcdddaceaaGreatDoor
open Go.RowKit Go.Sort Go.Shelf

set_option maxRecDepth 100000 in
set_option maxHeartbeats 4000000 in
/-- A list of the program's is the document's. -/
theorem same_any (B : Nat) (pa : Option Addr) (ca : Nat) (vb : Value) (la : List Atm) (l : List Rx) (w : World) (ha : Atoms B w (.slice pa l.length ca) la) (hb : RL w vb l) (hll : la.length = l.length) (heq : ∀ i (h1 : i < la.length) (h2 : i < l.length), cmpX la[i] l[i].x = 0) :
    Calls Tryz.prog 29 #[.slice pa l.length ca, vb] w fun e w' => e = .returned (.bool true) ∧ Below w.heap.size w w' := by
  obtain ⟨pb, cb, rfl⟩ := hb.shape
  have hl := hb.1
  have HEQ := hide heq
  have HA := hide ha
  have HB := hide hb
  have HLL := hide hll
  clear ha hb heq hll
  go_enter Tryz.func29, Tryz.ntmps29
  go_wp2_with fail
  go_loopw [5] (fun iv wr => ∃ k : Nat, iv = .int .i64 k ∧ k ≤ l.length ∧ Hid (Below w.heap.size w wr)) (fun iv _ => l.length - (intOf iv).toNat)
  case atStart => exact ⟨0, rfl, by omega, Below.refl _ _⟩
  case round =>
    obtain ⟨k, rfl, hk, HW⟩ := hrel
    have hzr := HW.out.size
    by_cases hlt : k < l.length
    · obtain ⟨g, off, hp, hg, x0, x1, x2⟩ := HB.out.at k hlt
      subst hp
      obtain ⟨ga, hpa, hga, hca⟩ := HA.out.got (by rw [HLL.out]; omega)
      subst hpa
      obtain ⟨ta, tac, a0, a1, hita⟩ := hca k (by rw [HLL.out]; exact hlt)
      obtain ⟨q1, q2, q3⟩ := cmpX_eq (HEQ.out k (by rw [HLL.out]; exact hlt) hlt)
      rw [q1] at a0
      rw [q2] at a1 hita q3
      have HQ3 := hide q3
      clear q1 q2 q3
      have hok := HB.out.2.1 _ (List.getElem_mem hlt)
      have HG := hide (fun wx (hbx : Below w.heap.size w wx) => given_own l[k].x.na (.slice l[k].tp l[k].x.n l[k].tc) l[k].x.n l[k].at_ l[k].x.t wx ((hok.some.is hok.n).below hbx))
      have z0 := (HW.out.cell (p := ⟨g, off + k * 3, none⟩) hg).trans x0
      have z1 := (HW.out.cell (p := ⟨g, off + k * 3 + 1, none⟩) hg).trans x1
      have z2 := (HW.out.cell (p := ⟨g, off + k * 3 + 2, none⟩) hg).trans x2
      have A0 := hide a0
      have A1 := hide a1
      have HIA := hide hita
      clear x0 x1 x2 a0 a1 hita hca
      have hkz : (k : Int) < (l.length : Int) := by omega
      have hgr : g < wr.heap.size := by omega
      have hnn : l[k].x.n ≤ 1099511627776 := hok.n
      clear hok
      generalize l[k].x.na = nb at *
      generalize l[k].x.n = m at *
      generalize l[k].x.t = tb at *
      generalize (la[k]'(by rw [HLL.out]; exact hlt)).t = taa at *
      generalize l[k].tp = tpb at *
      generalize l[k].tc = tcb at *
      generalize l[k].at_ = bp at *
      go_wp2_with fail
      refine (HG.out _ HW.out).mono ?_
      rintro e w3 ⟨py, cy, rfl, hity, hbly, hb3⟩
      have hz3 := hb3.size
      have HW3 : Hid (Below w.heap.size w (w3.alloc (.cells #[.string nb, .slice py m cy] 47))) := (HW.out.trans (hb3.mono hzr)).alloc (by omega) _
      have HIY := hide (hity.below ((Below.refl _ _).alloc (Nat.le_refl _) (.cells #[.string nb, .slice py m cy] 47)))
      have y0 : (w3.alloc (.cells #[.string nb, .slice py m cy] 47)).cell? ⟨w3.heap.size, 0, none⟩ = some (.string nb) := by simp
      have y1 : (w3.alloc (.cells #[.string nb, .slice py m cy] 47)).cell? ⟨w3.heap.size, 1, none⟩ = some (.slice py m cy) := by simp
      have hzw4 : w3.heap.size < (w3.alloc (.cells #[.string nb, .slice py m cy] 47)).heap.size := by simp
      have c0 := (HW3.out.cell (p := ⟨ga, k * 2, none⟩) hga).trans A0.out
      have c1 := (HW3.out.cell (p := ⟨ga, k * 2 + 1, none⟩) hga).trans A1.out
      have hgaw : ga < (w3.alloc (.cells #[.string nb, .slice py m cy] 47)).heap.size := by simp; omega
      have hgw3 : ga < w3.heap.size := by omega
      clear hity hbly hb3 HG
      go_wp2_with fail
      generalize w3.alloc (.cells #[.string nb, .slice py m cy] 47) = w4 at *
      generalize w3.heap.size = yb at *
      go_big_quiet (fail)
      go_wp2_with fail
      obtain ⟨w5, hw5⟩ : ∃ w5, w5 = w4.drewN nq := ⟨_, rfl⟩
      rw [← hw5]
      have HW5 : Hid (Below w.heap.size w w5) := by rw [hw5]; exact below_drewN HW3.out nq
      have HIY5 : Hid (IsTerms w5 (.slice py m cy) m tb) := by rw [hw5]; exact HIY.out
      have y51 : w5.cell? ⟨yb, 1, none⟩ = some (.slice py m cy) := by rw [hw5]; exact y1
      have c51 : w5.cell? ⟨ga, k * 2 + 1, none⟩ = some (.slice ta m tac) := by rw [hw5]; exact c1
      have hya : yb < w5.heap.size := by rw [hw5]; exact hzw4
      have hgaw5 : ga < w5.heap.size := by rw [hw5]; exact hgaw
      clear hw5 y0 y1 c0 c1 HIY HW3 hzw4 hgaw hgw3 z0 z1 z2 hgr
      go_loopw [7] (fun jv wq => ∃ j : Nat, jv = .int .i64 j ∧ j ≤ m ∧ Hid (Below w5.heap.size w5 wq)) (fun jv _ => m - (intOf jv).toNat)
      case atStart => exact ⟨0, rfl, by omega, Below.refl _ _⟩
      case round =>
        obtain ⟨j, rfl, hj, HB6⟩ := hrel
        have hz6 := HB6.out.size
        have HW6 : Hid (Below w.heap.size w wr) := HW5.out.trans (HB6.out.mono HW5.out.size)
        have e51 := (HB6.out.cell (p := ⟨yb, 1, none⟩) hya).trans y51
        have f51 := (HB6.out.cell (p := ⟨ga, k * 2 + 1, none⟩) hgaw5).trans c51
        have hyr : yb < wr.heap.size := by omega
        have hgr : ga < wr.heap.size := by omega
        by_cases hlt2 : j < m
        · obtain ⟨_, ⟨_, _, _, h0⟩ | ⟨g6, c6, hv6, hg6, hc6, ht6⟩⟩ := HIY5.out
          · omega
          · cases hv6
            obtain ⟨_, ⟨_, _, _, h0⟩ | ⟨g7, c7, hv7, hg7, hc7, ht7⟩⟩ := HIA.out
            · omega
            · cases hv7
              obtain ⟨s0, s1, s2⟩ := ht6 j hlt2
              obtain ⟨t0, t1, t2⟩ := ht7 j hlt2
              rw [Nat.mul_comm] at s0 s1 s2 t0 t1 t2
              have hg6r : g6 < wr.heap.size := by omega
              have hg7r : g7 < wr.heap.size := by have := HW6.out.size; omega
              have u0' := (HB6.out.cell (p := ⟨g6, j * 3, none⟩) hg6).trans s0
              have u1' := (HB6.out.cell (p := ⟨g6, j * 3 + 1, none⟩) hg6).trans s1
              have u2' := (HB6.out.cell (p := ⟨g6, j * 3 + 2, none⟩) hg6).trans s2
              have v0 := (HW6.out.cell (p := ⟨g7, j * 3, none⟩) hg7).trans t0
              have v1 := (HW6.out.cell (p := ⟨g7, j * 3 + 1, none⟩) hg7).trans t1
              have v2 := (HW6.out.cell (p := ⟨g7, j * 3 + 2, none⟩) hg7).trans t2
              obtain ⟨q1, q2, q3⟩ := cmpT_eq (HQ3.out j hlt2)
              clear s0 s1 s2 t0 t1 t2 ht6 ht7
              have hjz : (j : Int) < (m : Int) := by omega
              have HBA : Hid (∀ o o', Below w5.heap.size w5 ((wr.alloc o).alloc o')) := fun o o' => (HB6.out.alloc (by omega) o).alloc (by simp; omega) o'
              have hg6a : ∀ o, g6 < (wr.alloc o).heap.size := fun o => by simp; omega
              generalize (taa j).kind = ka at *
              generalize (taa j).num = na1 at *
              generalize (taa j).text = xa at *
              generalize (tb j).kind = kb at *
              generalize (tb j).num = nb1 at *
              generalize (tb j).text = xb at *
              subst q1
              have w0 : ∀ o, (wr.alloc o).cell? ⟨g6, j * 3, none⟩ = some (.int .i64 ka) := fun o => (cell_alloc_old _ _ _ _ hg6r).trans u0'
              have w1' : ∀ o, (wr.alloc o).cell? ⟨g6, j * 3 + 1, none⟩ = some (.int .i64 nb1) := fun o => (cell_alloc_old _ _ _ _ hg6r).trans u1'
              have w2' : ∀ o, (wr.alloc o).cell? ⟨g6, j * 3 + 2, none⟩ = some (.string xb) := fun o => (cell_alloc_old _ _ _ _ hg6r).trans u2'
              have w3' : ∀ o, (wr.alloc o).cell? ⟨yb, 1, none⟩ = some (.slice (some ⟨g6, 0, none⟩) m cy) := fun o => (cell_alloc_old _ _ _ _ hyr).trans e51
              cases e1 : (ka == 1)
              · have hk : ¬ ka = 1 := by simpa using e1
                obtain rfl := q3 hk
                clear q2 q3
                go_wp2_with fail
                exact ⟨⟨j + 1, by go_num, by omega, HBA.out _ _⟩, by simp [intOf]; omega⟩
              · have hk : ka = 1 := by simpa using e1
                obtain rfl := q2 hk
                clear q2 q3 e1
                subst hk
                go_wp2_with fail
                exact ⟨⟨j + 1, by go_num, by omega, HBA.out _ _⟩, by simp [intOf]; omega⟩
        · obtain rfl : j = m := by omega
          go_wp2_with fail
          exact ⟨⟨k + 1, by go_num, by omega, HW6⟩, by simp [intOf]; omega⟩
    · go_wp2_with fail
      exact bodyPost_ret (v := .bool true) (by simp [results, go_sem]) rfl ⟨rfl, HW.out⟩
end Go.Proofs.YtfiipfcdddaceaaGreatDoor

namespace Go.Proofs.YtfiipfcdddaceaaGreatDoor
open Go.RowKit Go.Sort Go.Shelf

set_option maxRecDepth 100000 in
set_option maxHeartbeats 4000000 in
theorem rhas_any (v : Value) (l : List Rx) (a : Rx) (w : World) (h : RL w v l) (ha : a.Ok w) :
    Calls Tryz.prog 46 #[v, a.val] w fun e w' => e = .returned (.bool (memB (l.map Rx.x) a.x)) ∧ Below w.heap.size w w' := by
  obtain ⟨p, c, rfl⟩ := h.shape
  have hl := h.1
  have HL := hide h
  have HA := hide ha
  clear h ha
  obtain ⟨⟨na, n, t⟩, tp, tc, ap, q⟩ := a
  simp only [Rx.val]
  have HT : Hid ((∃ r ∈ l, cmpX r.x ⟨na, n, t⟩ = 0) → memB (l.map Rx.x) ⟨na, n, t⟩ = true) := fun h => memB_true.2 (mem_map.2 h)
  have HF : Hid ((∀ r ∈ l, cmpX r.x ⟨na, n, t⟩ ≠ 0) → memB (l.map Rx.x) ⟨na, n, t⟩ = false) := fun h => memB_false.2 (fun h1 => by obtain ⟨r, hr, h0⟩ := mem_map.1 h1; exact h r hr h0)
  go_enter Tryz.func46, Tryz.ntmps46
  go_wp2_with fail
  have HB0 : Hid (Below w.heap.size w (w.alloc (.cells #[.string na, .slice tp n tc, .int .i64 ap] 44))) := (Below.refl _ _).alloc (Nat.le_refl _) _
  have HZ0 : Hid ((w.alloc (.cells #[.string na, .slice tp n tc, .int .i64 ap] 44)).heap.size = w.heap.size + 1) := by show _ = _; simp
  have b0 : (w.alloc (.cells #[.string na, .slice tp n tc, .int .i64 ap] 44)).cell? ⟨w.heap.size, 0, none⟩ = some (.string na) := by simp
  have b1 : (w.alloc (.cells #[.string na, .slice tp n tc, .int .i64 ap] 44)).cell? ⟨w.heap.size, 1, none⟩ = some (.slice tp n tc) := by simp
  have b2 : (w.alloc (.cells #[.string na, .slice tp n tc, .int .i64 ap] 44)).cell? ⟨w.heap.size, 2, none⟩ = some (.int .i64 ap) := by simp
  generalize w.alloc (.cells #[.string na, .slice tp n tc, .int .i64 ap] 44) = w1 at *
  go_loopw [5] (fun iv wr => ∃ k : Nat, iv = .int .i64 k ∧ k ≤ l.length ∧ Hid (∀ i (h : i < l.length), i < k → cmpX l[i].x ⟨na, n, t⟩ ≠ 0) ∧ Hid (Below w1.heap.size w1 wr)) (fun iv _ => l.length - (intOf iv).toNat)
  case atStart => exact ⟨0, rfl, by omega, fun i hi h => by omega, Below.refl _ _⟩
  case round =>
    obtain ⟨k, rfl, hk, HN, HB⟩ := hrel
    have hzr := HB.out.size
    have hz1 : w.heap.size < w1.heap.size := by have := HZ0.out; omega
    have HWR : Hid (Below w.heap.size w wr) := HB0.out.trans (HB.out.mono (by omega))
    have y0 := (HB.out.cell (p := ⟨w.heap.size, 0, none⟩) hz1).trans b0
    have y1 := (HB.out.cell (p := ⟨w.heap.size, 1, none⟩) hz1).trans b1
    have y2 := (HB.out.cell (p := ⟨w.heap.size, 2, none⟩) hz1).trans b2
    by_cases hlt : k < l.length
    · obtain ⟨g, off, hp, hg, x0, x1, x2⟩ := HL.out.at k hlt
      subst hp
      have z0 := (HWR.out.cell (p := ⟨g, off + k * 3, none⟩) hg).trans x0
      have z1 := (HWR.out.cell (p := ⟨g, off + k * 3 + 1, none⟩) hg).trans x1
      have z2 := (HWR.out.cell (p := ⟨g, off + k * 3 + 2, none⟩) hg).trans x2
      have hkz : (k : Int) < (l.length : Int) := by omega
      have hok := HL.out.2.1 _ (List.getElem_mem hlt)
      have HC := hide (fun wx (hb : Below w.heap.size w wx) => rorder_any l[k].x.na na l[k].tp tp l[k].x.n n l[k].tc tc l[k].at_ ap l[k].x.t t l[k].q q wx hok.n hok.na hok.tx (hok.some.below hb) (HA.out.some.below hb))
      have HT2 : Hid (cmpX l[k].x ⟨na, n, t⟩ = 0 → memB (l.map Rx.x) ⟨na, n, t⟩ = true) := fun h => HT.out ⟨l[k], List.getElem_mem hlt, h⟩
      have HN2 : Hid (cmpX l[k].x ⟨na, n, t⟩ ≠ 0 → ∀ i (h : i < l.length), i < k + 1 → cmpX l[i].x ⟨na, n, t⟩ ≠ 0) := fun h i hi hik => by
        by_cases e : i < k
        · exact HN.out i hi e
        · obtain rfl : i = k := by omega
          exact h
      have HRE : Hid (cmpX l[k].x ⟨na, n, t⟩ = cmpA l[k].x.na na l[k].x.n n l[k].x.t t) := rfl
      rw [HRE.out] at HT2 HN2
      generalize cmpA l[k].x.na na l[k].x.n n l[k].x.t t = r at *
      clear hok x0 x1 x2 HRE
      generalize l[k].x.na = nb at *
      generalize l[k].x.n = m at *
      generalize l[k].tp = tpb at *
      generalize l[k].tc = tcb at *
      generalize l[k].at_ = bp at *
      have hgr : g < wr.heap.size := by have := HWR.out.size; omega
      go_wp2_with fail
      refine wp_region_held_drew (S := (fun w' => w'.cell? ⟨w.heap.size, 0, none⟩ = some (.string na) ∧ w'.cell? ⟨w.heap.size, 1, none⟩ = some (.slice tp n tc) ∧ w'.cell? ⟨w.heap.size, 2, none⟩ = some (.int .i64 ap) ∧ w'.cell? ⟨g, off + k * 3, none⟩ = some (.string nb) ∧ w'.cell? ⟨g, off + k * 3 + 1, none⟩ = some (.slice tpb m tcb) ∧ w'.cell? ⟨g, off + k * 3 + 2, none⟩ = some (.int .i64 bp))) (by kernel_rfl) ⟨y0, y1, y2, z0, z1, z2⟩ (fun hHeld => ?_)
      refine wpAnyH_take (i := 0) (v := ?_) rfl (by kernel_rfl) (by kernel_rfl) (by kernel_rfl) (fun _ _ _ h => h) (Or.inl ⟨by rfl, ?_⟩) hHeld ?_
      rotate_left
      · intro w hSw
        obtain ⟨s0, s1, s2, s3, s4, s5⟩ := hSw
        go_simp
        try with_reducible rfl
      try simp only [Act.put, List.setIfInBounds_toArray]
      refine wpAnyH_take (i := 1) (v := ?_) rfl (by kernel_rfl) (by kernel_rfl) (by kernel_rfl) (fun _ _ _ h => h) (Or.inl ⟨by rfl, ?_⟩) hHeld ?_
      rotate_left
      · intro w hSw
        obtain ⟨s0, s1, s2, s3, s4, s5⟩ := hSw
        go_simp
        try with_reducible rfl
      try simp only [Act.put]
      refine wpAnyH_take (i := 2) (v := ?_) rfl (by kernel_rfl) (by kernel_rfl) (by kernel_rfl) (fun _ _ _ h => h) (Or.inl ⟨by rfl, ?_⟩) hHeld ?_
      rotate_left
      · intro w hSw
        obtain ⟨s0, s1, s2, s3, s4, s5⟩ := hSw
        go_simp
        try with_reducible rfl
      try simp only [Act.put]
      refine wpAnyH_take (i := 3) (v := ?_) rfl (by kernel_rfl) (by kernel_rfl) (by kernel_rfl) (fun _ _ _ h => h) (Or.inl ⟨by rfl, ?_⟩) hHeld ?_
      rotate_left
      · intro w hSw
        obtain ⟨s0, s1, s2, s3, s4, s5⟩ := hSw
        go_simp
        try with_reducible rfl
      try simp only [Act.put]
      refine wpAnyH_take (i := 4) (v := ?_) rfl (by kernel_rfl) (by kernel_rfl) (by kernel_rfl) (fun _ _ _ h => h) (Or.inl ⟨by rfl, ?_⟩) hHeld ?_
      rotate_left
      · intro w hSw
        obtain ⟨s0, s1, s2, s3, s4, s5⟩ := hSw
        go_simp
        try with_reducible rfl
      try simp only [Act.put]
      refine wpAnyH_ready (rs := [5]) (by kernel_rfl) (by simp) ?_
      refine AllReadyH.cons rfl (fun K hK => ?_) ?_
      · go_simp
        refine (HC.out _ (HWR.out.drew)).mono ?_
        rintro e w3 ⟨rfl, hb3⟩
        have hb3' : Below wr.heap.size wr w3 := (Below.refl _ _).drew.trans hb3
        have HB3 : Hid (Below w1.heap.size w1 w3) := HB.out.trans (hb3'.mono hzr)
        have HW3 : Hid (Below w.heap.size w w3) := HWR.out.trans (hb3'.mono HWR.out.size)
        have hzx : w.heap.size < wr.heap.size := by omega
        refine hK.out _ _ ⟨(hb3'.cell (p := ⟨w.heap.size, _, none⟩) hzx).trans y0, (hb3'.cell (p := ⟨w.heap.size, _, none⟩) hzx).trans y1, (hb3'.cell (p := ⟨w.heap.size, _, none⟩) hzx).trans y2, (hb3'.cell (p := ⟨g, _, none⟩) hgr).trans z0, (hb3'.cell (p := ⟨g, _, none⟩) hgr).trans z1, (hb3'.cell (p := ⟨g, _, none⟩) hgr).trans z2⟩ (fun hHeld => ?_)
        clear hK K hb3 hb3' HC
        try simp only [Act.put]
        refine wpAnyH_take (i := 6) (v := ?_) rfl (by kernel_rfl) (by kernel_rfl) (by kernel_rfl) (fun _ _ _ h => h) (Or.inl ⟨by rfl, ?_⟩) hHeld ?_
        rotate_left
        · intro w hSw
          obtain ⟨s0, s1, s2, s3, s4, s5⟩ := hSw
          go_simp
          try with_reducible rfl
        try simp only [Act.put]
        refine wpAnyH_done (by kernel_rfl) ?_ _
        by_cases hr : r = 0
        · subst hr
          go_wp2_with fail
          rw [HT2.out (by trivial)]
          exact bodyPost_ret (v := .bool true) (by simp [results, go_sem]) rfl ⟨rfl, HW3.out⟩
        · have hrb : (r == 0) = false := by simpa using hr
          go_wp2_with fail
          exact ⟨⟨k + 1, by go_num, by omega, HN2.out hr, HB3⟩, by simp [intOf]; omega⟩
      exact AllReadyH.nil
    · go_wp2_with fail
      rw [HF.out (fun r hr => by obtain ⟨i, hi, rfl⟩ := List.getElem_of_mem hr; exact HN.out i hi (by omega))]
      exact bodyPost_ret (v := .bool false) (by simp [results, go_sem]) rfl ⟨rfl, HWR.out⟩

set_option maxRecDepth 100000 in
set_option maxHeartbeats 4000000 in
theorem rless_any (va vb : Value) (la lb : List Rx) (w : World) (ha : RL w va la) (hb : RL w vb lb) (hlen : la.length < 1073741824) :
    Calls Tryz.prog 45 #[va, vb] w fun e w' => ∃ v' out, e = .returned v' ∧ RL w' v' out ∧ Below w.heap.size w w' ∧ Laid cmpR (la.filter fun r => !memB (lb.map Rx.x) r.x) out := by
  obtain ⟨pa, ca, rfl⟩ := ha.shape
  obtain ⟨pb, cb, rfl⟩ := hb.shape
  have HA := hide ha
  have HB := hide hb
  clear ha hb
  go_enter Tryz.func45, Tryz.ntmps45
  go_wp2_with fail
  go_loopw [5, 6] (fun ov iv wr => ∃ (k : Nat) (out : List Rx) (oa : Option Addr) (oc : Nat), ov = .slice oa out.length oc ∧ iv = .int .i64 k ∧ k ≤ la.length ∧ Hid (RL wr ov out) ∧ Hid (Laid cmpR ((la.take k).filter fun r => !memB (lb.map Rx.x) r.x) out) ∧ Hid (Below w.heap.size w wr)) (fun _ iv _ => la.length - (intOf iv).toNat)
  case atStart => exact ⟨0, [], none, 0, rfl, rfl, by omega, RL.nil _, by show Laid _ _ _; simpa using Laid.zero, Below.refl _ _⟩
  case round =>
    obtain ⟨k, out, oa, oc, rfl, rfl, hk, HO, HL, HW⟩ := hrel
    have hzr := HW.out.size
    by_cases hlt : k < la.length
    · obtain ⟨g, off, hp, hg, x0, x1, x2⟩ := HA.out.at k hlt
      subst hp
      have z0 := (HW.out.cell (p := ⟨g, off + k * 3, none⟩) hg).trans x0
      have z1 := (HW.out.cell (p := ⟨g, off + k * 3 + 1, none⟩) hg).trans x1
      have z2 := (HW.out.cell (p := ⟨g, off + k * 3 + 2, none⟩) hg).trans x2
      have X0 := hide x0
      have X1 := hide x1
      have X2 := hide x2
      have hkz : (k : Int) < (la.length : Int) := by omega
      have hgr : g < wr.heap.size := by omega
      have hol := HL.out.len
      have hfl : ((la.take k).filter fun r => !memB (lb.map Rx.x) r.x).length ≤ k := Nat.le_trans (List.length_filter_le _ _) (by rw [List.length_take]; omega)
      have hok := HA.out.2.1 _ (List.getElem_mem hlt)
      have HH := hide (rhas_any _ lb la[k] wr (HB.out.below HW.out) (hok.below HW.out))
      have HC := hide (fun wx (hb : Below wr.heap.size wr wx) => with_any _ out la[k] wx (HO.out.below hb) (hok.below (HW.out.trans (hb.mono hzr))) (by omega))
      simp only [Rx.val] at HC HH
      have HN1 : Hid (memB (lb.map Rx.x) la[k].x = true → Laid cmpR ((la.take (k + 1)).filter fun r => !memB (lb.map Rx.x) r.x) out) := fun h => by
        rw [List.take_succ_eq_append_getElem hlt, List.filter_append]
        simpa [h] using HL.out
      have HN2 : Hid (memB (lb.map Rx.x) la[k].x = false → Laid cmpR ((la.take (k + 1)).filter fun r => !memB (lb.map Rx.x) r.x) (withL cmpR out la[k])) := fun h => by
        rw [List.take_succ_eq_append_getElem hlt, List.filter_append]
        have h1 := HL.out.snoc cmpR_cmp la[k]
        simpa [h] using h1
      clear x0 x1 x2 hol hok
      generalize withL cmpR out la[k] = out2 at *
      generalize memB (lb.map Rx.x) la[k].x = mb at *
      generalize la[k].x.na = nb at *
      generalize la[k].x.n = m at *
      generalize la[k].tp = tpb at *
      generalize la[k].tc = tcb at *
      generalize la[k].at_ = bp at *
      go_wp2_with fail
      refine HH.out.mono ?_
      rintro e w3 ⟨rfl, hb3⟩
      have HW3 : Hid (Below w.heap.size w w3) := HW.out.trans (hb3.mono hzr)
      have HO3 := hide (HO.out.below hb3)
      have HC3 := hide (HC.out w3 hb3)
      have hgr3 : g < w3.heap.size := by have := hb3.size; omega
      have p0 := (HW3.out.cell (p := ⟨g, off + k * 3, none⟩) hg).trans X0.out
      have p1 := (HW3.out.cell (p := ⟨g, off + k * 3 + 1, none⟩) hg).trans X1.out
      have p2 := (HW3.out.cell (p := ⟨g, off + k * 3 + 2, none⟩) hg).trans X2.out
      clear hb3 z0 z1 z2 HC HH
      cases mb
      · go_wp2_with fail
        refine HC3.out.mono ?_
        rintro e w4 ⟨v4, rfl, hrl4, hb4⟩
        obtain ⟨p4, c4, rfl⟩ := hrl4.shape
        have HR4 := hide hrl4
        have HW4 : Hid (Below w.heap.size w w4) := HW3.out.trans (hb4.mono HW3.out.size)
        clear hrl4 hb4
        go_wp2_with fail
        exact ⟨⟨k + 1, out2, p4, c4, rfl, by go_num, by omega, HR4, HN2.out (by trivial), HW4⟩, by simp [intOf]; omega⟩
      · go_wp2_with fail
        exact ⟨⟨k + 1, out, oa, oc, rfl, by go_num, by omega, HO3, HN1.out (by trivial), HW3⟩, by simp [intOf]; omega⟩
    · obtain rfl : k = la.length := by omega
      have HL2 : Hid (Laid cmpR (la.filter fun r => !memB (lb.map Rx.x) r.x) out) := by have h := HL.out; rw [List.take_length] at h; exact h
      go_wp2_with fail
      exact bodyPost_ret (v := .slice oa out.length oc) (by simp [results, go_sem]) rfl ⟨_, out, rfl, HO.out, HW.out, HL2.out⟩
end Go.Proofs.YtfiipfcdddaceaaGreatDoor

namespace Go.Proofs.YtfiipfcdddaceaaGreatDoor
open Go.RowKit Go.Sort Go.Shelf

/-- A list is the document's, element by element. -/
def Alike2 (la : List Atm) (l : List Rx) : Prop := la.length = l.length ∧ ∀ i (h1 : i < la.length) (h2 : i < l.length), cmpX la[i] l[i].x = 0
theorem alike_of {a : List Atm} {o : List Rx} (h : a.length = (o.map Rx.x).length ∧ ∀ i (h1 : i < a.length) (h2 : i < (o.map Rx.x).length), cmpX a[i] (o.map Rx.x)[i] = 0) : Alike2 a o := by
  refine ⟨by simpa using h.1, fun i h1 h2 => ?_⟩
  have := h.2 i h1 (by simpa using h2)
  simpa using this
theorem union_alike {la lb o : List Rx} {lu : List Atm} (hu : Ord (la.map Rx.x ++ lb.map Rx.x) lu) (ho : Laid cmpR (la ++ lb) o) : Alike2 lu o := by
  have h := ho.ord
  rw [List.map_append] at h
  exact alike_of (hu.same h)
theorem less_alike {la lb o : List Rx} {ll : List Atm} (hs : Str cmpX ll) (hm : ∀ z, Mem cmpX ll z ↔ Mem cmpX (la.map Rx.x) z ∧ ¬ Mem cmpX (lb.map Rx.x) z) (ho : Laid cmpR (la.filter fun r => !memB (lb.map Rx.x) r.x) o) : Alike2 ll o := by
  refine alike_of (str_same cmpX_cmp ll (o.map Rx.x) hs ho.ord.str fun z => ?_)
  rw [hm, ho.ord.mem]
  constructor
  · rintro ⟨h1, hn⟩
    obtain ⟨r, hr, h0⟩ := mem_map.1 h1
    refine mem_map.2 ⟨r, List.mem_filter.2 ⟨hr, ?_⟩, h0⟩
    have : memB (lb.map Rx.x) r.x = false := memB_false.2 fun ⟨y, hy, h1⟩ => hn ⟨y, hy, by rw [← cmpX_cmp.right0 y h0]; exact h1⟩
    simp [this]
  · intro h1
    obtain ⟨r, hr, h0⟩ := mem_map.1 h1
    obtain ⟨hr1, hr2⟩ := List.mem_filter.1 hr
    refine ⟨mem_map.2 ⟨r, hr1, h0⟩, fun ⟨y, hy, h1⟩ => ?_⟩
    have h2 : memB (lb.map Rx.x) r.x = true := memB_true.2 ⟨y, hy, by rw [cmpX_cmp.right0 y h0]; exact h1⟩
    simp [h2] at hr2

set_option maxRecDepth 100000 in
set_option maxHeartbeats 8000000 in
theorem rowsSets_true (pa pb : Option Addr) (ca cb : Nat) (la lb : List Rx) (x : Rx) (w : World) (ha : RL w (.slice pa la.length ca) la) (hb : RL w (.slice pb lb.length cb) lb) (hx : x.Ok w) (hsum : la.length + lb.length < 1073741824)
    (hal : ∀ w', Below w.heap.size w w' → Calls Tryz.prog 33 #[] w' fun e w'' => e = .returned (.bool true) ∧ Below w'.heap.size w' w'') :
    Calls Tryz.prog 11 #[.slice pa la.length ca, .slice pb lb.length cb, x.val] w fun e w' => e = .returned (.bool true) ∧ Below w.heap.size w w' := by
  have hbx : Below w.heap.size w (w.alloc (.cells #[.string x.x.na, .slice x.tp x.x.n x.tc, .int .i64 x.at_] 44)) := (Below.refl _ _).alloc (Nat.le_refl _) _
  have hmla : (la.map Rx.x).length = la.length := by simp
  have hmlb : (lb.map Rx.x).length = lb.length := by simp
  have HRA := hide ha
  have HRB := hide hb
  have HX := hide hx
  have HAL := hide hal
  have HBX := hide hbx
  have HA := hide (all_any _ (la.map Rx.x) _ (ha.ra.below hbx))
  have HGX := hide (fun wx (hbb : Below w.heap.size w wx) => given_own x.x.na (.slice x.tp x.x.n x.tc) x.x.n x.at_ x.x.t wx ((hx.some.is hx.n).below hbb))
  have HRH := hide (fun wx (hbb : Below w.heap.size w wx) => rhas_any _ la x wx (ha.below hbb) (hx.below hbb))
  clear ha hb hx hal hbx
  simp only [Rx.val] at *
  generalize hmm : memB (la.map Rx.x) x.x = mm at HRH
  have HMM := hide hmm
  clear hmm
  go_enter Tryz.func11, Tryz.ntmps11
  go_wp2_with fail
  refine HA.out.mono ?_
  rintro e w1 ⟨vp, rfl, hatp, hb1⟩
  have HX1 : Hid (Below (w.heap.size + 1) (w.alloc (.cells #[.string x.x.na, .slice x.tp x.x.n x.tc, .int .i64 x.at_] 44)) w1) := by
    have h := hb1
    simp only [World.size_alloc] at h
    exact h
  have HB1 : Hid (Below w.heap.size w w1) := HBX.out.trans (hb1.mono (by simp))
  have HP := hide (hatp.mono (Nat.zero_le _))
  have HB := hide (all_any _ (lb.map Rx.x) w1 (HRB.out.below HB1.out).ra)
  clear hatp hb1 HA
  go_wp2_with fail
  refine HB.out.mono ?_
  rintro e w2 ⟨vq, rfl, hatq, hb2⟩
  have hz1 := HX1.out.size
  simp only [World.size_alloc] at hz1
  have HB2 : Hid (Below w.heap.size w w2) := HB1.out.trans (hb2.mono (by omega))
  have HX2 : Hid (Below (w.heap.size + 1) (w.alloc (.cells #[.string x.x.na, .slice x.tp x.x.n x.tc, .int .i64 x.at_] 44)) w2) := HX1.out.trans (hb2.mono (by omega))
  have HP2 := hide (HP.out.below hb2)
  have HQ2 := hide (hatq.mono (Nat.zero_le _))
  have hz2 := hb2.size
  clear hatq hb2 HB HP HB1 HX1
  have c0 : w2.cell? ⟨w.heap.size, 0, none⟩ = some (.string x.x.na) := (HX2.out.cell (p := ⟨w.heap.size, 0, none⟩) (show w.heap.size < w.heap.size + 1 by omega)).trans (by simp)
  have c1 : w2.cell? ⟨w.heap.size, 1, none⟩ = some (.slice x.tp x.x.n x.tc) := (HX2.out.cell (p := ⟨w.heap.size, 1, none⟩) (show w.heap.size < w.heap.size + 1 by omega)).trans (by simp)
  have c2 : w2.cell? ⟨w.heap.size, 2, none⟩ = some (.int .i64 x.at_) := (HX2.out.cell (p := ⟨w.heap.size, 2, none⟩) (show w.heap.size < w.heap.size + 1 by omega)).trans (by simp)
  have hzx : w.heap.size < w2.heap.size := by omega
  have HC0 := hide c0
  have HC1 := hide c1
  have HC2 := hide c2
  clear c0 c1 c2 HX2 hz1 hz2 HBX
  have HU := hide (union_soft _ _ vp vq _ _ w2 HP2.out HQ2.out (by rw [hmla, hmlb]; omega))
  go_wp2_with fail
  refine HU.out.mono ?_
  rintro e w3 ⟨vu, lu, rfl, hsu, hb3, hordu, _⟩
  have HC3 := hide hb3
  have HSU := hide hsu
  have HOU := hide hordu
  have hz3 := hb3.size
  clear hsu hb3 hordu HU
  have HL := hide (less_soft _ _ vp vq _ _ w3 (HP2.out.below HC3.out) (HQ2.out.below HC3.out))
  go_wp2_with fail
  refine HL.out.mono ?_
  rintro e w4 ⟨vl, ll, rfl, hsl, hb4, hstrl, hmeml, _⟩
  have HD4 := hide hb4
  have HC4 : Hid (Below w2.heap.size w2 w4) := HC3.out.trans (hb4.mono hz3)
  have HSL := hide hsl
  have HSTL := hide hstrl
  have HML := hide hmeml
  have hz4 := hb4.size
  clear hsl hb4 hstrl hmeml HL
  have HB4 : Hid (Below w.heap.size w w4) := HB2.out.trans (HC4.out.mono (by omega))
  have c0 := (HC4.out.cell (p := ⟨w.heap.size, 0, none⟩) hzx).trans HC0.out
  have c1 := (HC4.out.cell (p := ⟨w.heap.size, 1, none⟩) hzx).trans HC1.out
  have c2 := (HC4.out.cell (p := ⟨w.heap.size, 2, none⟩) hzx).trans HC2.out
  have hzx4 : w.heap.size < w4.heap.size := by omega
  go_wp2_with fail
  refine (HGX.out w4 HB4.out).mono ?_
  rintro e w5 ⟨py, cy, rfl, hity, _, hb5⟩
  have HC5 : Hid (Below w2.heap.size w2 w5) := HC4.out.trans (hb5.mono (by omega))
  have HD5 : Hid (Below w4.heap.size w4 w5) := hb5
  have HHP := hide (has_any x.x (.slice py x.x.n cy) 0 vp _ w5 (HP2.out.below HC5.out) hity)
  rw [HMM.out] at HHP
  clear hity hb5 c0 c1 c2
  go_wp2_with fail
  refine HHP.out.mono ?_
  rintro e w6 ⟨rfl, hb6⟩
  have hz5 := HD5.out.size
  have HD6 : Hid (Below w4.heap.size w4 w6) := HD5.out.trans (hb6.mono hz5)
  clear hb6 HHP HC5 HD5
  have hz6 := HD6.out.size
  have HB6 : Hid (Below w.heap.size w w6) := HB4.out.trans (HD6.out.mono (by omega))
  have HRU := hide (runion_any _ _ la lb w6 (HRA.out.below HB6.out) (HRB.out.below HB6.out) hsum)
  go_wp2_with fail
  refine HRU.out.mono ?_
  rintro e w7 ⟨vr, o1, rfl, hr1, hb7, hl1⟩
  obtain ⟨pu, cu, hvu⟩ := HSU.out.atoms.shape
  have HAK := union_alike HOU.out hl1
  rw [HAK.1] at hvu
  subst hvu
  have hz7 := hb7.size
  have HD7 : Hid (Below w4.heap.size w4 w7) := HD6.out.trans (hb7.mono hz6)
  have HE7 : Hid (Below w3.heap.size w3 w7) := HD4.out.trans (HD7.out.mono hz4)
  have HSM := hide (same_any _ pu cu vr lu o1 w7 (HSU.out.atoms.below HE7.out) hr1 HAK.1 HAK.2)
  clear hr1 hb7 hl1 HRU HAK HD6
  go_wp2_with fail
  refine HSM.out.mono ?_
  rintro e w8 ⟨rfl, hb8⟩
  have HD8 : Hid (Below w4.heap.size w4 w8) := HD7.out.trans (hb8.mono (by omega))
  have hz8 := hb8.size
  have HB8 : Hid (Below w.heap.size w w8) := HB4.out.trans (HD8.out.mono (by omega))
  clear hb8 HSM HD7 HE7
  have HRL := hide (rless_any _ _ la lb w8 (HRA.out.below HB8.out) (HRB.out.below HB8.out) (by omega))
  go_wp2_with fail
  refine HRL.out.mono ?_
  rintro e w9 ⟨vs, o2, rfl, hr2, hb9, hl2⟩
  obtain ⟨pl, cl, hvl⟩ := HSL.out.atoms.shape
  have HAK := less_alike HSTL.out HML.out hl2
  rw [HAK.1] at hvl
  subst hvl
  have hz9 := hb9.size
  have HD9 : Hid (Below w4.heap.size w4 w9) := HD8.out.trans (hb9.mono (by omega))
  have HSM := hide (same_any _ pl cl vs ll o2 w9 (HSL.out.atoms.below HD9.out) hr2 HAK.1 HAK.2)
  clear hr2 hb9 hl2 HRL HAK HD8
  go_wp2_with fail
  refine HSM.out.mono ?_
  rintro e w10 ⟨rfl, hb10⟩
  have hz10 := hb10.size
  have HD10 : Hid (Below w4.heap.size w4 w10) := HD9.out.trans (hb10.mono (by omega))
  have HE10 : Hid (Below w3.heap.size w3 w10) := HD4.out.trans (HD10.out.mono hz4)
  have HC10 : Hid (Below w2.heap.size w2 w10) := HC4.out.trans (HD10.out.mono (by omega))
  clear hb10 HSM HD9
  have HS1 := hide (spoil_any _ _ lu w3 w10 HSU.out HE10.out)
  go_wp2_with fail
  refine HS1.out.mono ?_
  rintro e w11 ⟨rfl, hb11, hh11⟩
  have hz11 := hb11.size
  have HC11 : Hid (Below w2.heap.size w2 w11) := HC10.out.trans hb11
  have HSL11 := hide ((HSL.out.below HD10.out).high hh11 hz11)
  clear hb11 hh11 HS1
  have HS2 := hide (spoil_any _ _ ll w11 w11 HSL11.out (Below.refl _ _))
  go_wp2_with fail
  refine HS2.out.mono ?_
  rintro e w12 ⟨rfl, hb12, _⟩
  have hz12 := hb12.size
  have HC12 : Hid (Below w2.heap.size w2 w12) := HC11.out.trans (hb12.mono hz3)
  clear hb12 HS2
  obtain ⟨pp, cp, hvp⟩ := HP2.out.shape
  rw [hmla] at hvp
  subst hvp
  obtain ⟨pq, cq, hvq⟩ := HQ2.out.shape
  rw [hmlb] at hvq
  subst hvq
  have HB12 : Hid (Below w.heap.size w w12) := HB2.out.trans (HC12.out.mono (by omega))
  have HK1 := hide (kept_any _ pp cp _ la w12 (HP2.out.below HC12.out) (HRA.out.below HB12.out))
  go_wp2_with fail
  refine HK1.out.mono ?_
  rintro e w13 ⟨rfl, hb13⟩
  have hz13 := hb13.size
  have HC13 : Hid (Below w2.heap.size w2 w13) := HC12.out.trans (hb13.mono (by have := HC12.out.size; omega))
  have HB13 : Hid (Below w.heap.size w w13) := HB2.out.trans (HC13.out.mono (by omega))
  clear hb13 HK1
  have HK2 := hide (kept_any _ pq cq _ lb w13 (HQ2.out.below HC13.out) (HRB.out.below HB13.out))
  go_wp2_with fail
  refine HK2.out.mono ?_
  rintro e w14 ⟨rfl, hb14⟩
  have hz14 := hb14.size
  have HC14 : Hid (Below w2.heap.size w2 w14) := HC13.out.trans (hb14.mono (by have := HC13.out.size; omega))
  have HB14 : Hid (Below w.heap.size w w14) := HB2.out.trans (HC14.out.mono (by omega))
  clear hb14 HK2
  have c0 := (HC14.out.cell (p := ⟨w.heap.size, 0, none⟩) hzx).trans HC0.out
  have c1 := (HC14.out.cell (p := ⟨w.heap.size, 1, none⟩) hzx).trans HC1.out
  have c2 := (HC14.out.cell (p := ⟨w.heap.size, 2, none⟩) hzx).trans HC2.out
  have hzx14 : w.heap.size < w14.heap.size := by have := HC14.out.size; omega
  have HAL14 := hide (fun wx (hbb : Below w14.heap.size w14 wx) => HAL.out wx (HB14.out.trans (hbb.mono HB14.out.size)))
  go_wp2_with fail
  refine (HRH.out w14 HB14.out).mono ?_
  rintro e w15 ⟨rfl, hb15⟩
  have HF := hide (HAL14.out w15 hb15)
  have HB15 : Hid (Below w.heap.size w w15) := HB14.out.trans (hb15.mono HB14.out.size)
  clear hb15
  go_wp2_with fail
  refine HF.out.mono ?_
  rintro e w16 ⟨rfl, hb16⟩
  go_wp2_with fail
  exact bodyPost_ret (v := .bool true) (by simp [results, go_sem]) rfl ⟨rfl, HB15.out.trans (hb16.mono HB15.out.size)⟩
end Go.Proofs.YtfiipfcdddaceaaGreatDoor
