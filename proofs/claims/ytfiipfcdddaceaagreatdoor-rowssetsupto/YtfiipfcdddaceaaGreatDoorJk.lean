import Derived.Test.YtfiipfcdddaceaaGreatDoorIc
import Derived.Test.YtfiipfcdddaceaaGreatDoorLe
namespace Go.Proofs.YtfiipfcdddaceaaGreatDoor
open Go.RowKit Go.Sort Go.Shelf

/-- The terms of a list that is being made may be written. -/
def Soft (w : World) (ps : List Ea) : Prop := ∀ p ∈ ps, ∀ a, p.tp = some a → ∃ cs e, w.heap[a.block]? = some (.cells cs e (0, 0))
theorem heap_lt {w : World} {k : Nat} {o : Obj} (h : w.heap[k]? = some o) : k < w.heap.size := by
  rcases Nat.lt_or_ge k w.heap.size with h' | h'
  · exact h'
  · simp [Array.getElem?_eq_none h'] at h
theorem Soft.nil (w : World) : Soft w [] := fun p hp => by simp at hp
theorem Soft.below {w w' : World} {ps : List Ea} (h : Soft w ps) (hb : Below w.heap.size w w') : Soft w' ps := fun p hp a ha => by
  obtain ⟨cs, e, h1⟩ := h p hp a ha
  exact ⟨cs, e, (hb.block _ (heap_lt h1)).trans h1⟩
theorem Soft.push {B : Nat} {w w' : World} {ov : Value} {ps : List Ea} {p : Ea} (h : Soft w ps) (ho : Out B w ov ps) (hg : w.grownBy w' ov.ownBlock) (hp : ∀ a, p.tp = some a → (∃ cs e, w.heap[a.block]? = some (.cells cs e (0, 0))) ∧ ov.ownBlock ≠ some a.block) : Soft w' (ps ++ [p]) := fun q hq a ha => by
  have key : ((∃ cs e, w.heap[a.block]? = some (.cells cs e (0, 0))) ∧ ov.ownBlock ≠ some a.block) → ∃ cs e, w'.heap[a.block]? = some (.cells cs e (0, 0)) := fun ⟨⟨cs, e, h1⟩, hn⟩ => ⟨cs, e, (hg.block _ (heap_lt h1) (fun e => hn e.symm)).trans h1⟩
  rcases List.mem_append.1 hq with h1 | h1
  · exact key ⟨h q h1 a ha, ((ho.2 q h1).2 a ha).2.2⟩
  · obtain rfl : q = p := by simpa using h1
    exact key (hp a ha)
theorem soft_own {w : World} {B e sz g n cap : Nat} {xs : List Value} (h : w.ownsRow B e sz (.slice (some ⟨g, 0, none⟩) n cap) n xs) : ∃ cs e, w.heap[g]? = some (.cells cs e (0, 0)) := by
  obtain ⟨_, ⟨hv, _⟩ | ⟨g', cap', cur, hv, _, hc, _⟩⟩ := h
  · cases hv
  · cases hv; exact ⟨_, _, hc⟩

set_option maxRecDepth 100000 in
set_option maxHeartbeats 4000000 in
theorem io_soft (B g c : Nat) (l : List Atm) (w : World) (h0 : 0 < l.length) (hn : l.length ≤ 1073741824) (hg : g < w.heap.size)
    (ht : ∀ i (h : i < l.length), ∃ tp tc, w.cell? ⟨g, i * 2, none⟩ = some (.string l[i].na) ∧ w.cell? ⟨g, i * 2 + 1, none⟩ = some (.slice tp l[i].n tc) ∧ IsTerms w (.slice tp l[i].n tc) l[i].n l[i].t ∧ ∀ a, tp = some a → B ≤ a.block ∧ a.block < w.heap.size) :
    Calls Tryz.prog 78 #[.slice (some ⟨g, 0, none⟩) l.length c] w fun e w' => ∃ v' ps, e = .returned v' ∧ Out w.heap.size w' v' ps ∧ ps.length ≤ l.length ∧ Below w.heap.size w w' ∧ Ord l (ps.map Ea.atm) ∧ Soft w' ps := by
  have hin : Inhabited (El w) := elOf w
  obtain ⟨d, hd, hat, hflat⟩ := els_of ht
  have HC := hide (clone_some g c l.length (flatK (enc2 (twoE w)) 2 d).toList w (by simp [hd]) hflat (fun u hu => by
    obtain ⟨j, hj, rfl⟩ := List.getElem_of_mem hu
    have hj2 : j < d.size * 2 := by simpa using hj
    have e := flat_get d j hj2
    rw [getElem!_pos _ j (by simpa using hj2)] at e
    rw [Array.getElem_toList, e]
    split <;> rfl) (by omega) hg)
  clear ht hflat
  go_enter Tryz.func78, Tryz.ntmps78
  go_wp2_with (go_at_call 119; refine HC.out.mono ?_; rintro e w1 ⟨v1, rfl, hown, hbw⟩)
  obtain ⟨g1, cap, rfl⟩ : ∃ g1 cap, v1 = .slice (some ⟨g1, 0, none⟩) l.length cap := by
    obtain ⟨m, hm⟩ : ∃ m, l.length = m + 1 := ⟨l.length - 1, by omega⟩
    rw [hm] at hown ⊢
    exact own_shape hown
  have hg1 : w.heap.size ≤ g1 := own_lt hown g1 rfl
  have hg2 : g1 < w1.heap.size := by
    obtain ⟨_, ⟨hv, _⟩ | ⟨g', cap', cur, hv, _, hc, _⟩⟩ := hown
    · cases hv
    · cases hv
      rcases Nat.lt_or_ge g1 w1.heap.size with h' | h'
      · exact h'
      · simp [Array.getElem?_eq_none h'] at hc
  have hcap : l.length ≤ cap := by
    obtain ⟨_, ⟨hv, _⟩ | ⟨g', cap', cur, hv, _, hc, hle, _⟩⟩ := hown
    · cases hv
    · cases hv; exact hle
  have HH := holds_own hown
  have hsort := sort_any w w1 hbw g1 cap d hg1 hg2 HH (by omega)
  rw [hd] at hsort
  have HSORT := hide hsort
  have HR : Hid (RowK (enc2 (twoE w)) 2 w1 g1 0 d) := ⟨fun _ => rfl, fun x v hv => by simp [enc2] at hv; rcases hv with rfl | rfl <;> rfl, HH, hg2⟩
  clear hsort HH hown HC
  go_wp2_with (go_at_call 120; refine HSORT.out.mono ?_; rintro e w2 ⟨rfl, d2, ⟨HP, HS⟩, S2⟩)
  have hb2 : Below w.heap.size w w2 := by
    obtain ⟨m, os, rfl⟩ := S2
    exact hbw.trans (below_sorted hg1 hbw.size)
  have hz2 : w.heap.size ≤ w2.heap.size := hb2.size
  have HP0 := hide HP
  have HS0 := hide HS
  have S0 := hide S2
  have hd2 : d2.size = l.length := by rw [HP.1]; exact hd
  have HB2 := hide hb2
  have HRR := hide (fun i (hi : i < l.length) => swk_two S2 HR.out (by omega) i (by omega))
  have hg3 : g1 < w2.heap.size := S2.lt hg2
  clear HP HS S2 hb2 HR HSORT
  go_loopw [4, 13] (fun ov iv wr => ∃ (k : Nat) (ps : List Ea) (oa : Option Addr) (oc : Nat), ov = .slice oa ps.length oc ∧ iv = .int .i64 k ∧ k ≤ l.length ∧ ps.length ≤ k ∧ Out w2.heap.size wr ov ps ∧ Below w2.heap.size w2 wr ∧ Hid (Dd cmpX (fun i => d2[i]!.atm) k (ps.map Ea.atm)) ∧ Hid (Soft wr ps)) (fun _ iv _ => l.length - (intOf iv).toNat)
  case atStart => exact ⟨0, [], none, 0, rfl, rfl, by omega, by simp, Out.nil _ _, Below.refl _ _, Dd.zero _, Soft.nil _⟩
  case round =>
    obtain ⟨k, ps, oa, oc, rfl, rfl, hk, hpk, hout, hbr, HDd, HSF⟩ := hrel
    have HOUT := hide hout
    have HBR := hide hbr
    have hzr := hbr.size
    have hg4 : g1 < wr.heap.size := by omega
    by_cases hlt : k < l.length
    · obtain ⟨x0, x1, xf0, xf1⟩ := HRR.out k hlt
      have y0 := (hbr.cell (p := ⟨g1, k * 2, none⟩) hg3).trans x0
      have y1 := (hbr.cell (p := ⟨g1, k * 2 + 1, none⟩) hg3).trans x1
      clear x0 x1 xf0 xf1 hout hbr
      have hkz : (k : Int) < (l.length : Int) := by omega
      obtain ⟨e, he⟩ : ∃ e : El w, d2[k]! = e := ⟨_, rfl⟩
      rw [he] at y0 y1
      have HE := hide he
      clear he
      obtain ⟨na, tp, n, tc, t, hok⟩ := e
      simp only at y0 y1
      have HOK := hide hok
      have HWR : Hid (Below w.heap.size w wr) := HB2.out.trans (HBR.out.mono hz2)
      go_upto_region 7 with fail
      go_cut [29] (fun tv wx => ∃ q : Bool, tv = .bool q ∧ Hid (q = true ↔ (k = 0 ∨ cmpX d2[k - 1]!.atm d2[k]!.atm ≠ 0)) ∧ Gr (wr.alloc (.cells #[.string na, .slice tp n tc] 47)) wx)
      case first =>
        by_cases hk0 : k = 0
        · subst hk0
          go_big_region
          go_wp2_with fail
          go_meet
          case rel => exact ⟨true, rfl, by show _ ↔ _; simp, (Gr.refl _).drew⟩
        · obtain ⟨kp, rfl⟩ : ∃ kp, k = kp + 1 := ⟨k - 1, by omega⟩
          obtain ⟨x0, x1, _, _⟩ := HRR.out kp (by omega)
          obtain ⟨e2, he2⟩ : ∃ e : El w, d2[kp]! = e := ⟨_, rfl⟩
          rw [he2] at x0 x1
          have HE2 := hide he2
          clear he2
          obtain ⟨na2, tp2, n2, tc2, t2, hok2⟩ := e2
          simp only at x0 x1
          have mixed := mixed_z
          have hz1 : g1 < (wr.alloc (.cells #[.string na, .slice tp n tc] 47)).heap.size := by simp; omega
          have c0 : ∀ q os, (grow ((wr.alloc (.cells #[.string na, .slice tp n tc] 47)).drewN q) os).cell? ⟨g1, kp * 2, none⟩ = some (.string na2) := fun q os => cell_grown hz1 ((cell_alloc_old _ _ _ _ hg4).trans ((HBR.out.cell (p := ⟨g1, kp * 2, none⟩) hg3).trans x0)) q os
          have c1 : ∀ q os, (grow ((wr.alloc (.cells #[.string na, .slice tp n tc] 47)).drewN q) os).cell? ⟨g1, kp * 2 + 1, none⟩ = some (.slice tp2 n2 tc2) := fun q os => cell_grown hz1 ((cell_alloc_old _ _ _ _ hg4).trans ((HBR.out.cell (p := ⟨g1, kp * 2 + 1, none⟩) hg3).trans x1)) q os
          have c2 : ∀ q os, (grow ((wr.alloc (.cells #[.string na, .slice tp n tc] 47)).drewN q) os).cell? ⟨wr.heap.size, 0, none⟩ = some (.string na) := fun q os => cell_grown (by simp) (by simp) q os
          have c3 : ∀ q os, (grow ((wr.alloc (.cells #[.string na, .slice tp n tc] 47)).drewN q) os).cell? ⟨wr.heap.size, 1, none⟩ = some (.slice tp n tc) := fun q os => cell_grown (by simp) (by simp) q os
          have hc : ∀ q os, Calls Tryz.prog 22 #[.agg #[.string na2, .slice tp2 n2 tc2], .agg #[.string na, .slice tp n tc]] (grow ((wr.alloc (.cells #[.string na, .slice tp n tc] 47)).drewN q) os) fun e w' => e = .returned (.int .i64 (cmpA na2 na n2 n t2 t)) ∧ ∃ q' os', w' = grow ((grow ((wr.alloc (.cells #[.string na, .slice tp n tc] 47)).drewN q) os).drewN q') os' := fun q os => by
            have hB : Below w.heap.size w (grow ((wr.alloc (.cells #[.string na, .slice tp n tc] 47)).drewN q) os) := (HWR.out.alloc (by have := HWR.out.size; omega) _).trans ((Gr.below ⟨q, os, rfl⟩).mono (by simp; have := HWR.out.size; omega))
            exact order_gr na2 na _ _ n2 n t2 t _ (hok2.below hB) (HOK.out.below hB)
          have HCM : Hid (cmpX d2[kp + 1 - 1]!.atm d2[kp + 1]!.atm = cmpA na2 na n2 n t2 t) := by
            show _ = _
            rw [Nat.add_sub_cancel, HE2.out, HE.out]
            rfl
          generalize cmpA na2 na n2 n t2 t = r at hc HCM
          have e0 : ((kp : Int) + 1).toNat = kp + 1 := by omega
          have jz1 : (kp : Int) < (l.length : Int) := by omega
          have wj : IntKind.i64.wrap (kp : Int) = (kp : Int) := by rw [IntKind.wrap_i64]; omega
          have kne : ((kp : Int) + 1 == 0) = false := by simp; omega
          clear x0 x1 y0 y1
          go_quiet_grown (first | (go_at_call 22; refine Calls.grown_of (hc _ _)))
          go_wp2_with fail
          go_meet
          case rel => exact ⟨r != 0, rfl, by rw [HCM.out]; show _ ↔ _; simp, ⟨nq, osq, rfl⟩⟩
      case rest =>
        obtain ⟨q, rfl, HQ, hgr⟩ := hcut
        have hzc : wr.heap.size + 1 ≤ wc.heap.size := by have := hgr.below.size; simpa using this
        have HWC : Hid (Below wr.heap.size wr wc) := ((Below.refl _ _).alloc (Nat.le_refl _) _).trans (hgr.below.mono (by simp))
        have b0 : wc.cell? ⟨wr.heap.size, 0, none⟩ = some (.string na) := (hgr.below.cell (p := ⟨wr.heap.size, 0, none⟩) (by simp)).trans (by simp)
        have b1 : wc.cell? ⟨wr.heap.size, 1, none⟩ = some (.slice tp n tc) := (hgr.below.cell (p := ⟨wr.heap.size, 1, none⟩) (by simp)).trans (by simp)
        clear hgr y0 y1
        cases q
        · have hq : ¬ (k = 0 ∨ cmpX d2[k - 1]!.atm d2[k]!.atm ≠ 0) := fun h => by have := HQ.out.2 h; cases this
          have HQ2 := hide hq
          clear hq b0 b1
          go_wp2_with fail
          refine ⟨⟨k + 1, ps, oa, oc, rfl, by go_num, by omega, by omega, HOUT.out.below HWC.out, HBR.out.trans (HWC.out.mono (by omega)), ?_, HSF.out.below HWC.out⟩, by simp [intOf]; omega⟩
          have h := HQ2.out
          obtain ⟨kp, rfl⟩ : ∃ kp, k = kp + 1 := ⟨k - 1, by omega⟩
          refine HDd.out.drop cmpX_cmp ?_
          have h2 : ¬ cmpX d2[kp + 1 - 1]!.atm d2[kp + 1]!.atm ≠ 0 := fun x => h (Or.inr x)
          rw [Nat.add_sub_cancel] at h2
          exact Classical.not_not.1 h2
        · have hdd : Dd cmpX (fun i => d2[i]!.atm) (k + 1) (ps.map Ea.atm ++ [(⟨na, n, t⟩ : Atm)]) := by
            have hk2 := HQ.out.1 rfl
            have e1 : (⟨na, n, t⟩ : Atm) = d2[k]!.atm := by rw [HE.out]; rfl
            rw [e1]
            refine HDd.out.keep cmpX_cmp (fun i j hij hj => ?_) (fun h0 => ?_)
            · have := sortedIn_le (cfE_cmp w).swo HS0.out i j (Nat.zero_le _) hij (by omega)
              have h1 : ¬ cmpX d2[j]!.atm d2[i]!.atm < 0 := of_decide_eq_false this
              have h2 := cmpX_cmp.turn d2[i]!.atm d2[j]!.atm
              show cmpX d2[i]!.atm d2[j]!.atm ≤ 0
              omega
            · rcases hk2 with h | h
              · omega
              · exact h
          have HDD := hide hdd
          clear hdd
          have hwc : IsTerms wc (.slice tp n tc) n t := HOK.out.below (HWR.out.trans (HWC.out.mono (by have := HWR.out.size; omega)))
          have HT := hide hwc
          have HO2 := hide (HOUT.out.below HWC.out)
          have HB3 : Hid (Below w2.heap.size w2 wc) := HBR.out.trans (HWC.out.mono (by omega))
          clear hwc
          have hzw : w2.heap.size ≤ wc.heap.size := HB3.out.size
          have hob : ∀ b, Value.ownBlock (.slice oa ps.length oc) = some b → w2.heap.size ≤ b ∧ b < wr.heap.size := HOUT.out.1.lt
          have HOB := hide hob
          clear hob
          go_upto_region 8 with fail
          by_cases hn0 : n = 0
          · subst hn0
            cases tp
            all_goals
              obtain ⟨i4, hi4, hza4, hzb4, hzc4⟩ := info_parts (P := Tryz.prog) (e := 47) (z := .agg #[.string ⟨#[]⟩, .slice none 0 0]) (size := 2) (bytes := 40) (by kernel_rfl)
              refine wp_region_held_drew (S := (fun w' => w'.cell? ⟨wr.heap.size, 0, none⟩ = some (.string na) ∧ w'.cell? ⟨wr.heap.size, 1, none⟩ = some (.slice _ 0 tc))) (by kernel_rfl) ⟨b0, b1⟩ (fun hHeld => ?_)
              refine wpAnyH_take (i := 0) (v := ?_) rfl (by kernel_rfl) (by kernel_rfl) (by kernel_rfl) (fun _ _ _ h => h) (Or.inl ⟨by rfl, ?_⟩) hHeld ?_
              rotate_left
              · intro w hSw
                obtain ⟨s1, s2⟩ := hSw
                go_simp
                try with_reducible rfl
              try simp only [Act.put, List.setIfInBounds_toArray]
              refine wpAnyH_take (i := 1) (v := ?_) rfl (by kernel_rfl) (by kernel_rfl) (by kernel_rfl) (fun _ _ _ h => h) (Or.inl ⟨by rfl, ?_⟩) hHeld ?_
              rotate_left
              · intro w hSw
                obtain ⟨s1, s2⟩ := hSw
                go_simp
                try with_reducible rfl
              try simp only [Act.put]
              refine wpAnyH_take (i := 2) (v := ?_) rfl (by kernel_rfl) (by kernel_rfl) (by kernel_rfl) (fun _ _ _ h => h) (Or.inl ⟨by rfl, ?_⟩) hHeld ?_
              rotate_left
              · intro w hSw
                obtain ⟨s1, s2⟩ := hSw
                go_simp
                try with_reducible rfl
              try simp only [Act.put]
              refine wpAnyH_take (i := 3) (v := ?_) rfl (by kernel_rfl) (by kernel_rfl) (by kernel_rfl) (fun _ _ _ h => h) (Or.inl ⟨by rfl, ?_⟩) hHeld ?_
              rotate_left
              · intro w hSw
                obtain ⟨s1, s2⟩ := hSw
                go_simp
                try with_reducible rfl
              try simp only [Act.put]
              refine wpAnyH_take (i := 4) (v := ?_) rfl (by kernel_rfl) (by kernel_rfl) (by kernel_rfl) (fun _ _ _ h => h) (Or.inl ⟨by rfl, ?_⟩) hHeld ?_
              rotate_left
              · intro w hSw
                obtain ⟨s1, s2⟩ := hSw
                go_simp
                try with_reducible rfl
              try simp only [Act.put]
              refine wpAnyH_ready (rs := [5]) (by kernel_rfl) (by simp) ?_
              refine AllReadyH.cons rfl (fun K hK => ?_) ?_
              · go_simp
                refine hK.out _ _ hHeld (fun hHeld => ?_)
                clear hK K
                try simp only [Act.put, List.setIfInBounds_toArray, List.set_cons_zero, List.set_cons_succ]
                refine wpAnyH_take (i := 6) (v := ?_) rfl (by kernel_rfl) (by kernel_rfl) (by kernel_rfl) (fun _ _ _ h => h) (Or.inl ⟨by rfl, ?_⟩) hHeld ?_
                rotate_left
                · intro w hSw
                  obtain ⟨s1, s2⟩ := hSw
                  go_simp
                  try with_reducible rfl
                try simp only [Act.put]
                refine wpAnyH_ready (rs := [7]) (by kernel_rfl) (by simp) ?_
                refine AllReadyH.cons rfl (fun K hK => ?_) ?_
                · go_simp
                  refine hK.out _ _ ?_ (fun hHeld => ?_)
                  · exact ⟨(cell_alloc_old _ _ _ _ (by show wr.heap.size < wc.heap.size; omega)).trans hHeld.1, (cell_alloc_old _ _ _ _ (by show wr.heap.size < wc.heap.size; omega)).trans hHeld.2⟩
                  clear hK K
                  try simp only [Act.put, List.setIfInBounds_toArray, List.set_cons_zero, List.set_cons_succ]
                  have hB4 : Below wc.heap.size wc wc.drew := (Below.refl _ _).drew
                  have HO4 := HO2.out.below (hB4.alloc (by simp) (.cells #[.string na, .slice none 0 0] 47))
                  refine wpAnyH_ready (rs := [8]) (by kernel_rfl) (by simp) ?_
                  refine AllReadyH.cons rfl (fun K hK => ?_) ?_
                  · refine step_append_lies _ (by rfl) _ _ _ (by rfl) w2.heap.size 47 i4 _ 2 40 Tryz.underlying63 hi4 hza4 hzb4 hzc4 rfl (by omega) (.slice oa ps.length oc) ps.length (ps.flatMap Ea.cells) (by rfl) HO4.1 ⟨wc.heap.size, 0, none⟩ 1 1 [.string na, .slice none 0 0] (by rfl) (by rfl) (World.news_of_block (cs := #[.string na, .slice none 0 0]) (t := 47) (fr := (0, 0)) (heap_alloc_new wc.drew _)) (by simp [Value.oneCell']) (by omega) (by unfold maxLen; omega) (by omega) (by simp; omega) (wc.heap.size + 1) (by simp) ?_
                    intro g5 cap5 w5 hown5 hgrow5 hat5 hlt5
                    refine hK.out _ _ ?_ (fun hHeld => ?_)
                    · exact ⟨(hgrow5.cell_far ⟨wr.heap.size, 0, none⟩ (by simp; omega) (fun e => by have := (HOB.out _ e.symm).2; simp at this)).trans hHeld.1, (hgrow5.cell_far ⟨wr.heap.size, 1, none⟩ (by simp; omega) (fun e => by have := (HOB.out _ e.symm).2; simp at this)).trans hHeld.2⟩
                    clear hK K
                    try simp only [Act.put, List.setIfInBounds_toArray]
                    refine wpAnyH_take (i := 9) (v := ?_) rfl (by kernel_rfl) (by kernel_rfl) (by kernel_rfl) (fun _ _ _ h => h) (Or.inl ⟨by rfl, ?_⟩) hHeld ?_
                    rotate_left
                    · intro w hSw
                      obtain ⟨s1, s2⟩ := hSw
                      go_simp
                      try with_reducible rfl
                    try simp only [Act.put]
                    refine wpAnyH_done (by kernel_rfl) ?_ _
                    go_wp2_with fail
                    have hpush := HO4.push (p := ⟨na, none, 0, 0, t⟩) hown5 hgrow5 (by simpa using hat5) ⟨Nat.zero_le _, .inl ⟨none, 0, rfl, rfl⟩⟩ (fun a ha => by cases ha)
                    have hsoft := ((HSF.out.below HWC.out).below (hB4.alloc (by simp) (.cells #[.string na, .slice none 0 0] 47))).push (p := ⟨na, none, 0, 0, t⟩) HO4 hgrow5 (fun a ha => by cases ha)
                    refine ⟨⟨k + 1, ps ++ [⟨na, none, 0, 0, t⟩], _, _, by rw [List.length_append]; rfl, by go_num, by omega, by simp; omega, hpush, ?_, ?_, hide hsoft⟩, by simp [intOf]; omega⟩
                    · exact ((HB3.out.trans (hB4.mono hzw)).alloc (by simpa using hzw) _).grown hgrow5 (by simp; omega) (fun b hb => (HOB.out b hb).1)
                    · have h := HDD.out
                      rw [List.map_append]
                      exact h
                  exact AllReadyH.nil
                exact AllReadyH.nil
              exact AllReadyH.nil
          · refine wp_region_held_drew (S := (fun w' => w'.cell? ⟨wr.heap.size, 0, none⟩ = some (.string na) ∧ w'.cell? ⟨wr.heap.size, 1, none⟩ = some (.slice tp n tc))) (by kernel_rfl) ⟨b0, b1⟩ (fun hHeld => ?_)
            refine wpAnyH_take (i := 0) (v := ?_) rfl (by kernel_rfl) (by kernel_rfl) (by kernel_rfl) (fun _ _ _ h => h) (Or.inl ⟨by rfl, ?_⟩) hHeld ?_
            rotate_left
            · intro w hSw
              obtain ⟨s1, s2⟩ := hSw
              go_simp
              try with_reducible rfl
            try simp only [Act.put, List.setIfInBounds_toArray]
            refine wpAnyH_take (i := 1) (v := ?_) rfl (by kernel_rfl) (by kernel_rfl) (by kernel_rfl) (fun _ _ _ h => h) (Or.inl ⟨by rfl, ?_⟩) hHeld ?_
            rotate_left
            · intro w hSw
              obtain ⟨s1, s2⟩ := hSw
              go_simp
              try with_reducible rfl
            try simp only [Act.put]
            refine wpAnyH_take (i := 2) (v := ?_) rfl (by kernel_rfl) (by kernel_rfl) (by kernel_rfl) (fun _ _ _ h => h) (Or.inl ⟨by rfl, ?_⟩) hHeld ?_
            rotate_left
            · intro w hSw
              obtain ⟨s1, s2⟩ := hSw
              go_simp
              try with_reducible rfl
            try simp only [Act.put]
            refine wpAnyH_take (i := 3) (v := ?_) rfl (by kernel_rfl) (by kernel_rfl) (by kernel_rfl) (fun _ _ _ h => h) (Or.inl ⟨by rfl, ?_⟩) hHeld ?_
            rotate_left
            · intro w hSw
              obtain ⟨s1, s2⟩ := hSw
              go_simp
              try with_reducible rfl
            try simp only [Act.put]
            refine wpAnyH_take (i := 4) (v := ?_) rfl (by kernel_rfl) (by kernel_rfl) (by kernel_rfl) (fun _ _ _ h => h) (Or.inl ⟨by rfl, ?_⟩) hHeld ?_
            rotate_left
            · intro w hSw
              obtain ⟨s1, s2⟩ := hSw
              go_simp
              try with_reducible rfl
            try simp only [Act.put]
            obtain ⟨_, ⟨_, _, _, hz⟩ | ⟨gt, tc', hv, hgt, htc, hterms⟩⟩ := HT.out
            · exact absurd hz hn0
            simp only [Value.slice.injEq] at hv
            obtain ⟨hv1, _, hv2⟩ := hv
            subst hv1 hv2
            obtain ⟨i6, hi6, hza6, hzb6, hzc6⟩ := info_parts (P := Tryz.prog) (e := 60) (z := .agg #[.int .i64 0, .int .i64 0, .string ⟨#[]⟩]) (size := 3) (bytes := 32) (by kernel_rfl)
            obtain ⟨i4, hi4, hza4, hzb4, hzc4⟩ := info_parts (P := Tryz.prog) (e := 47) (z := .agg #[.string ⟨#[]⟩, .slice none 0 0]) (size := 2) (bytes := 40) (by kernel_rfl)
            refine wpAnyH_ready (rs := [5]) (by kernel_rfl) (by simp) ?_
            refine AllReadyH.cons rfl (fun K hK => ?_) ?_
            · refine step_append_lies _ (by rfl) _ _ _ (by rfl) w2.heap.size 60 i6 _ 3 32 Tryz.underlying45 hi6 hza6 hzb6 hzc6 rfl (by omega) (.slice none 0 0) 0 [] (by rfl) (World.ownsRow_nil _ _ _ _) ⟨gt, 0, none⟩ n tc (tcells t n) (by rfl) (tcells_len t n) (news_terms hterms) (tcells_one t n) (by omega) (by unfold maxLen; omega) (by omega) (by simpa using hzw) wc.heap.size (by simp) ?_
              intro g4 cap4 w4 hown4 hgrow4 hat4 hlt4
              obtain rfl : g4 = wc.heap.size := by rcases hat4 with h | h; cases h; exact h
              have hz4 : wc.heap.size < w4.heap.size := hlt4
              refine hK.out _ _ ?_ (fun hHeld => ?_)
              · exact ⟨(hgrow4.cell_far ⟨wr.heap.size, 0, none⟩ (by simp; omega) (by simp [Value.ownBlock])).trans hHeld.1, (hgrow4.cell_far ⟨wr.heap.size, 1, none⟩ (by simp; omega) (by simp [Value.ownBlock])).trans hHeld.2⟩
              clear hK K
              try simp only [Act.put]
              refine wpAnyH_take (i := 6) (v := ?_) rfl (by kernel_rfl) (by kernel_rfl) (by kernel_rfl) (fun _ _ _ h => h) (Or.inl ⟨by rfl, ?_⟩) hHeld ?_
              rotate_left
              · intro w hSw
                obtain ⟨s1, s2⟩ := hSw
                go_simp
                try with_reducible rfl
              try simp only [Act.put]
              refine wpAnyH_ready (rs := [7]) (by kernel_rfl) (by simp) ?_
              refine AllReadyH.cons rfl (fun K hK => ?_) ?_
              · go_simp
                refine hK.out _ _ ?_ (fun hHeld => ?_)
                · exact ⟨(cell_alloc_old _ _ _ _ (by omega)).trans hHeld.1, (cell_alloc_old _ _ _ _ (by omega)).trans hHeld.2⟩
                clear hK K
                try simp only [Act.put, List.setIfInBounds_toArray, List.set_cons_zero, List.set_cons_succ]
                have hB4 : Below wc.heap.size wc w4 := ⟨hgrow4.os, hgrow4.tape, hgrow4.output, by have := hgrow4.size; simpa using this, fun j hj => hgrow4.block j (by simpa using hj) (by simp [Value.ownBlock])⟩
                have HO4 := HO2.out.below (hB4.alloc (by omega) (.cells #[.string na, .slice (some ⟨wc.heap.size, 0, none⟩) n cap4] 47))
                refine wpAnyH_ready (rs := [8]) (by kernel_rfl) (by simp) ?_
                refine AllReadyH.cons rfl (fun K hK => ?_) ?_
                · refine step_append_lies _ (by rfl) _ _ _ (by rfl) w2.heap.size 47 i4 _ 2 40 Tryz.underlying63 hi4 hza4 hzb4 hzc4 rfl (by omega) (.slice oa ps.length oc) ps.length (ps.flatMap Ea.cells) (by rfl) HO4.1 ⟨w4.heap.size, 0, none⟩ 1 1 [.string na, .slice (some ⟨wc.heap.size, 0, none⟩) n cap4] (by rfl) (by rfl) (World.news_of_block (cs := #[.string na, .slice (some ⟨wc.heap.size, 0, none⟩) n cap4]) (t := 47) (fr := (0, 0)) (heap_alloc_new w4 _)) (by simp [Value.oneCell']) (by omega) (by unfold maxLen; omega) (by omega) (by simp; omega) (w4.heap.size + 1) (by simp) ?_
                  intro g5 cap5 w5 hown5 hgrow5 hat5 hlt5
                  refine hK.out _ _ ?_ (fun hHeld => ?_)
                  · exact ⟨(hgrow5.cell_far ⟨wr.heap.size, 0, none⟩ (by simp; omega) (fun e => by have := (HOB.out _ e.symm).2; simp at this)).trans hHeld.1, (hgrow5.cell_far ⟨wr.heap.size, 1, none⟩ (by simp; omega) (fun e => by have := (HOB.out _ e.symm).2; simp at this)).trans hHeld.2⟩
                  clear hK K
                  try simp only [Act.put, List.setIfInBounds_toArray]
                  refine wpAnyH_take (i := 9) (v := ?_) rfl (by kernel_rfl) (by kernel_rfl) (by kernel_rfl) (fun _ _ _ h => h) (Or.inl ⟨by rfl, ?_⟩) hHeld ?_
                  rotate_left
                  · intro w hSw
                    obtain ⟨s1, s2⟩ := hSw
                    go_simp
                    try with_reducible rfl
                  try simp only [Act.put]
                  refine wpAnyH_done (by kernel_rfl) ?_ _
                  go_wp2_with fail
                  simp only [Nat.zero_add, List.nil_append] at hown4
                  have hIT : IsTerms (w4.alloc (.cells #[.string na, .slice (some ⟨wc.heap.size, 0, none⟩) n cap4] 47)) (.slice (some ⟨wc.heap.size, 0, none⟩) n cap4) n t := (own_terms hown4 (by omega)).below ((Below.refl _ _).alloc (Nat.le_refl _) _)
                  have hpush := HO4.push (p := ⟨na, some ⟨wc.heap.size, 0, none⟩, n, cap4, t⟩) hown5 hgrow5 (by simpa using hat5) hIT (fun a ha => by
                    cases ha
                    refine ⟨hzw, by simp; omega, fun e => ?_⟩
                    have := (HOB.out _ e).2
                    simp at this
                    omega)
                  have hsoft := ((HSF.out.below HWC.out).below (hB4.alloc (by omega) (.cells #[.string na, .slice (some ⟨wc.heap.size, 0, none⟩) n cap4] 47))).push (p := ⟨na, some ⟨wc.heap.size, 0, none⟩, n, cap4, t⟩) HO4 hgrow5 (fun a ha => by
                    cases ha
                    refine ⟨?_, fun e => ?_⟩
                    · obtain ⟨cs, e, h⟩ := soft_own hown4
                      exact ⟨cs, e, (Below.heap_alloc _ _ _ hz4).trans h⟩
                    · have := (HOB.out _ e).2
                      simp at this
                      omega)
                  refine ⟨⟨k + 1, ps ++ [⟨na, some ⟨wc.heap.size, 0, none⟩, n, cap4, t⟩], _, _, by rw [List.length_append]; rfl, by go_num, by omega, by simp; omega, hpush, ?_, ?_, hide hsoft⟩, by simp [intOf]; omega⟩
                  · exact ((HB3.out.trans (hB4.mono hzw)).alloc (by omega) _).grown hgrow5 (by simp; omega) (fun b hb => (HOB.out b hb).1)
                  · have h := HDD.out
                    rw [List.map_append]
                    exact h
                exact AllReadyH.nil
              exact AllReadyH.nil
            exact AllReadyH.nil
    · clear hout hbr
      obtain rfl : k = l.length := by omega
      go_wp2_with fail
      refine bodyPost_ret (v := .slice oa ps.length oc) (by simp [results, go_sem]) rfl ⟨_, rfl, ps, ?_, hpk, HB2.out.trans (HBR.out.mono hz2), ord_of hd hat HP0.out HDd.out, HSF.out⟩
      exact ⟨own_mono HOUT.out.1 hz2, fun p hp => ⟨(HOUT.out.2 p hp).1, fun a ha => ⟨Nat.le_trans hz2 ((HOUT.out.2 p hp).2 a ha).1, ((HOUT.out.2 p hp).2 a ha).2⟩⟩⟩

theorem inOrder_soft (B : Nat) (w : World) (v : Value) (l : List Atm) (h : Atoms B w v l) :
    Calls Tryz.prog 78 #[v] w fun e w' => ∃ v' ps, e = .returned v' ∧ Out w.heap.size w' v' ps ∧ Soft w' ps ∧ Below w.heap.size w w' ∧ Ord l (ps.map Ea.atm) ∧ ps.length ≤ l.length := by
  have hord : Ord [] (([] : List Ea).map Ea.atm) := ⟨List.Pairwise.nil, fun y hy => by simp at hy, fun x hx => by simp at hx⟩
  obtain ⟨hl, ⟨rfl, rfl⟩ | ⟨g, c, rfl, hB, hg, hc, ht⟩⟩ := h
  · exact (io_none _ w ((clone_nil w).mono fun _ _ q => ⟨none, 0, q.1, by rw [q.2]; exact Below.refl _ _⟩)).mono fun _ _ q => ⟨_, [], q.1, Out.nil _ _, Soft.nil _, q.2, hord, Nat.le_refl _⟩
  · by_cases h0 : l.length = 0
    · obtain rfl : l = [] := List.length_eq_zero_iff.1 h0
      refine (io_none _ w ((clone_some g c 0 [] w rfl (fun j u hu => by simp at hu) (fun u hu => by simp at hu) (by omega) hg).mono fun _ _ q => ?_)).mono fun _ _ q => ⟨_, [], q.1, Out.nil _ _, Soft.nil _, q.2, hord, Nat.le_refl _⟩
      obtain ⟨v', he, ho, hb⟩ := q
      obtain ⟨a, c', rfl⟩ := own_slice ho
      exact ⟨a, c', he, hb⟩
    · refine (io_soft B g c l w (by omega) hl hg ht).mono fun _ w' q => ?_
      obtain ⟨v', ps, he, hout, hpl, hb, ho, hs⟩ := q
      exact ⟨v', ps, he, hout, hs, hb, ho, hpl⟩
end Go.Proofs.YtfiipfcdddaceaaGreatDoor

namespace Go.Proofs.YtfiipfcdddaceaaGreatDoor
open Go.RowKit Go.Sort Go.Shelf

/-- A list of atoms, from block B on, that may be written all through. -/
def SAtoms (B : Nat) (w : World) (v : Value) (l : List Atm) : Prop :=
  l.length ≤ 1073741824 ∧ ((v = .slice none 0 0 ∧ l = []) ∨ ∃ g c, v = .slice (some ⟨g, 0, none⟩) l.length c ∧ B ≤ g ∧ g < w.heap.size ∧ l.length ≤ c ∧ (∃ cs e, w.heap[g]? = some (.cells cs e (0, 0))) ∧
    ∀ i (h : i < l.length), ∃ tp tc, w.cell? ⟨g, i * 2, none⟩ = some (.string l[i].na) ∧ w.cell? ⟨g, i * 2 + 1, none⟩ = some (.slice tp l[i].n tc) ∧ IsTerms w (.slice tp l[i].n tc) l[i].n l[i].t ∧ ∀ a, tp = some a → B ≤ a.block ∧ a.block < w.heap.size ∧ a.block ≠ g ∧ ∃ cs e, w.heap[a.block]? = some (.cells cs e (0, 0)))
theorem SAtoms.atoms {B : Nat} {w : World} {v : Value} {l : List Atm} (h : SAtoms B w v l) : Atoms B w v l := by
  obtain ⟨hl, h | ⟨g, c, hv, hB, hg, hc, _, ht⟩⟩ := h
  · exact ⟨hl, .inl h⟩
  · refine ⟨hl, .inr ⟨g, c, hv, hB, hg, hc, fun i hi => ?_⟩⟩
    obtain ⟨tp, tc, h1, h2, h3, h4⟩ := ht i hi
    exact ⟨tp, tc, h1, h2, h3, fun a ha => ⟨(h4 a ha).1, (h4 a ha).2.1⟩⟩
theorem SAtoms.below {B : Nat} {w w' : World} {v : Value} {l : List Atm} (h : SAtoms B w v l) (hb : Below w.heap.size w w') : SAtoms B w' v l := by
  obtain ⟨hl, h | ⟨g, c, hv, hB, hg, hc, ⟨cs, e, hcs⟩, ht⟩⟩ := h
  · exact ⟨hl, .inl h⟩
  · refine ⟨hl, .inr ⟨g, c, hv, hB, Nat.lt_of_lt_of_le hg hb.size, hc, ⟨cs, e, (hb.block _ hg).trans hcs⟩, fun i hi => ?_⟩⟩
    obtain ⟨tp, tc, h1, h2, h3, h4⟩ := ht i hi
    refine ⟨tp, tc, (hb.cell (p := ⟨g, _, none⟩) hg).trans h1, (hb.cell (p := ⟨g, _, none⟩) hg).trans h2, h3.below hb, fun a ha => ?_⟩
    obtain ⟨k1, k2, k3, cs', e', k4⟩ := h4 a ha
    exact ⟨k1, Nat.lt_of_lt_of_le k2 hb.size, k3, cs', e', (hb.block _ k2).trans k4⟩
theorem SAtoms.mono {B B' : Nat} {w : World} {v : Value} {l : List Atm} (h : SAtoms B w v l) (hB : B' ≤ B) : SAtoms B' w v l := by
  obtain ⟨hl, h | ⟨g, c, hv, hg0, hg, hc, hcs, ht⟩⟩ := h
  · exact ⟨hl, .inl h⟩
  · refine ⟨hl, .inr ⟨g, c, hv, by omega, hg, hc, hcs, fun i hi => ?_⟩⟩
    obtain ⟨tp, tc, h1, h2, h3, h4⟩ := ht i hi
    exact ⟨tp, tc, h1, h2, h3, fun a ha => ⟨Nat.le_trans hB (h4 a ha).1, (h4 a ha).2⟩⟩

theorem sat_of {B B1 : Nat} {w : World} {ov : Value} {ps : List Ea} (ho : w.ownsRow B1 47 2 ov ps.length (ps.flatMap Ea.cells))
    (ht : ∀ p ∈ ps, IsTerms w (.slice p.tp p.n p.tc) p.n p.t ∧ ∀ a, p.tp = some a → B ≤ a.block ∧ a.block < w.heap.size ∧ ov.ownBlock ≠ some a.block ∧ ∃ cs e, w.heap[a.block]? = some (.cells cs e (0, 0))) (hB : B ≤ B1) (hl : ps.length ≤ 1073741824) : SAtoms B w ov (ps.map Ea.atm) := by
  refine ⟨by simpa using hl, ?_⟩
  cases ps with
  | nil =>
    obtain ⟨_, ⟨hv, _⟩ | ⟨g, cap, cur, hv, hg, hc, _, _⟩⟩ := ho
    · exact .inl ⟨hv, rfl⟩
    · exact .inr ⟨g, cap, by simpa using hv, by omega, heap_lt hc, by simp, ⟨_, _, hc⟩, fun i hi => by simp at hi⟩
  | cons p ps =>
    obtain ⟨g, cap, rfl⟩ := own_shape (n := ps.length) ho
    have hgB : B1 ≤ g := own_lt ho g rfl
    have h2 : g < w.heap.size ∧ ps.length + 1 ≤ cap := by
      obtain ⟨_, ⟨hv, _⟩ | ⟨g', cap', cur, hv, _, hc, hle, _⟩⟩ := ho
      · cases hv
      · cases hv
        exact ⟨heap_lt hc, hle⟩
    refine .inr ⟨g, cap, by simp, by omega, h2.1, by simpa using h2.2, soft_own (n := ps.length + 1) ho, fun i hi => ?_⟩
    have hi' : i < (p :: ps).length := by simpa using hi
    have hm : (p :: ps)[i] ∈ (p :: ps) := List.getElem_mem hi'
    obtain ⟨c1, c2⟩ := cells_ea (p :: ps) i hi'
    have e : ((p :: ps).map Ea.atm)[i] = (p :: ps)[i].atm := List.getElem_map ..
    rw [e]
    refine ⟨_, _, own_cell ho _ c1, own_cell ho _ c2, (ht _ hm).1, fun a ha => ?_⟩
    obtain ⟨k1, k2, k3, k4⟩ := (ht _ hm).2 a ha
    exact ⟨k1, k2, fun e => k3 (by rw [e]; rfl), k4⟩
theorem Out.sat {B : Nat} {w : World} {ov : Value} {ps : List Ea} (h : Out B w ov ps) (hs : Soft w ps) (hl : ps.length ≤ 1073741824) : SAtoms B w ov (ps.map Ea.atm) :=
  sat_of h.1 (fun p hp => ⟨(h.2 p hp).1, fun a ha => ⟨((h.2 p hp).2 a ha).1, ((h.2 p hp).2 a ha).2.1, ((h.2 p hp).2 a ha).2.2, hs p hp a ha⟩⟩) (Nat.le_refl _) hl

set_option maxRecDepth 100000 in
set_option maxHeartbeats 4000000 in
theorem union_soft (Ba Bb : Nat) (va vb : Value) (la lb : List Atm) (w : World) (ha : Atoms Ba w va la) (hb : Atoms Bb w vb lb) (hsum : la.length + lb.length ≤ 1073741824) :
    Calls Tryz.prog 40 #[va, vb] w fun e w' => ∃ v' out, e = .returned v' ∧ SAtoms w.heap.size w' v' out ∧ Below w.heap.size w w' ∧ Ord (la ++ lb) out ∧ out.length ≤ la.length + lb.length := by
  obtain ⟨psa, hpa, hsa, hta⟩ := eas_of ha
  obtain ⟨psb, hpb, hsb, htb⟩ := eas_of hb
  have la1 : psa.length = la.length := by rw [← hpa]; simp
  have lb1 : psb.length = lb.length := by rw [← hpb]; simp
  obtain ⟨pa, ca, hva⟩ := hsa.shape
  obtain ⟨pb, cb, hvb⟩ := hsb.shape
  subst hva hvb
  have hal : Below w.heap.size w (w.alloc (.cells #[.slice pa psa.length ca, .slice pb psb.length cb] 63)) := (Below.refl _ _).alloc (Nat.le_refl _) _
  have HC := hide (concat_any w.heap.size _ _ psa.length psb.length _ _ (w.alloc (.cells #[.slice pa psa.length ca, .slice pb psb.length cb] 63)) (hsa.below hal) (hsb.below hal) (by omega) (by simp) (by simp) (by simp))
  have HT : Hid (∀ w' v, Below w.heap.size w w' → w'.ownsRow (w.heap.size + 1) 47 2 v (psa.length + psb.length) (psa.flatMap Ea.cells ++ psb.flatMap Ea.cells) → Atoms 0 w' v (la ++ lb)) := fun w' v hb' ho => by
    rw [← hpa, ← hpb, ← List.map_append]
    refine atoms_of (B0 := w.heap.size + 1) (by rw [List.length_append, List.flatMap_append]; exact ho) (fun p hp => ?_) (Nat.zero_le _) (by rw [List.length_append]; omega)
    rcases List.mem_append.1 hp with h | h
    · exact ⟨(hta p h).1.below hb', fun a ha => ⟨Nat.zero_le _, Nat.lt_of_lt_of_le ((hta p h).2 a ha).2 hb'.size⟩⟩
    · exact ⟨(htb p h).1.below hb', fun a ha => ⟨Nat.zero_le _, Nat.lt_of_lt_of_le ((htb p h).2 a ha).2 hb'.size⟩⟩
  have HAL := hide hal
  clear hsa hsb hta htb ha hb hal la1 lb1 hpa hpb
  go_enter Tryz.func40, Tryz.ntmps40
  go_wp2_with fail
  refine HC.out.mono ?_
  rintro e w1 ⟨v1, rfl, hown, hb1⟩
  have hz := hb1.size
  simp only [World.size_alloc] at hz hb1 hown
  have hbw : Below w.heap.size w w1 := HAL.out.trans (hb1.mono (by omega))
  have HI := hide (inOrder_soft 0 w1 v1 (la ++ lb) (HT.out w1 v1 hbw hown))
  clear hown hb1
  go_wp2_with fail
  refine HI.out.mono ?_
  rintro e w2 ⟨v2, ps, rfl, hout, hsoft, hb2, hord, hlen⟩
  have hat := hout.sat hsoft (by simp only [List.length_append] at hlen; omega)
  go_wp2_with fail
  refine bodyPost_ret (v := v2) (by simp [results, go_sem]) rfl ⟨v2, ps.map Ea.atm, rfl, hat.mono (by omega), hbw.trans (hb2.mono (by omega)), hord, by simpa using hlen⟩

set_option maxRecDepth 100000 in
set_option maxHeartbeats 4000000 in
theorem less_soft (Ba Bb : Nat) (va vb : Value) (la lb : List Atm) (w : World) (ha : Atoms Ba w va la) (hb : Atoms Bb w vb lb) :
    Calls Tryz.prog 41 #[va, vb] w fun e w' => ∃ v' out, e = .returned v' ∧ SAtoms w.heap.size w' v' out ∧ Below w.heap.size w w' ∧ Str cmpX out ∧ (∀ x, Mem cmpX out x ↔ Mem cmpX la x ∧ ¬ Mem cmpX lb x) ∧ out.length ≤ la.length := by
  have HA := hide ha
  have hla := ha.1
  have HB := hide (inOrder_any Bb w vb lb hb)
  clear ha hb
  go_enter Tryz.func41, Tryz.ntmps41
  go_wp2_with fail
  refine HB.out.mono ?_
  rintro e w1 ⟨vg, lg, rfl, hatg, hbg, hordg, hleng⟩
  have HI := hide (inOrder_soft Ba w1 va la (HA.out.below hbg))
  have HG := hide hatg
  have HOG := hide hordg
  have HBG := hide hbg
  clear hatg hordg hbg HB
  go_wp2_with fail
  refine HI.out.mono ?_
  rintro e w2 ⟨vs, pss, rfl, hout, hsoft, hbs, hords, hlp⟩
  have hats := hout.sat hsoft (by omega)
  obtain ⟨ls, hls0⟩ : ∃ ls, ls = pss.map Ea.atm := ⟨_, rfl⟩
  rw [← hls0] at hats hords
  have hlens : ls.length ≤ la.length := by rw [hls0]; simpa using hlp
  clear hout hsoft hls0
  have HS := hide hats
  have HOS := hide hords
  have HBS := hide hbs
  have hz1 := HBG.out.size
  have hz2 := hbs.size
  clear hats hords hbs HI
  have HMEM : Hid (∀ x, Mem cmpX (leftL ls lg) x ↔ Mem cmpX la x ∧ ¬ Mem cmpX lb x) := fun x => by rw [left_mem, HOS.out.mem, HOG.out.mem]
  have HG2 := hide (HG.out.below HBS.out)
  obtain ⟨hls, ⟨rfl, rfl⟩ | ⟨g, c, rfl, hgB, hg, hc, hsg, ht⟩⟩ := HS.out
  · go_wp2_with fail
    go_loop [6, 16] (fun a b => a = .slice none 0 0 ∧ b = .int .i64 0) (fun _ _ => 0)
    case atStart => exact ⟨rfl, rfl⟩
    case round =>
      obtain ⟨rfl, rfl⟩ := hrel
      go_wp2_with fail
      refine bodyPost_ret (v := .slice none 0 0) (by simp [results, go_sem]) rfl ?_
      exact ⟨.slice none 0 0, rfl, ([] : List Atm), ⟨by simp, .inl ⟨rfl, rfl⟩⟩, HBG.out.trans (HBS.out.mono hz1), List.Pairwise.nil, HMEM.out, by simp⟩
  · have HT := hide ht
    clear ht
    obtain ⟨pg, cg, hvg⟩ : ∃ p c, vg = .slice p lg.length c := by
      obtain ⟨_, ⟨rfl, rfl⟩ | ⟨g', c', rfl, _⟩⟩ := HG.out
      · exact ⟨_, _, rfl⟩
      · exact ⟨_, _, rfl⟩
    subst hvg
    go_wp2_with fail
    go_loopw [6, 16] (fun ov iv wr => ∃ (k : Nat) (ps : List Ea) (oa : Option Addr) (oc : Nat), ov = .slice oa ps.length oc ∧ iv = .int .i64 k ∧ k ≤ ls.length ∧ ps.length ≤ k ∧ Hid (ps.map Ea.atm = leftL (ls.take k) lg) ∧ Hid (Lft w1.heap.size w2.heap.size wr ov ps) ∧ Hid (Below w2.heap.size w2 wr) ∧ Hid (Soft w2 ps)) (fun _ iv _ => ls.length - (intOf iv).toNat)
    case atStart => exact ⟨0, [], none, 0, rfl, rfl, by omega, by simp, by show _ = _; simp [leftL], ⟨⟨rfl, .inl ⟨rfl, rfl⟩⟩, fun p hp => by simp at hp⟩, Below.refl _ _, Soft.nil _⟩
    case round =>
      obtain ⟨k, ps, oa, oc, rfl, rfl, hk, hpk, HM, HL, HBR, HSF⟩ := hrel
      have hzr := HBR.out.size
      by_cases hlt : k < ls.length
      · obtain ⟨tp, tc, x0, x1, hit, hbl⟩ := HT.out k hlt
        have y0 := (HBR.out.cell (p := ⟨g, k * 2, none⟩) hg).trans x0
        have y1 := (HBR.out.cell (p := ⟨g, k * 2 + 1, none⟩) hg).trans x1
        have hal : Below wr.heap.size wr (wr.alloc (.cells #[.string ls[k].na, .slice tp ls[k].n tc] 47)) := (Below.refl _ _).alloc (Nat.le_refl _) _
        have HW : Hid (Below w2.heap.size w2 (wr.alloc (.cells #[.string ls[k].na, .slice tp ls[k].n tc] 47))) := HBR.out.trans (hal.mono hzr)
        have HC := hide (search_any ls[k] tp tc w.heap.size (.slice pg lg.length cg) lg (wr.alloc (.cells #[.string ls[k].na, .slice tp ls[k].n tc] 47)) (HG2.out.below HW.out) HOG.out.str (hit.below HW.out))
        have HP : Hid (∀ wx, Below w2.heap.size w2 wx → IsTerms wx (.slice tp ls[k].n tc) ls[k].n ls[k].t) := fun wx hx => hit.below hx
        have HPB := hide hbl
        have HSTEP := hide (left_step ls lg k hlt)
        clear x0 x1 hit hal hbl
        have hkz : (k : Int) < (ls.length : Int) := by omega
        obtain ⟨na, hna⟩ : ∃ x, ls[k].na = x := ⟨_, rfl⟩
        obtain ⟨nn, hnn⟩ : ∃ x, ls[k].n = x := ⟨_, rfl⟩
        have HAT : Hid (ls[k] = ⟨na, nn, ls[k].t⟩) := by show _ = _; rw [← hna, ← hnn]
        rw [hna, hnn] at HC HW
        rw [hnn] at HP
        rw [hna] at y0
        rw [hnn] at y1
        clear hna hnn
        generalize ls[k].t = tt at HP HAT
        cases hm : memB lg ls[k]
        · rw [hm] at HC HSTEP
          have hst := HSTEP.out
          simp only [Bool.false_eq_true, if_false] at hst
          have HST := hide hst
          clear hst HSTEP hm
          go_wp2_with fail
          refine HC.out.mono ?_
          rintro e w3 ⟨i, rfl, hb3⟩
          have hz3 := hb3.size
          simp only [World.size_alloc] at hz3
          have z0 : w3.cell? ⟨wr.heap.size, 0, none⟩ = some (.string na) := (hb3.cell (p := ⟨wr.heap.size, 0, none⟩) (by simp)).trans (by simp)
          have z1 : w3.cell? ⟨wr.heap.size, 1, none⟩ = some (.slice tp nn tc) := (hb3.cell (p := ⟨wr.heap.size, 1, none⟩) (by simp)).trans (by simp)
          have HB3 : Hid (Below w2.heap.size w2 w3) := HW.out.trans (hb3.mono (by simp; omega))
          have hbx : Below wr.heap.size wr (w3.alloc (.cells #[.string na, .slice tp nn tc] 47)) := (((Below.refl _ _).alloc (Nat.le_refl _) _).trans (hb3.mono (by simp))).alloc (by omega) _
          have HL3 := hide (HL.out.below hbx)
          clear hbx
          have hown3 := HL3.out.1
          go_wp2_with (at_builtin; refine app_src rfl _ _ rfl w2.heap.size _ _ _ rfl hown3 _ 1 [.string na, .slice tp nn tc] rfl (.inr ⟨w3.heap.size, 1, rfl, by simp, rfl, fun j u hu => by rw [← show (⟨w3.heap.size, 0, none⟩ : Addr).add j = ⟨w3.heap.size, j, none⟩ by rw [Addr.add_lit, Nat.zero_add]]; exact World.news_of_block (cs := #[.string na, .slice tp nn tc]) (t := 47) (fr := (0, 0)) (heap_alloc_new w3 _) j u hu, by simp [Value.oneCell']⟩) (by omega) (by simp; omega) ?_)
          intro v5 w5 hown5 hg5
          have hpush : Lft w1.heap.size w2.heap.size w5 v5 (ps ++ [⟨na, tp, nn, tc, tt⟩]) := HL3.out.push (by simp; omega) hown5 hg5 (HP.out _ (HB3.out.alloc (by omega) _)) (fun a ha => ⟨(HPB.out a ha).1, (HPB.out a ha).2.1⟩)
          have HSN : Hid (Soft w2 (ps ++ [⟨na, tp, nn, tc, tt⟩])) := fun q hq a ha => by
            rcases List.mem_append.1 hq with h1 | h1
            · exact HSF.out q h1 a ha
            · obtain rfl : q = ⟨na, tp, nn, tc, tt⟩ := by simpa using h1
              exact (HPB.out a ha).2.2.2
          obtain ⟨a5, c5, hv5⟩ := own_slice hown5
          have HPU := hide hpush
          have HG5 : Hid (Below w2.heap.size w2 w5) := (HB3.out.alloc (by omega) _).grown hg5 (by simp; omega) (fun b hb => own_lt hown3 b hb)
          clear hpush hown5 hg5 hown3 z0 z1
          subst hv5
          go_wp2_with fail
          refine ⟨⟨k + 1, ps ++ [(⟨na, tp, nn, tc, tt⟩ : Ea)], a5, c5, by rw [List.length_append]; rfl, by go_num, by omega, by simp; omega, ?_, HPU, HG5, HSN⟩, by simp [intOf]; omega⟩
          show _ = _
          rw [HST.out, List.map_append, HM.out, HAT.out]
          rfl
        · rw [hm] at HC HSTEP
          have hst := HSTEP.out
          simp only [if_true] at hst
          have HST := hide hst
          clear hst HSTEP hm
          go_wp2_with fail
          refine HC.out.mono ?_
          rintro e w3 ⟨i, rfl, hb3⟩
          have hz3 := hb3.size
          simp only [World.size_alloc] at hz3
          have HB3 : Hid (Below w2.heap.size w2 w3) := HW.out.trans (hb3.mono (by simp; omega))
          have hbx : Below wr.heap.size wr w3 := ((Below.refl _ _).alloc (Nat.le_refl _) _).trans (hb3.mono (by simp))
          have HL3 := hide (HL.out.below hbx)
          clear hbx hb3
          go_wp2_with fail
          refine ⟨⟨k + 1, ps, oa, oc, rfl, by go_num, by omega, by omega, ?_, HL3.out, HB3.out, HSF⟩, by simp [intOf]; omega⟩
          show _ = _
          rw [HST.out]; exact HM.out
      · obtain rfl : k = ls.length := by omega
        go_wp2_with fail
        have hm := HM.out
        rw [List.take_length] at hm
        refine bodyPost_ret (v := .slice oa ps.length oc) (by simp [results, go_sem]) rfl ⟨_, leftL ls lg, rfl, ?_, HBG.out.trans ((HBS.out.mono hz1).trans (HBR.out.mono (by omega))), left_str HOS.out.str, HMEM.out, ?_⟩
        · rw [← hm]
          exact sat_of (B1 := w2.heap.size) HL.out.1 (fun p hp => ⟨(HL.out.2 p hp).1, fun a ha => by
            have h1 := (HL.out.2 p hp).2 a ha
            refine ⟨by omega, by omega, fun e => ?_, ?_⟩
            · have := own_lt HL.out.1 _ e
              omega
            · obtain ⟨cs, e, h2⟩ := HSF.out p hp a ha
              exact ⟨cs, e, (HBR.out.block _ h1.2).trans h2⟩⟩) (by omega) (by omega)
        · have : (leftL ls lg).length ≤ ls.length := List.length_filter_le _ _
          omega
end Go.Proofs.YtfiipfcdddaceaaGreatDoor

namespace Go.Proofs.YtfiipfcdddaceaaGreatDoor
open Go.RowKit Go.Sort Go.Shelf

/-- What may have been written: nothing below B, no odd cell of g; what was there is there, and may be written as before. -/
structure Sp (T B g : Nat) (w w' : World) : Prop where
  below : Below B w w'
  high : ∀ k, T ≤ k → w'.heap[k]? = w.heap[k]?
  size : w'.heap.size = w.heap.size
  odd : ∀ i, w'.cell? ⟨g, i * 2 + 1, none⟩ = w.cell? ⟨g, i * 2 + 1, none⟩
  there : ∀ k o, (w.cell? ⟨k, o, none⟩).isSome = true → (w'.cell? ⟨k, o, none⟩).isSome = true
  frozen : ∀ k o, w'.frozen? ⟨k, o, none⟩ = w.frozen? ⟨k, o, none⟩
theorem Sp.refl (T B g : Nat) (w : World) : Sp T B g w w := ⟨Below.refl _ _, fun _ _ => rfl, rfl, fun _ => rfl, fun _ _ h => h, fun _ _ => rfl⟩
theorem Sp.set {T B g : Nat} {w w' : World} (h : Sp T B g w w') (k o : Nat) (u : Value) (hk : B ≤ k) (hT : k < T) (ho : k = g → ∃ i, o = i * 2) : Sp T B g w (w'.setCell ⟨k, o, none⟩ u) := by
  refine ⟨h.below.setCell hk u, fun j hj => (Below.heap_setCell w' ⟨k, o, none⟩ u j (show j ≠ k by omega)).trans (h.high j hj), by simpa using h.size, fun i => ?_, fun k' o' hs => ?_, fun k' o' => ?_⟩
  · rw [World.cell?_setCell_other]
    · exact h.odd i
    · intro e
      simp only [Addr.mk.injEq] at e
      obtain ⟨j, hj⟩ := ho e.1
      omega
  · by_cases e : (⟨k', o', none⟩ : Addr) = ⟨k, o, none⟩
    · cases e
      have hs' := h.there _ _ hs
      obtain ⟨x, hx⟩ := Option.isSome_iff_exists.1 hs'
      rw [World.cell?_setCell_same _ _ _ hx]
      rfl
    · rw [World.cell?_setCell_other _ _ _ _ (fun h => e h.symm)]
      exact h.there _ _ hs
  · rw [World.frozen?_setCell]; exact h.frozen _ _
theorem Sp.cellAt {T B g : Nat} {w w' : World} (h : Sp T B g w w') {k o : Nat} {x : Value} (hx : w.cell? ⟨k, o, none⟩ = some x) : ∃ y, w'.cell? ⟨k, o, none⟩ = some y :=
  Option.isSome_iff_exists.1 (h.there k o (by rw [hx]; rfl))

set_option maxRecDepth 100000 in
set_option maxHeartbeats 4000000 in
theorem spoil_none (w : World) : Calls Tryz.prog 30 #[.slice none 0 0] w fun e w' => e = .returned (.tuple #[]) ∧ w' = w := by
  go_enter Tryz.func30, Tryz.ntmps30
  go_wp2_with fail
  go_loopw [2] (fun iv wr => iv = .int .i64 0 ∧ Hid (wr = w)) (fun _ _ => 0)
  case atStart => exact ⟨rfl, rfl⟩
  case round =>
    obtain ⟨rfl, HW⟩ := hrel
    go_wp2_with fail
    go_end0
    exact ⟨rfl, HW.out⟩

set_option maxRecDepth 100000 in
set_option maxHeartbeats 4000000 in
theorem spoil_some (B g c : Nat) (l : List Atm) (w0 w : World) (h : SAtoms B w0 (.slice (some ⟨g, 0, none⟩) l.length c) l) (hbw : Below w0.heap.size w0 w) : Calls Tryz.prog 30 #[.slice (some ⟨g, 0, none⟩) l.length c] w fun e w' => e = .returned (.tuple #[]) ∧ Below B w w' ∧ (∀ k, w0.heap.size ≤ k → w'.heap[k]? = w.heap[k]?) := by
  obtain ⟨hl, ⟨hv, _⟩ | ⟨g', c', hv, hgB, hg, hc, ⟨cs0, e0, hcs⟩, ht⟩⟩ := h
  · cases hv
  cases hv
  have hzw := hbw.size
  have HBW := hide hbw
  have HT := hide ht
  have HFG : Hid (∀ o, w.frozen? ⟨g, o, none⟩ = false) := fun o => Lib.frozen_of_heap ((hbw.block _ hg).trans hcs) o
  clear ht hcs hbw
  go_enter Tryz.func30, Tryz.ntmps30
  go_wp2_with fail
  go_loopw [2] (fun iv wr => ∃ i : Nat, iv = .int .i64 i ∧ i ≤ l.length ∧ Hid (Sp w0.heap.size B g w wr)) (fun iv _ => l.length - (intOf iv).toNat)
  case atStart => exact ⟨0, rfl, by omega, Sp.refl _ _ _ _⟩
  case round =>
    obtain ⟨i, rfl, hi, HS⟩ := hrel
    have hzr := HS.out.size
    by_cases hlt : i < l.length
    · obtain ⟨tp, tc, x0', x1', hit, hbl⟩ := HT.out i hlt
      have x0 := (HBW.out.cell (p := ⟨g, i * 2, none⟩) hg).trans x0'
      have x1 := (HBW.out.cell (p := ⟨g, i * 2 + 1, none⟩) hg).trans x1'
      obtain ⟨y, hy⟩ := HS.out.cellAt x0
      have hf : wr.frozen? ⟨g, i * 2, none⟩ = false := (HS.out.frozen _ _).trans (HFG.out _)
      have hiz : (i : Int) < (l.length : Int) := by omega
      have hgr : g < wr.heap.size := by omega
      have HIT := hide hit
      have HBL := hide hbl
      have HX1 := hide x1
      clear x0 x1 x0' x1' hit hbl
      generalize l[i].n = n at *
      generalize l[i].t = t at *
      go_wp2_with fail
      have HS1 := hide (HS.out.set g (i * 2) (.string ⟨#[115, 112, 111, 105, 108, 116]⟩) hgB hg (fun _ => ⟨i, rfl⟩))
      generalize wr.setCell ⟨g, i * 2, none⟩ (.string ⟨#[115, 112, 111, 105, 108, 116]⟩) = w1 at *
      clear hy hf HS
      have hzw1 := HS1.out.size
      go_loopw [3] (fun jv wq => ∃ j : Nat, jv = .int .i64 j ∧ j ≤ n ∧ Hid (Sp w0.heap.size B g w wq)) (fun jv _ => n - (intOf jv).toNat)
      case atStart => exact ⟨0, rfl, by omega, HS1⟩
      case round =>
        obtain ⟨j, rfl, hj, HS2⟩ := hrel
        have hz2 := HS2.out.size
        have f1 : wr.cell? ⟨g, i * 2 + 1, none⟩ = some (.slice tp n tc) := (HS2.out.odd i).trans HX1.out
        have hg2 : g < wr.heap.size := by omega
        by_cases hlt2 : j < n
        · have hnn := HIT.out.1
          obtain ⟨_, ⟨_, _, _, h0⟩ | ⟨g3, c3, hv3, hg3, hc3, ht3⟩⟩ := HIT.out
          · omega
          · cases hv3
            obtain ⟨k1, k2, k3, cs3, e3, k4⟩ := HBL.out _ rfl
            simp only at k1 k2 k3 k4
            obtain ⟨a0', _, _⟩ := ht3 j hlt2
            rw [Nat.mul_comm] at a0'
            have a0 := (HBW.out.cell (p := ⟨g3, j * 3, none⟩) hg3).trans a0'
            obtain ⟨y, hy⟩ := HS2.out.cellAt a0
            have hf : wr.frozen? ⟨g3, j * 3, none⟩ = false := (HS2.out.frozen _ _).trans (Lib.frozen_of_heap ((HBW.out.block _ k2).trans k4) _)
            have hg3r : g3 < wr.heap.size := by omega
            have hjz : (j : Int) < (n : Int) := by omega
            clear a0 a0' ht3 k4
            go_wp2_with fail
            refine ⟨⟨j + 1, by go_num, by omega, ?_⟩, by simp [intOf]; omega⟩
            exact HS2.out.set g3 (j * 3) _ k1 k2 (fun e => absurd e k3)
        · obtain rfl : j = n := by omega
          go_wp2_with fail
          exact ⟨⟨i + 1, by go_num, by omega, HS2⟩, by simp [intOf]; omega⟩
    · go_wp2_with fail
      go_end0
      exact ⟨rfl, HS.out.below, HS.out.high⟩
theorem spoil_any (B : Nat) (v : Value) (l : List Atm) (w0 w : World) (h : SAtoms B w0 v l) (hb : Below w0.heap.size w0 w) : Calls Tryz.prog 30 #[v] w fun e w' => e = .returned (.tuple #[]) ∧ Below B w w' ∧ (∀ k, w0.heap.size ≤ k → w'.heap[k]? = w.heap[k]?) := by
  obtain ⟨hl, ⟨rfl, rfl⟩ | ⟨g, c, rfl, hr⟩⟩ := h
  · exact (spoil_none w).mono fun _ _ q => ⟨q.1, by rw [q.2]; exact Below.refl _ _, fun k _ => by rw [q.2]⟩
  · exact spoil_some B g c l w0 w ⟨hl, .inr ⟨g, c, rfl, hr⟩⟩ hb
/-- What lies above is as it was. -/
theorem SAtoms.high {B : Nat} {w w' : World} {v : Value} {l : List Atm} (h : SAtoms B w v l) (hh : ∀ k, B ≤ k → w'.heap[k]? = w.heap[k]?) (hs : w.heap.size ≤ w'.heap.size) : SAtoms B w' v l := by
  obtain ⟨hl, h | ⟨g, c, hv, hB, hg, hc, ⟨cs, e, hcs⟩, ht⟩⟩ := h
  · exact ⟨hl, .inl h⟩
  · have hk : ∀ o, w'.cell? ⟨g, o, none⟩ = w.cell? ⟨g, o, none⟩ := fun o => World.cell?_of_block (a := ⟨g, o, none⟩) (hh g hB)
    refine ⟨hl, .inr ⟨g, c, hv, hB, by omega, hc, ⟨cs, e, (hh g hB).trans hcs⟩, fun i hi => ?_⟩⟩
    obtain ⟨tp, tc, h1, h2, h3, h4⟩ := ht i hi
    refine ⟨tp, tc, (hk _).trans h1, (hk _).trans h2, h3.keep (fun a ha => hh _ (h4 a ha).1) hs, fun a ha => ?_⟩
    obtain ⟨k1, k2, k3, cs', e', k4⟩ := h4 a ha
    exact ⟨k1, by omega, k3, cs', e', (hh _ k1).trans k4⟩
end Go.Proofs.YtfiipfcdddaceaaGreatDoor
