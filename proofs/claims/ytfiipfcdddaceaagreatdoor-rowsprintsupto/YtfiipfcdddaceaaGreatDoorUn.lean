import Derived.Test.YtfiipfcdddaceaaGreatDoorIc
import Derived.Lib.AppendZeros
import Derived.Laws.AppendOwnNone
namespace Go.Proofs.YtfiipfcdddaceaaGreatDoor
open Go.RowKit Go.Sort Go.Shelf

set_option maxRecDepth 100000 in
set_option maxHeartbeats 4000000 in
theorem grow_none (w : World) : Calls Tryz.prog 124 #[.slice none 0 0, .int .i64 0] w fun e w' => e = .returned (.slice none 0 0) ∧ w' = w := by
  go_enter Tryz.func124, Tryz.ntmps124
  go_wp2_with fail
  go_ret
  exact ⟨rfl, rfl⟩

set_option maxRecDepth 100000 in
set_option maxHeartbeats 4000000 in
theorem grow_some (n : Nat) (w : World) (hn : n ≤ 2147483648) (h0 : 0 < n) : Calls Tryz.prog 124 #[.slice none 0 0, .int .i64 n] w fun e w' => ∃ v, e = .returned v ∧ w'.ownsRow w.heap.size 47 2 v 0 [] ∧ Below w.heap.size w w' := by
  obtain ⟨i0, hi, hz0, hz1, hz2⟩ := info_parts (P := Tryz.prog) (e := 47) (z := .agg #[.string ⟨#[]⟩, .slice none 0 0]) (size := 2) (bytes := 40) (by kernel_rfl)
  have hr := fun ty => Lib.run_append_nil_zeros (P := Tryz.prog) w 63 3 ty 47 i0 _ .i64 .i64 Tryz.underlying63 Tryz.underlying3 hi hz0 n h0 (by omega) (by omega) (by rw [hz2]; omega)
  have hG1 : n ≤ grownCap w n 0 47 := grownCap_ge w _ _ _
  have hG2 : grownCap w n 0 47 ≤ maxLen := grownCap_le_maxLen w n 0 47 (by unfold maxLen; omega)
  have hG3 : (Builtin.zeroCells (Value.agg #[.string ⟨#[]⟩, .slice none 0 0]).cells n ++ Builtin.zeroCells (Value.agg #[.string ⟨#[]⟩, .slice none 0 0]).cells (grownCap w n 0 47 - n)).size = grownCap w n 0 47 * 2 := by
    simp [size_zeroCells, Value.cells]; omega
  generalize grownCap w n 0 47 = G at hr hG1 hG2 hG3
  generalize (Builtin.zeroCells (Value.agg #[.string ⟨#[]⟩, .slice none 0 0]).cells n ++ Builtin.zeroCells (Value.agg #[.string ⟨#[]⟩, .slice none 0 0]).cells (G - n)) = cs at hr hG3
  have HR := hide hr
  have HG2 := hide hG2
  have HG3 := hide hG3
  have hG63 : G ≤ 9223372036854775807 := by unfold maxLen at hG2; omega
  clear hr hG2 hG3
  go_enter Tryz.func124, Tryz.ntmps124
  go_wp2_with (at_builtin; refine Lib.wpList_append_run _ rfl _ _ _ _ rfl _ _ rfl rfl _ _ (HR.out _) ?_)
  go_wp2_with fail
  refine bodyPost_ret (v := .slice (some ⟨w.heap.size, 0, none⟩) 0 G) (by simp [results, go_sem]) rfl ⟨_, rfl, ⟨rfl, .inr ⟨w.heap.size, G, cs, rfl, Nat.le_refl _, ?_, by omega, HG2.out, HG3.out, by simp⟩⟩, ?_⟩
  · exact heap_alloc_new w.drew _
  · exact (Below.refl _ _).drew.alloc (Nat.le_refl _) _
theorem grow_any (n : Nat) (w : World) (hn : n ≤ 2147483648) : Calls Tryz.prog 124 #[.slice none 0 0, .int .i64 n] w fun e w' => ∃ v, e = .returned v ∧ w'.ownsRow w.heap.size 47 2 v 0 [] ∧ Below w.heap.size w w' := by
  by_cases h0 : n = 0
  · subst h0
    exact (grow_none w).mono fun _ _ q => ⟨_, q.1, World.ownsRow_nil _ _ _ _, by rw [q.2]; exact Below.refl _ _⟩
  · exact grow_some n w hn (by omega)

/-- What is appended: nothing, or what lies there. -/
def Src (w : World) (v : Value) (m : Nat) (news : List Value) : Prop :=
  (v = .slice none 0 0 ∧ m = 0 ∧ news = []) ∨ ∃ g c, v = .slice (some ⟨g, 0, none⟩) m c ∧ g < w.heap.size ∧ news.length = m * 2 ∧ (∀ j u, news[j]? = some u → w.cell? ⟨g, j, none⟩ = some u) ∧ ∀ u ∈ news, u.oneCell' = true

theorem Src.below {w w' : World} {v : Value} {m : Nat} {news : List Value} (h : Src w v m news) (hb : Below w.heap.size w w') : Src w' v m news := by
  rcases h with h | ⟨g, c, hv, hg, hl, hc, h1⟩
  · exact .inl h
  · exact .inr ⟨g, c, hv, Nat.lt_of_lt_of_le hg hb.size, hl, fun j u hu => (hb.cell (p := ⟨g, j, none⟩) hg).trans (hc j u hu), h1⟩

theorem app_src {w : World} {ops : Array Oper} {rest : List Oper} {o : Oper} {a : Act} {Q : Exit → Act → World → Prop} (hgd : o.guard = none) (s x : Operand)
    (ho : o.op = .call { callee := .builtin .append, args := #[s, x], argTypes := #[63, 63] }) (base : Nat) (v : Value) (n : Nat) (xs : List Value) (hs : a.eval s = v) (hown : w.ownsRow base 47 2 v n xs)
    (vx : Value) (m : Nat) (news : List Value) (hx : a.eval x = vx) (hsrc : Src w vx m news) (hnm : n + m ≤ 2147483648) (hbase : base ≤ w.heap.size)
    (h : ∀ v' w', w'.ownsRow base 47 2 v' (n + m) (xs ++ news) → w.grownBy w' v.ownBlock → wpList Tryz.prog ops Q rest (a.put o.dst v') w') : wpList Tryz.prog ops Q (o :: rest) a w := by
  obtain ⟨i0, hi, hz0, hz1, hz2⟩ := info_parts (P := Tryz.prog) (e := 47) (z := .agg #[.string ⟨#[]⟩, .slice none 0 0]) (size := 2) (bytes := 40) (by kernel_rfl)
  rcases hsrc with ⟨rfl, rfl, rfl⟩ | ⟨g, c, rfl, hg, hl, hc, h1⟩
  · refine wpList_append_own_none hgd s x 63 ho base 47 i0 2 Tryz.underlying63 hi v n xs hs hown hx ?_
    exact h v w (by simpa using hown) ⟨rfl, rfl, rfl, Nat.le_refl _, fun _ _ _ => rfl⟩
  · exact wpList_append_own w hgd s x 63 ho base 47 i0 _ 2 40 Tryz.underlying63 hi hz0 hz1 hz2 rfl (by omega) v n xs hs hown ⟨g, 0, none⟩ m c news hx hl (fun j u hu => by rw [Addr.add_lit, Nat.zero_add]; exact hc j u hu) h1 (by unfold maxLen; omega) (by omega) hbase fun v' w' a b _ => h v' w' a b

theorem eas_len : ∀ ps : List Ea, (ps.flatMap Ea.cells).length = ps.length * 2
  | [] => rfl
  | p :: ps => by rw [List.flatMap_cons, List.length_append, eas_len ps]; simp [Ea.cells]; omega
theorem eas_inv (ps : List Ea) (j : Nat) (u : Value) (h : (ps.flatMap Ea.cells)[j]? = some u) : ∃ i, ∃ hi : i < ps.length, (j = i * 2 ∧ u = .string ps[i].na) ∨ (j = i * 2 + 1 ∧ u = .slice ps[i].tp ps[i].n ps[i].tc) := by
  have hj : j < ps.length * 2 := by rw [← eas_len]; exact (List.getElem?_eq_some_iff.1 h).1
  have hi : j / 2 < ps.length := by omega
  obtain ⟨a, b⟩ := cells_ea ps (j / 2) hi
  refine ⟨j / 2, hi, ?_⟩
  rcases Nat.mod_two_eq_zero_or_one j with hm | hm
  · have e : j = j / 2 * 2 := by omega
    rw [← e] at a
    rw [a] at h
    exact Or.inl ⟨e, (Option.some.inj h).symm⟩
  · have e : j = j / 2 * 2 + 1 := by omega
    rw [← e] at b
    rw [b] at h
    exact Or.inr ⟨e, (Option.some.inj h).symm⟩

/-- The atoms of a list that lies in memory. -/
theorem eas_of {B : Nat} {w : World} {v : Value} {l : List Atm} (h : Atoms B w v l) :
    ∃ ps : List Ea, ps.map Ea.atm = l ∧ Src w v ps.length (ps.flatMap Ea.cells) ∧ ∀ p ∈ ps, IsTerms w (.slice p.tp p.n p.tc) p.n p.t ∧ ∀ a, p.tp = some a → B ≤ a.block ∧ a.block < w.heap.size := by
  obtain ⟨hl, ⟨rfl, rfl⟩ | ⟨g, c, rfl, hB, hg, hc, ht⟩⟩ := h
  · exact ⟨[], rfl, .inl ⟨rfl, rfl, rfl⟩, fun p hp => by simp at hp⟩
  · have hlen : (List.ofFn fun i : Fin l.length => (⟨l[i].na, (ht i i.2).choose, l[i].n, (ht i i.2).choose_spec.choose, l[i].t⟩ : Ea)).length = l.length := by simp
    refine ⟨List.ofFn fun i : Fin l.length => ⟨l[i].na, (ht i i.2).choose, l[i].n, (ht i i.2).choose_spec.choose, l[i].t⟩, ?_, .inr ⟨g, c, by rw [hlen], hg, ?_, fun j u hu => ?_, ?_⟩, ?_⟩
    · refine List.ext_getElem (by simp) fun i h1 h2 => ?_
      simp [Ea.atm]
    · exact eas_len _
    · obtain ⟨i, hi, h⟩ := eas_inv _ j u hu
      have hi' : i < l.length := by simpa using hi
      have hs := (ht i hi').choose_spec.choose_spec
      rcases h with ⟨rfl, rfl⟩ | ⟨rfl, rfl⟩
      · simpa using hs.1
      · simpa using hs.2.1
    · intro u hu
      obtain ⟨p, _, hp⟩ := List.mem_flatMap.1 hu
      simp [Ea.cells] at hp
      rcases hp with rfl | rfl <;> rfl
    · intro p hp
      obtain ⟨i, rfl⟩ := List.mem_ofFn.1 hp
      exact (ht i i.2).choose_spec.choose_spec.2.2

theorem atoms_of {B B0 : Nat} {w : World} {v : Value} {ps : List Ea} (ho : w.ownsRow B0 47 2 v ps.length (ps.flatMap Ea.cells)) (ht : ∀ p ∈ ps, IsTerms w (.slice p.tp p.n p.tc) p.n p.t ∧ ∀ a, p.tp = some a → B ≤ a.block ∧ a.block < w.heap.size) (hB : B ≤ B0) (hl : ps.length ≤ 1073741824) : Atoms B w v (ps.map Ea.atm) := by
  refine ⟨by simpa using hl, ?_⟩
  cases ps with
  | nil =>
    obtain ⟨_, ⟨hv, _⟩ | ⟨g, cap, cur, hv, hg, hc, _, _⟩⟩ := ho
    · exact .inl ⟨hv, rfl⟩
    · refine .inr ⟨g, cap, by simpa using hv, by omega, ?_, by simp, fun i hi => by simp at hi⟩
      rcases Nat.lt_or_ge g w.heap.size with h' | h'
      · exact h'
      · simp [Array.getElem?_eq_none h'] at hc
  | cons p ps =>
    obtain ⟨g, cap, rfl⟩ := own_shape (n := ps.length) ho
    have hgB : B0 ≤ g := own_lt ho g rfl
    have h2 : g < w.heap.size ∧ ps.length + 1 ≤ cap := by
      obtain ⟨_, ⟨hv, _⟩ | ⟨g', cap', cur, hv, _, hc, hle, _⟩⟩ := ho
      · cases hv
      · cases hv
        refine ⟨?_, hle⟩
        rcases Nat.lt_or_ge g w.heap.size with h' | h'
        · exact h'
        · simp [Array.getElem?_eq_none h'] at hc
    refine .inr ⟨g, cap, by simp, by omega, h2.1, by simpa using h2.2, fun i hi => ?_⟩
    have hi' : i < (p :: ps).length := by simpa using hi
    have hm : (p :: ps)[i] ∈ (p :: ps) := List.getElem_mem hi'
    obtain ⟨c1, c2⟩ := cells_ea (p :: ps) i hi'
    have e : ((p :: ps).map Ea.atm)[i] = (p :: ps)[i].atm := List.getElem_map ..
    rw [e]
    exact ⟨_, _, own_cell ho _ c1, own_cell ho _ c2, (ht _ hm).1, (ht _ hm).2⟩

theorem Src.shape {w : World} {v : Value} {m : Nat} {news : List Value} (h : Src w v m news) : ∃ p c, v = .slice p m c := by
  rcases h with ⟨rfl, rfl, _⟩ | ⟨g, c, rfl, _⟩
  · exact ⟨_, _, rfl⟩
  · exact ⟨_, _, rfl⟩

set_option maxRecDepth 100000 in
set_option maxHeartbeats 4000000 in
theorem concat_any (gs : Nat) (va vb : Value) (n m : Nat) (xa xb : List Value) (w : World) (ha : Src w va n xa) (hb : Src w vb m xb) (hnm : n + m ≤ 2147483648) (hgs : gs < w.heap.size) (c0 : w.cell? ⟨gs, 0, none⟩ = some va) (c1 : w.cell? ⟨gs, 1, none⟩ = some vb) :
    Calls Tryz.prog 88 #[.slice (some ⟨gs, 0, none⟩) 2 2] w fun e w' => ∃ v, e = .returned v ∧ w'.ownsRow w.heap.size 47 2 v (n + m) (xa ++ xb) ∧ Below w.heap.size w w' := by
  obtain ⟨pa, ca, hva⟩ := ha.shape
  obtain ⟨pb, cb, hvb⟩ := hb.shape
  have HA := hide ha
  have HB := hide hb
  subst hva hvb
  have hgr := grow_any (n + m) w hnm
  rw [show ((n + m : Nat) : Int) = (n : Int) + (m : Int) by omega] at hgr
  have HG := hide hgr
  clear ha hb hgr
  go_enter Tryz.func88, Tryz.ntmps88
  go_wp2_with fail
  refine wp_loop_rounds 3 ?_
  rw [rounds_succ]
  go_wp2_with fail
  rw [rounds_succ]
  go_wp2_with fail
  rw [rounds_succ]
  go_wp2_with (go_at_call 124; refine HG.out.mono ?_; rintro e w1 ⟨v1, rfl, hown, hb1⟩)
  have d0 := (hb1.cell (p := ⟨gs, 0, none⟩) hgs).trans c0
  have d1 := (hb1.cell (p := ⟨gs, 1, none⟩) hgs).trans c1
  have hz1 := hb1.size
  have HSA := hide (HA.out.below hb1)
  refine wp_loop_rounds 3 ?_
  rw [rounds_succ]
  go_wp2_with (at_builtin; refine app_src rfl _ _ rfl w.heap.size _ _ _ rfl hown _ _ _ rfl HSA.out (by omega) hz1 ?_)
  intro v2 w2 hown2 hg2
  have hb2 : Below w.heap.size w w2 := hb1.grown hg2 hz1 (fun k hk => own_lt hown k hk)
  have d2 := (hb2.cell (p := ⟨gs, 1, none⟩) hgs).trans c1
  have hz2 := hb2.size
  have HSB := hide (HB.out.below hb2)
  clear d0 d1
  go_wp2_with fail
  rw [rounds_succ]
  go_wp2_with (at_builtin; refine app_src rfl _ _ rfl w.heap.size _ _ _ rfl hown2 _ _ _ rfl HSB.out (by omega) hz2 ?_)
  intro v3 w3 hown3 hg3
  have hb3 : Below w.heap.size w w3 := hb2.grown hg3 hz2 (fun k hk => own_lt hown2 k hk)
  clear d2
  go_wp2_with fail
  rw [rounds_succ]
  go_wp2_with fail
  refine bodyPost_ret (v := v3) (by simp [results, go_sem]) rfl ⟨v3, rfl, ?_, hb3⟩
  simpa using hown3

set_option maxRecDepth 100000 in
set_option maxHeartbeats 4000000 in
theorem union_any (Ba Bb : Nat) (va vb : Value) (la lb : List Atm) (w : World) (ha : Atoms Ba w va la) (hb : Atoms Bb w vb lb) (hsum : la.length + lb.length ≤ 1073741824) :
    Calls Tryz.prog 40 #[va, vb] w fun e w' => ∃ v' out, e = .returned v' ∧ Atoms w.heap.size w' v' out ∧ Below w.heap.size w w' ∧ Ord (la ++ lb) out ∧ out.length ≤ la.length + lb.length := by
  obtain ⟨psa, hpa, hsa, hta⟩ := eas_of ha
  obtain ⟨psb, hpb, hsb, htb⟩ := eas_of hb
  have la1 : psa.length = la.length := by rw [← hpa]; simp
  have lb1 : psb.length = lb.length := by rw [← hpb]; simp
  obtain ⟨pa, ca, hva⟩ := hsa.shape
  obtain ⟨pb, cb, hvb⟩ := hsb.shape
  subst hva hvb
  have hal : Below w.heap.size w (w.alloc (.cells #[.slice pa psa.length ca, .slice pb psb.length cb] 63)) := (Below.refl _ _).alloc (Nat.le_refl _) _
  have HC := hide (concat_any w.heap.size _ _ psa.length psb.length _ _ (w.alloc (.cells #[.slice pa psa.length ca, .slice pb psb.length cb] 63)) (hsa.below hal) (hsb.below hal) (by omega) (by simp) (by simp) (by simp))
  have HT : Hid (∀ w' v, Below w.heap.size w w' → w'.ownsRow (w.heap.size + 1) 47 2 v (psa.length + psb.length) (psa.flatMap Ea.cells ++ psb.flatMap Ea.cells) → Atoms 0 w' v (la ++ lb)) := fun w' v hb' ho => by
    rw [← hpa, ← hpb, ← List.map_append]
    refine atoms_of (B0 := w.heap.size + 1) (by rw [List.length_append, List.flatMap_append]; exact ho) (fun p hp => ?_) (Nat.zero_le _) (by rw [List.length_append]; omega)
    rcases List.mem_append.1 hp with h | h
    · exact ⟨(hta p h).1.below hb', fun a ha => ⟨Nat.zero_le _, Nat.lt_of_lt_of_le ((hta p h).2 a ha).2 hb'.size⟩⟩
    · exact ⟨(htb p h).1.below hb', fun a ha => ⟨Nat.zero_le _, Nat.lt_of_lt_of_le ((htb p h).2 a ha).2 hb'.size⟩⟩
  have HAL := hide hal
  clear hsa hsb hta htb ha hb hal la1 lb1 hpa hpb
  go_enter Tryz.func40, Tryz.ntmps40
  go_wp2_with fail
  refine HC.out.mono ?_
  rintro e w1 ⟨v1, rfl, hown, hb1⟩
  have hz := hb1.size
  simp only [World.size_alloc] at hz hb1 hown
  have hbw : Below w.heap.size w w1 := HAL.out.trans (hb1.mono (by omega))
  have HI := hide (inOrder_any 0 w1 v1 (la ++ lb) (HT.out w1 v1 hbw hown))
  clear hown hb1
  go_wp2_with fail
  refine HI.out.mono ?_
  rintro e w2 ⟨v2, out, rfl, hat, hb2, hord, hlen⟩
  go_wp2_with fail
  refine bodyPost_ret (v := v2) (by simp [results, go_sem]) rfl ⟨v2, out, rfl, hat.mono (by omega), hbw.trans (hb2.mono (by omega)), hord, by simpa using hlen⟩
end Go.Proofs.YtfiipfcdddaceaaGreatDoor
