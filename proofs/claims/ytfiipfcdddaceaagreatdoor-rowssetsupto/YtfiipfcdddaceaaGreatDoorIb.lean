import Derived.Test.YtfiipfcdddaceaaGreatDoorIa
namespace Go.Proofs.YtfiipfcdddaceaaGreatDoor
open Go.RowKit Go.Sort Go.Shelf

theorem flat_get {w0 : World} [Inhabited (El w0)] (d : Array (El w0)) (j : Nat) (hj : j < d.size * 2) : (flatK (enc2 (twoE w0)) 2 d)[j]! = if j % 2 = 0 then .string d[j / 2]!.na else .slice d[j / 2]!.tp d[j / 2]!.n d[j / 2]!.tc := by
  rw [get_flatK _ _ _ _ hj]
  rcases Nat.mod_two_eq_zero_or_one j with h | h
  · rw [h, if_pos rfl]; rfl
  · rw [h, if_neg (by omega)]; rfl

/-- The elements of a list that lies in memory. -/
theorem els_of {B : Nat} {w : World} [Inhabited (El w)] {g : Nat} {l : List Atm}
    (ht : ∀ i (h : i < l.length), ∃ tp tc, w.cell? ⟨g, i * 2, none⟩ = some (.string l[i].na) ∧ w.cell? ⟨g, i * 2 + 1, none⟩ = some (.slice tp l[i].n tc) ∧ IsTerms w (.slice tp l[i].n tc) l[i].n l[i].t ∧ ∀ a, tp = some a → B ≤ a.block ∧ a.block < w.heap.size) :
    ∃ d : Array (El w), d.size = l.length ∧ (∀ i (h : i < l.length), d[i]!.atm = l[i]) ∧ ∀ j u, (flatK (enc2 (twoE w)) 2 d).toList[j]? = some u → w.cell? ⟨g, j, none⟩ = some u := by
  refine ⟨Array.ofFn fun i : Fin l.length => ⟨l[i].na, (ht i i.2).choose, l[i].n, (ht i i.2).choose_spec.choose, l[i].t, (ht i i.2).choose_spec.choose_spec.2.2.1⟩, by simp, fun i h => ?_, fun j u hu => ?_⟩
  · rw [getElem!_pos _ i (by simpa using h)]
    simp [El.atm]
  · have hj : j < l.length * 2 := by
      have := (List.getElem?_eq_some_iff.1 hu).1
      simpa using this
    have e : (flatK (enc2 (twoE w)) 2 (Array.ofFn fun i : Fin l.length => (⟨l[i].na, (ht i i.2).choose, l[i].n, (ht i i.2).choose_spec.choose, l[i].t, (ht i i.2).choose_spec.choose_spec.2.2.1⟩ : El w)))[j]! = u := by
      obtain ⟨h1, h2⟩ := List.getElem?_eq_some_iff.1 hu
      rw [getElem!_pos _ j (by simpa using hj), ← h2, Array.getElem_toList]
    rw [flat_get _ j (by simpa using hj)] at e
    have hi : j / 2 < l.length := by omega
    rw [getElem!_pos _ (j / 2) (by simpa using hi)] at e
    have hs := (ht (j / 2) hi).choose_spec.choose_spec
    split at e
    · rename_i h2
      have ej : j = j / 2 * 2 := by omega
      rw [← e]
      rw [show (⟨g, j, none⟩ : Addr) = ⟨g, j / 2 * 2, none⟩ by rw [← ej]]
      simpa using hs.1
    · rename_i h2
      have ej : j = j / 2 * 2 + 1 := by omega
      rw [← e]
      rw [show (⟨g, j, none⟩ : Addr) = ⟨g, j / 2 * 2 + 1, none⟩ by rw [← ej]]
      simpa using hs.2.1

theorem holds_own {w0 w : World} [Inhabited (El w0)] {B g n cap : Nat} {d : Array (El w0)} (h : w.ownsRow B 47 2 (.slice (some ⟨g, 0, none⟩) n cap) n (flatK (enc2 (twoE w0)) 2 d).toList) : HoldsK (enc2 (twoE w0)) 2 w g 0 d := by
  intro j hj
  have hf : ∀ o, w.frozen? ⟨g, o, none⟩ = false := by
    obtain ⟨_, ⟨hv, _⟩ | ⟨g', cap', cur, hv, _, hc, _⟩⟩ := h
    · cases hv
    · cases hv; exact fun o => Lib.frozen_of_heap hc o
  refine ⟨?_, hf _⟩
  rw [Nat.zero_add]
  have := own_cell h j (u := (flatK (enc2 (twoE w0)) 2 d)[j]!) (by rw [getElem!_pos _ j hj]; simp)
  exact this

/-- An atom of a list that is being made. -/
structure Ea where
  na : ByteArray
  tp : Option Addr
  n : Nat
  tc : Nat
  t : Nat → Tm
def Ea.cells (p : Ea) : List Value := [.string p.na, .slice p.tp p.n p.tc]
def Ea.atm (p : Ea) : Atm := ⟨p.na, p.n, p.t⟩

theorem IsTerms.keep {w w' : World} {tp : Option Addr} {n c : Nat} {t : Nat → Tm} (h : IsTerms w (.slice tp n c) n t) (hk : ∀ a, tp = some a → w'.heap[a.block]? = w.heap[a.block]?) (hs : w.heap.size ≤ w'.heap.size) : IsTerms w' (.slice tp n c) n t := by
  obtain ⟨hn, h | ⟨g, c', hv, hg, hc, ht⟩⟩ := h
  · exact ⟨hn, .inl h⟩
  · cases hv
    refine ⟨hn, .inr ⟨g, c, rfl, by omega, hc, fun j hj => ?_⟩⟩
    have e : w'.heap[g]? = w.heap[g]? := hk _ rfl
    have ec : ∀ o, w'.cell? ⟨g, o, none⟩ = w.cell? ⟨g, o, none⟩ := fun o => World.cell?_of_block (a := ⟨g, o, none⟩) e
    obtain ⟨a, b, d⟩ := ht j hj
    exact ⟨(ec _).trans a, (ec _).trans b, (ec _).trans d⟩

def Out (B : Nat) (w : World) (ov : Value) (ps : List Ea) : Prop :=
  w.ownsRow B 47 2 ov ps.length (ps.flatMap Ea.cells) ∧ ∀ p ∈ ps, IsTerms w (.slice p.tp p.n p.tc) p.n p.t ∧ ∀ a, p.tp = some a → B ≤ a.block ∧ a.block < w.heap.size ∧ ov.ownBlock ≠ some a.block

theorem Out.nil (B : Nat) (w : World) : Out B w (.slice none 0 0) [] := ⟨⟨rfl, .inl ⟨rfl, rfl⟩⟩, fun p hp => by simp at hp⟩
theorem Out.below {B : Nat} {w w' : World} {ov : Value} {ps : List Ea} (h : Out B w ov ps) (hb : Below w.heap.size w w') : Out B w' ov ps :=
  ⟨own_below h.1 hb, fun p hp => ⟨(h.2 p hp).1.below hb, fun a ha => ⟨((h.2 p hp).2 a ha).1, Nat.lt_of_lt_of_le ((h.2 p hp).2 a ha).2.1 hb.size, ((h.2 p hp).2 a ha).2.2⟩⟩⟩
theorem Out.push {B : Nat} {w w' : World} {ov : Value} {ps : List Ea} {p : Ea} {gg cap : Nat} (h : Out B w ov ps) (ho : w'.ownsRow B 47 2 (.slice (some ⟨gg, 0, none⟩) (ps.length + 1) cap) (ps.length + 1) (ps.flatMap Ea.cells ++ p.cells))
    (hg : w.grownBy w' ov.ownBlock) (hgg : ov.ownBlock = some gg ∨ gg = w.heap.size) (hp : IsTerms w (.slice p.tp p.n p.tc) p.n p.t) (hpb : ∀ a, p.tp = some a → B ≤ a.block ∧ a.block < w.heap.size ∧ ov.ownBlock ≠ some a.block) :
    Out B w' (.slice (some ⟨gg, 0, none⟩) (ps.length + 1) cap) (ps ++ [p]) := by
  have key : ∀ q : Ea, (IsTerms w (.slice q.tp q.n q.tc) q.n q.t ∧ ∀ a, q.tp = some a → B ≤ a.block ∧ a.block < w.heap.size ∧ ov.ownBlock ≠ some a.block) →
      IsTerms w' (.slice q.tp q.n q.tc) q.n q.t ∧ ∀ a, q.tp = some a → B ≤ a.block ∧ a.block < w'.heap.size ∧ (Value.slice (some ⟨gg, 0, none⟩) (ps.length + 1) cap).ownBlock ≠ some a.block := fun q hq => by
    refine ⟨hq.1.keep (fun a ha => hg.block _ (hq.2 a ha).2.1 (fun e => (hq.2 a ha).2.2 e.symm)) hg.size, fun a ha => ⟨(hq.2 a ha).1, Nat.lt_of_lt_of_le (hq.2 a ha).2.1 hg.size, fun e => ?_⟩⟩
    simp only [Value.ownBlock, Option.some.injEq] at e
    rcases hgg with h1 | h1
    · exact (hq.2 a ha).2.2 (by rw [h1, e])
    · have := (hq.2 a ha).2.1; omega
  refine ⟨?_, fun q hq => ?_⟩
  · rw [List.length_append, List.flatMap_append]
    simpa using ho
  · rcases List.mem_append.1 hq with h1 | h1
    · exact key q (h.2 q h1)
    · obtain rfl : q = p := by simpa using h1
      exact key q ⟨hp, hpb⟩

theorem cells_ea (ps : List Ea) (i : Nat) (hi : i < ps.length) : (ps.flatMap Ea.cells)[i * 2]? = some (.string ps[i].na) ∧ (ps.flatMap Ea.cells)[i * 2 + 1]? = some (.slice ps[i].tp ps[i].n ps[i].tc) := by
  induction ps generalizing i with
  | nil => simp at hi
  | cons p ps ih =>
    cases i with
    | zero => simp [Ea.cells]
    | succ i =>
      have := ih i (by simpa using hi)
      have e1 : (i + 1) * 2 = i * 2 + 2 := by omega
      simp only [List.flatMap_cons, Ea.cells, List.cons_append, List.nil_append, e1, List.getElem?_cons_succ, List.getElem_cons_succ]
      exact this

theorem Out.atoms {B : Nat} {w : World} {ov : Value} {ps : List Ea} (h : Out B w ov ps) (hl : ps.length ≤ 1073741824) : Atoms B w ov (ps.map Ea.atm) := by
  refine ⟨by simpa using hl, ?_⟩
  obtain ⟨ho, ht⟩ := h
  cases ps with
  | nil =>
    obtain ⟨_, ⟨hv, _⟩ | ⟨g, cap, cur, hv, hg, hc, _, _⟩⟩ := ho
    · exact .inl ⟨hv, rfl⟩
    · refine .inr ⟨g, cap, by simpa using hv, hg, ?_, by simp, fun i hi => by simp at hi⟩
      rcases Nat.lt_or_ge g w.heap.size with h' | h'
      · exact h'
      · simp [Array.getElem?_eq_none h'] at hc
  | cons p ps =>
    obtain ⟨g, cap, rfl⟩ := own_shape (n := ps.length) ho
    have hgB : B ≤ g := own_lt ho g rfl
    have h2 : g < w.heap.size ∧ ps.length + 1 ≤ cap := by
      obtain ⟨_, ⟨hv, _⟩ | ⟨g', cap', cur, hv, _, hc, hle, _⟩⟩ := ho
      · cases hv
      · cases hv
        refine ⟨?_, hle⟩
        rcases Nat.lt_or_ge g w.heap.size with h' | h'
        · exact h'
        · simp [Array.getElem?_eq_none h'] at hc
    refine .inr ⟨g, cap, by simp, hgB, h2.1, by simpa using h2.2, fun i hi => ?_⟩
    have hi' : i < (p :: ps).length := by simpa using hi
    have hm : (p :: ps)[i] ∈ (p :: ps) := List.getElem_mem hi'
    obtain ⟨c1, c2⟩ := cells_ea (p :: ps) i hi'
    have e : ((p :: ps).map Ea.atm)[i] = (p :: ps)[i].atm := List.getElem_map ..
    rw [e]
    exact ⟨_, _, own_cell ho _ c1, own_cell ho _ c2, (ht _ hm).1, fun a ha => ⟨((ht _ hm).2 a ha).1, ((ht _ hm).2 a ha).2.1⟩⟩

theorem tcells_one (t : Nat → Tm) (n : Nat) : ∀ u ∈ tcells t n, u.oneCell' = true := by
  intro u hu
  unfold tcells at hu
  obtain ⟨j, _, hj⟩ := List.mem_flatMap.1 hu
  simp [Tm.cells] at hj
  rcases hj with rfl | rfl | rfl <;> rfl
theorem news_terms {w : World} {g n : Nat} {t : Nat → Tm} (h : Terms w g n t) : ∀ j u, (tcells t n)[j]? = some u → w.drew.cell? ((⟨g, 0, none⟩ : Addr).add j) = some u := by
  intro j u hu
  rw [Addr.add_lit, Nat.zero_add]
  show w.cell? ⟨g, j, none⟩ = some u
  have hj : j < n * 3 := by have := (List.getElem?_eq_some_iff.1 hu).1; rwa [tcells_len] at this
  obtain ⟨a, b, c⟩ := tcells_at t n (j / 3) (by omega)
  obtain ⟨a', b', c'⟩ := h (j / 3) (by omega)
  have hm : j % 3 = 0 ∨ j % 3 = 1 ∨ j % 3 = 2 := by omega
  rcases hm with hm | hm | hm
  · have e : j = 3 * (j / 3) := by omega
    rw [← e] at a a'
    rw [a] at hu; cases hu; exact a'
  · have e : j = 3 * (j / 3) + 1 := by omega
    rw [← e] at b b'
    rw [b] at hu; cases hu; exact b'
  · have e : j = 3 * (j / 3) + 2 := by omega
    rw [← e] at c c'
    rw [c] at hu; cases hu; exact c'
end Go.Proofs.YtfiipfcdddaceaaGreatDoor
