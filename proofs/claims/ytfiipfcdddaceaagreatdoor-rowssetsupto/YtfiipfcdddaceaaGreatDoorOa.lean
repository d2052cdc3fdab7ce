import Derived.Test.YtfiipfcdddaceaaGreatDoorAl
import Derived.ProofKit
import Derived.OpenShut
import Derived.Deep.Slices
import Derived.Deep.Strs
import Derived.Lib.SmallJoins
import Derived.Lib.ItoaLen
namespace Go.Proofs.YtfiipfcdddaceaaGreatDoor
open Go.ChangeShapes Go.WideShapes Go.ChangeAt Go.RowKit

theorem cells37 : Tryz.prog.cellsOf 92 = 4 := by kernel_rfl
theorem cells24 : Tryz.prog.cellsOf 44 = 3 := by kernel_rfl
theorem cells3' : Tryz.prog.cellsOf 3 = 1 := by kernel_rfl
theorem cells9 : Tryz.prog.cellsOf 9 = 1 := by kernel_rfl
theorem cells22 : Tryz.prog.cellsOf 42 = 1 := by kernel_rfl
theorem laidOut : laidOutB Tryz.prog = true := by kernel_rfl

theorem bulk_one {H : Type} (d : DataW H) : 1 ≤ Rows.uptoBulk d := by
  cases d with
  | lit l => cases l <;> simp [Rows.uptoBulk]
  | nil => simp [Rows.uptoBulk]
  | ptr d => simp [Rows.uptoBulk]
  | slice elems spare => simp [Rows.uptoBulk]
  | agg parts => simp [Rows.uptoBulk]
  | iface t d => simp [Rows.uptoBulk]
  | map entries => simp [Rows.uptoBulk]
  | held h => simp [Rows.uptoBulk]

section
variable {H : Type} {enc : TypeId × Value → H} {w : World} {base : Nat} {spare : Nat → Bool} {held : Bool}

theorem list4 (l : List Value) (h : l.length = 4) : ∃ a b c d, l = [a, b, c, d] := by
  match l, h with
  | [a, b, c, d], _ => exact ⟨a, b, c, d, rfl⟩

/-- What a term of the document's reads as. -/
def tmD (t : Tm) (a : Int) : DataW H := .agg [.lit (.int .i64 t.kind), .lit (.int .i64 t.num), .lit (.string t.text.data.toList), .lit (.int .i64 a)]

theorem open_term {fuel : Nat} {cs : List Value} {x : DataW H × List MemPlace} (h : DataW.trod enc Tryz.prog w base spare held fuel 92 cs = some x) :
    ∃ (t : Tm) (a : Int), cs = [.int .i64 t.kind, .int .i64 t.num, .string t.text, .int .i64 a] ∧ x.1 = tmD t a ∧ -9223372036854775808 ≤ t.num ∧ t.num ≤ 9223372036854775807 := by
  obtain ⟨y0, y1, y2, y3, n, rfl, hl, h0, h1, h2, h3⟩ := Joins.trod_struct4 Tryz.underlying92 h
  rw [cells37] at hl
  obtain ⟨c0, c1, c2, c3, rfl⟩ := list4 cs hl
  simp only [cells3', cells9] at h0 h1 h2 h3
  · obtain ⟨k, e0, r0, _⟩ := DataW.trod_int Tryz.underlying3 h0
    obtain ⟨m, e1, r1, wm⟩ := DataW.trod_int Tryz.underlying3 h1
    obtain ⟨s, e2, r2, _⟩ := DataW.trod_string Tryz.underlying9 h2
    obtain ⟨a, e3, r3, _⟩ := DataW.trod_int Tryz.underlying3 h3
    simp at e0 e1 e2 e3
    subst e0 e1 e2 e3 r0 r1 r2 r3
    have hw := bounds_i64 wm
    exact ⟨⟨k, m, s⟩, a, rfl, rfl, hw.1, hw.2⟩

theorem bulk_tm (t : Tm) (a : Int) : Rows.uptoBulk (tmD (H := H) t a) = t.text.size + 5 := by
  have : t.text.data.toList.length = t.text.size := by simp
  simp only [tmD, Rows.uptoBulk, Rows.uptoBulkAll, this]
  omega

theorem mapM_len {α β : Type} {f : α → Option β} : ∀ {l : List α} {r : List β}, l.mapM f = some r → r.length = l.length
  | [], r, h => by simp at h; subst h; rfl
  | x :: l, r, h => by
    rw [List.mapM_cons] at h
    cases hx : f x with
    | none => simp [hx] at h
    | some y =>
      cases hl : l.mapM f with
      | none => simp [hx, hl] at h
      | some r' =>
        simp [hx, hl] at h
        subst h
        simp [mapM_len hl]

theorem cells_at {a : Addr} {n : Nat} {cs : List Value} (h : w.cells? base a n = some cs) (j : Nat) (v : Value) (hj : cs[j]? = some v) : w.cell? (a.add j) = some v := by
  unfold World.cells? at h
  split at h
  · have hl := Lib.mapM_at h
    have hlen : cs.length = n := by
      have := mapM_len h
      simpa using this
    have hjn : j < n := by
      rcases Nat.lt_or_ge j cs.length with h' | h'
      · omega
      · simp [List.getElem?_eq_none h'] at hj
    obtain ⟨b, hb, hv⟩ := hl j j (by simp [hjn])
    rw [hj] at hb
    cases hb
    exact hv
  · cases h

theorem bulk_range (D : Nat → DataW H) (n : Nat) (f : Nat → Nat) (h : ∀ j, j < n → f j ≤ Rows.uptoBulk (D j)) : ((List.range n).map f).sum ≤ Rows.uptoBulkAll ((List.range n).map D) := by
  have app : ∀ (l r : List (DataW H)), Rows.uptoBulkAll (l ++ r) = Rows.uptoBulkAll l + Rows.uptoBulkAll r := by
    intro l r
    induction l with
    | nil => simp [Rows.uptoBulkAll]
    | cons x l ih => simp only [List.cons_append, Rows.uptoBulkAll, ih]; omega
  induction n with
  | zero => simp
  | succ n ih =>
    have h1 := ih (fun j hj => h j (by omega))
    have h2 := h n (by omega)
    rw [List.range_succ, List.map_append, List.map_append, List.sum_append, app]
    simp only [List.map_cons, List.map_nil, List.sum_cons, List.sum_nil, Rows.uptoBulkAll]
    omega

/-- How much there is of an atom's terms. -/
def termW (t : Nat → Tm) (n : Nat) : Nat := ((List.range n).map fun j => (t j).text.size + 5).sum
/-- What an atom that came in keeps to. -/
structure Tame (x : Atm) : Prop where
  name : x.na.size ≤ 2 ^ 20
  nums : ∀ j, j < x.n → -9223372036854775808 ≤ (x.t j).num ∧ (x.t j).num ≤ 9223372036854775807
  sum : termW x.t x.n ≤ 2 ^ 20

set_option maxRecDepth 100000 in
theorem open_terms {fu : Nat} {v1 : Value} {y1 : DataW H × List MemPlace} (h1 : DataW.trod enc Tryz.prog w base spare held fu 42 [v1] = some y1) (hb : Rows.uptoBulk y1.1 ≤ 2 ^ 20) :
    ∃ (n : Nat) (t : Nat → Tm), IsRTerms w v1 n t ∧ (∀ j, j < n → -9223372036854775808 ≤ (t j).num ∧ (t j).num ≤ 9223372036854775807) ∧ termW t n ≤ 2 ^ 20 := by
  rcases Deep.open_slice Tryz.underlying42 h1 with ⟨hcs, _⟩ | ⟨ad, len, cap, m, nn, D, Pl, hcs, hbb, hl, hm, hmm, hx, hall⟩
  · simp at hcs
    exact ⟨0, fun _ => ⟨0, 0, ⟨#[]⟩⟩, ⟨by omega, .inl ⟨none, 0, hcs, rfl⟩⟩, fun j hj => absurd hj (Nat.not_lt_zero j), Nat.zero_le _⟩
  · simp at hcs
    have hlm : len ≤ m := by rw [hmm]; split <;> omega
    have hbulk : Rows.uptoBulkAll ((List.range len).map D) ≤ 2 ^ 20 := by
      rw [hx] at hb
      simp only [Rows.uptoBulk] at hb
      omega
    have hP : ∀ i, i < len → ∃ q : Tm × Int, w.cells? base (ad.add (i * 4)) 4 = some [.int .i64 q.1.kind, .int .i64 q.1.num, .string q.1.text, .int .i64 q.2] ∧ D i = tmD q.1 q.2 ∧ -9223372036854775808 ≤ q.1.num ∧ q.1.num ≤ 9223372036854775807 := by
      intro i hi
      obtain ⟨cs', c1, c2⟩ := hall i (by omega)
      rw [cells37] at c1
      obtain ⟨t, aa, rfl, e, k1, k2⟩ := open_term c2
      exact ⟨(t, aa), c1, e, k1, k2⟩
    have : Inhabited (Tm × Int) := ⟨(⟨0, 0, ⟨#[]⟩⟩, 0)⟩
    obtain ⟨f, hf⟩ := Deep.choose_lt hP
    have hsum : ((List.range len).map fun j => (f j).1.text.size + 5).sum ≤ 2 ^ 20 := by
      refine Nat.le_trans (bulk_range D len _ fun j hj => ?_) hbulk
      rw [(hf j hj).2.1, bulk_tm]
      exact Nat.le_refl _
    have hlen : len ≤ 2 ^ 20 := by
      have h5 : ∀ n, n ≤ ((List.range n).map fun j => (f j).1.text.size + 5).sum := by
        intro n
        induction n with
        | zero => simp
        | succ n ih => rw [List.range_succ, List.map_append, List.sum_append]; simp only [List.map_cons, List.map_nil, List.sum_cons, List.sum_nil]; omega
      have := h5 len
      omega
    refine ⟨len, fun j => (f j).1, ⟨by omega, ?_⟩, fun j hj => (hf j hj).2.2, hsum⟩
    by_cases hz : len = 0
    · exact .inl ⟨some ad, cap, by rw [hcs, hz], hz⟩
    · obtain ⟨g, off, spot⟩ := ad
      have hcell : ∀ j, j < len → ∀ k u, ([.int .i64 (f j).1.kind, .int .i64 (f j).1.num, .string (f j).1.text, .int .i64 (f j).2] : List Value)[k]? = some u → w.cell? (((⟨g, off, spot⟩ : Addr).add (j * 4)).add k) = some u := fun j hj k u hu => cells_at (hf j hj).1 k u hu
      have hspot : spot = none := by
        have := World.cell?_spot (hcell 0 (by omega) 0 _ rfl)
        simpa [Addr.add] using this
      subst hspot
      refine .inr ⟨g, off, cap, hcs, ?_, hl, fun j hj => ?_⟩
      · have h00 := hcell 0 (by omega) 0 _ rfl
        rcases Nat.lt_or_ge g w.heap.size with h' | h'
        · exact h'
        · simp [Addr.add, World.cell?, Array.getElem?_eq_none h'] at h00
      · have ea : ∀ k, ((⟨g, off, none⟩ : Addr).add (j * 4)).add k = ⟨g, off + j * 4 + k, none⟩ := fun k => by
          rw [Deep.add_add]
          unfold Addr.add
          split
          · rename_i h0; simp at h0 ⊢
          · simp; omega
        refine ⟨?_, ?_, ?_⟩
        · have := hcell j hj 0 _ rfl; rw [ea] at this; exact this
        · have := hcell j hj 1 _ rfl; rw [ea] at this; exact this
        · have := hcell j hj 2 _ rfl; rw [ea] at this; exact this

set_option maxRecDepth 100000 in
/-- An atom that came in. -/
theorem open_atom {b0 : Nat} {r : Reach} {v : Value} {d : DataW H} {p : List MemPlace} (hv : Value.okWide Tryz.prog w r b0 44 v) (h : DataW.Trod enc Tryz.prog w base spare held 44 v d p) (hb : Rows.uptoBulk d ≤ 2 ^ 20) :
    ∃ (x : Atm) (va : Value) (a : Int), v = .agg #[.string x.na, va, .int .i64 a] ∧ IsRTerms w va x.n x.t ∧ Tame x := by
  obtain ⟨v0, v1, v2, y0, y1, y2, fu, rfl, rfl, rfl, h0, h1, h2⟩ := Joins.open_agg3 Tryz.underlying44 (by kernel_rfl) cells24 hv h
  obtain ⟨s, e0, r0, _⟩ := DataW.trod_string Tryz.underlying9 h0
  obtain ⟨a, e2, r2, _⟩ := DataW.trod_int Tryz.underlying3 h2
  simp at e0 e2
  subst e0 e2 r0 r2
  have hs : s.data.toList.length = s.size := by simp
  simp only [Rows.uptoBulk, Rows.uptoBulkAll, hs] at hb
  obtain ⟨n, t, hit, hn, hw⟩ := open_terms h1 (by omega)
  exact ⟨⟨s, n, t⟩, v1, a, rfl, hit, ⟨by show s.size ≤ _; omega, hn, hw⟩⟩

theorem list3 (l : List Value) (h : l.length = 3) : ∃ a b c, l = [a, b, c] := by
  match l, h with
  | [a, b, c], _ => exact ⟨a, b, c, rfl⟩

set_option maxRecDepth 100000 in
/-- An atom within a list that came in. -/
theorem open_atom3 {fuel : Nat} {cs : List Value} {x : DataW H × List MemPlace} (h : DataW.trod enc Tryz.prog w base spare held fuel 44 cs = some x) (hb : Rows.uptoBulk x.1 ≤ 2 ^ 20) :
    ∃ (y : Atm) (va : Value) (a : Int), cs = [.string y.na, va, .int .i64 a] ∧ IsRTerms w va y.n y.t ∧ Tame y := by
  obtain ⟨y0, y1, y2, n, rfl, hl, h0, h1, h2⟩ := Deep.trod_struct3 Tryz.underlying44 h
  rw [cells24] at hl
  obtain ⟨c0, c1, c2, rfl⟩ := list3 cs hl
  simp only [cells3', cells9, cells22] at h0 h1 h2
  obtain ⟨s, e0, r0, _⟩ := DataW.trod_string Tryz.underlying9 h0
  obtain ⟨a, e2, r2, _⟩ := DataW.trod_int Tryz.underlying3 h2
  simp at e0 e2
  subst e0 e2 r0 r2
  have hs : s.data.toList.length = s.size := by simp
  simp only [Rows.uptoBulk, Rows.uptoBulkAll, hs] at hb
  have h1' : DataW.trod enc Tryz.prog w base spare held n 42 [c1] = some y1 := h1
  obtain ⟨m, t, hit, hn, hw⟩ := open_terms h1' (by omega)
  exact ⟨⟨s, m, t⟩, c1, a, rfl, hit, ⟨by show s.size ≤ _; omega, hn, hw⟩⟩

theorem bulk_all_at (D : Nat → DataW H) (n j : Nat) (hj : j < n) : Rows.uptoBulk (D j) ≤ Rows.uptoBulkAll ((List.range n).map D) := by
  have h := bulk_range D n (fun i => if i = j then Rows.uptoBulk (D j) else 0) (fun i _ => by
    show (if i = j then _ else 0) ≤ _
    split
    · rename_i e; subst e; exact Nat.le_refl _
    · exact Nat.zero_le _)
  refine Nat.le_trans ?_ h
  clear h
  induction n with
  | zero => omega
  | succ n ih =>
    rw [List.range_succ, List.map_append, List.sum_append]
    by_cases e : j < n
    · have := ih e; omega
    · obtain rfl : j = n := by omega
      simp
theorem bulk_all_len (D : Nat → DataW H) (n : Nat) : n ≤ Rows.uptoBulkAll ((List.range n).map D) := by
  refine Nat.le_trans ?_ (bulk_range D n (fun _ => 1) (fun j _ => bulk_one _))
  induction n with
  | zero => simp
  | succ n ih => rw [List.range_succ, List.map_append, List.sum_append]; simp; omega

set_option maxRecDepth 100000 in
/-- A list of atoms that came in. -/
theorem open_list {b0 : Nat} {r : Reach} {v : Value} {d : DataW H} {p : List MemPlace} (hv : Value.okWide Tryz.prog w r b0 66 v) (h : DataW.Trod enc Tryz.prog w base spare held 66 v d p) (hb : Rows.uptoBulk d ≤ 2 ^ 20) :
    ∃ l : List Atm, RAtoms w v l ∧ l.length ≤ 2 ^ 20 ∧ ∀ x ∈ l, Tame x := by
  obtain ⟨sa, sl, sc, rfl⟩ := okWide_slice Tryz.underlying66 hv
  obtain ⟨fuel, h⟩ := h
  have h' : DataW.trod enc Tryz.prog w base spare held fuel 66 [.slice sa sl sc] = some (d, p) := h
  rcases Deep.open_slice Tryz.underlying66 h' with ⟨hcs, _⟩ | ⟨ad, len, cap, m, nn, D, Pl, hcs, hbb, hl, hm, hmm, hx, hall⟩
  · simp at hcs
    obtain ⟨rfl, rfl, rfl⟩ := hcs
    exact ⟨[], ⟨by simp, .inl ⟨none, 0, rfl, rfl⟩⟩, by simp, fun x hx => by simp at hx⟩
  · simp at hcs
    obtain ⟨rfl, rfl, rfl⟩ := hcs
    have hlm : sl ≤ m := by rw [hmm]; split <;> omega
    have hbulk : Rows.uptoBulkAll ((List.range sl).map D) ≤ 2 ^ 20 := by
      have e : d = _ := (Prod.mk.inj hx).1
      rw [e] at hb
      simp only [Rows.uptoBulk] at hb
      omega
    have hlen : sl ≤ 2 ^ 20 := Nat.le_trans (bulk_all_len D sl) hbulk
    have hP : ∀ i, i < sl → ∃ q : Atm × Value × Int, w.cells? base (ad.add (i * 3)) 3 = some [.string q.1.na, q.2.1, .int .i64 q.2.2] ∧ IsRTerms w q.2.1 q.1.n q.1.t ∧ Tame q.1 := by
      intro i hi
      obtain ⟨cs', c1, c2⟩ := hall i (by omega)
      rw [cells24] at c1
      obtain ⟨y, va, a, rfl, hit, hk⟩ := open_atom3 c2 (Nat.le_trans (bulk_all_at D sl i hi) hbulk)
      exact ⟨(y, va, a), c1, hit, hk⟩
    have : Inhabited (Atm × Value × Int) := ⟨(⟨⟨#[]⟩, 0, fun _ => ⟨0, 0, ⟨#[]⟩⟩⟩, .nilIface, 0)⟩
    obtain ⟨f, hf⟩ := Deep.choose_lt hP
    refine ⟨(List.range sl).map fun i => (f i).1, ⟨by simp; omega, ?_⟩, by simpa using hlen, fun x hx => ?_⟩
    · by_cases hz : sl = 0
      · exact .inl ⟨some ad, sc, by rw [hz], by simp [hz]⟩
      · obtain ⟨g, off, spot⟩ := ad
        have hcell : ∀ j, j < sl → ∀ k u, ([.string (f j).1.na, (f j).2.1, .int .i64 (f j).2.2] : List Value)[k]? = some u → w.cell? (((⟨g, off, spot⟩ : Addr).add (j * 3)).add k) = some u := fun j hj k u hu => cells_at (hf j hj).1 k u hu
        have hspot : spot = none := by
          have := World.cell?_spot (hcell 0 (by omega) 0 _ rfl)
          simpa [Addr.add] using this
        subst hspot
        refine .inr ⟨g, off, sc, by simp, ?_, by simpa using hl, fun j hj => ?_⟩
        · have h00 := hcell 0 (by omega) 0 _ rfl
          rcases Nat.lt_or_ge g w.heap.size with h' | h'
          · exact h'
          · simp [Addr.add, World.cell?, Array.getElem?_eq_none h'] at h00
        · have hj' : j < sl := by simpa using hj
          have ea : ∀ k, ((⟨g, off, none⟩ : Addr).add (j * 3)).add k = ⟨g, off + j * 3 + k, none⟩ := fun k => by
            rw [Deep.add_add]
            unfold Addr.add
            split
            · rename_i h0; simp at h0 ⊢
            · simp; omega
          have eg : ((List.range sl).map fun i => (f i).1)[j] = (f j).1 := by simp
          rw [eg]
          refine ⟨(f j).2.1, (f j).2.2, ?_, ?_, ?_, (hf j hj').2.1⟩
          · have := hcell j hj' 0 _ rfl; rw [ea] at this; exact this
          · have := hcell j hj' 1 _ rfl; rw [ea] at this; exact this
          · have := hcell j hj' 2 _ rfl; rw [ea] at this; exact this
    · obtain ⟨i, hi, rfl⟩ := List.mem_map.1 hx
      exact (hf i (List.mem_range.1 hi)).2.2
end
end Go.Proofs.YtfiipfcdddaceaaGreatDoor
