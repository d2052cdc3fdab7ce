import Derived.Test.YtfiipfcdddaceaaGreatDoorLs
import Derived.Test.YtfiipfcdddaceaaGreatDoorJa
namespace Go.Proofs.YtfiipfcdddaceaaGreatDoor
open Go.Sort

section
variable {α : Type} {f : α → α → Int}

/-- One element of the list, as the document's With goes over it. -/
def wstep (f : α → α → Int) (a : α) (s : List α × Bool) (x : α) : List α × Bool :=
  if f a x < 0 then (if s.2 then (s.1 ++ [x], true) else (s.1 ++ [a, x], true))
  else if f a x = 0 then (if s.2 then s else (s.1 ++ [a], true))
  else (s.1 ++ [x], s.2)
def wend (a : α) (s : List α × Bool) : List α := if s.2 then s.1 else s.1 ++ [a]
def withL (f : α → α → Int) (l : List α) (a : α) : List α := wend a (l.foldl (wstep f a) ([], false))
def ins (f : α → α → Int) (a : α) : List α → List α
  | [] => [a]
  | x :: r => if f a x < 0 then a :: x :: r else if f a x = 0 then a :: r else x :: ins f a r

theorem wstep_done (a : α) : ∀ (l o : List α), (∀ x ∈ l, f a x = -1) → l.foldl (wstep f a) (o, true) = (o ++ l, true)
  | [], o, _ => by simp
  | x :: r, o, h => by
    have hx := h x (by simp)
    rw [List.foldl_cons]
    have e : wstep f a (o, true) x = (o ++ [x], true) := by simp [wstep, hx]
    rw [e, wstep_done a r _ fun y hy => h y (by simp [hy])]
    simp

theorem wstep_ins (hf : Cmp f) (a : α) : ∀ (l o : List α), Str f l → wend a (l.foldl (wstep f a) (o, false)) = o ++ ins f a l
  | [], o, _ => by simp [wend, ins]
  | x :: r, o, h => by
    obtain ⟨h1, h2⟩ := List.pairwise_cons.1 h
    rw [List.foldl_cons]
    rcases hf.three a x with hx | hx | hx
    · have e : wstep f a (o, false) x = (o ++ [a, x], true) := by simp [wstep, hx]
      rw [e, wstep_done a r _ fun y hy => hf.less a x y hx (h1 y hy)]
      simp [wend, ins, hx]
    · have e : wstep f a (o, false) x = (o ++ [a], true) := by simp [wstep, hx]
      rw [e, wstep_done a r _ fun y hy => hf.le_lt (by omega) (h1 y hy)]
      simp [wend, ins, hx]
    · have e : wstep f a (o, false) x = (o ++ [x], false) := by simp [wstep, hx]
      rw [e, wstep_ins hf a r _ h2]
      simp [ins, hx]

theorem withL_ins (hf : Cmp f) (l : List α) (a : α) (h : Str f l) : withL f l a = ins f a l := by
  unfold withL
  rw [wstep_ins hf a l [] h]
  rfl

theorem ins_mem (a : α) : ∀ (l : List α) (y : α), y ∈ ins f a l → y = a ∨ y ∈ l
  | [], y, h => by simp [ins] at h; exact Or.inl h
  | x :: r, y, h => by
    unfold ins at h
    split at h
    · rcases List.mem_cons.1 h with h | h
      · exact Or.inl h
      · exact Or.inr h
    · split at h
      · rcases List.mem_cons.1 h with h | h
        · exact Or.inl h
        · exact Or.inr (by simp [h])
      · rcases List.mem_cons.1 h with h | h
        · exact Or.inr (by simp [h])
        · rcases ins_mem a r y h with h | h
          · exact Or.inl h
          · exact Or.inr (by simp [h])

theorem ins_str (hf : Cmp f) (a : α) : ∀ (l : List α), Str f l → Str f (ins f a l)
  | [], _ => List.pairwise_singleton _ _
  | x :: r, h => by
    obtain ⟨h1, h2⟩ := List.pairwise_cons.1 h
    unfold ins
    rcases hf.three a x with hx | hx | hx
    · rw [if_pos (by omega)]
      refine List.pairwise_cons.2 ⟨fun y hy => ?_, h⟩
      rcases List.mem_cons.1 hy with rfl | hy
      · exact hx
      · exact hf.less a x y hx (h1 y hy)
    · rw [if_neg (by omega), if_pos hx]
      exact List.pairwise_cons.2 ⟨fun y hy => hf.le_lt (by omega) (h1 y hy), h2⟩
    · rw [if_neg (by omega), if_neg (by omega)]
      refine List.pairwise_cons.2 ⟨fun y hy => ?_, ins_str hf a r h2⟩
      rcases ins_mem a r y hy with rfl | hy
      · have := hf.turn y x; omega
      · exact h1 y hy

theorem Mem.cons {x : α} {r : List α} {z : α} : Mem f (x :: r) z ↔ f x z = 0 ∨ Mem f r z := by
  constructor
  · rintro ⟨y, hy, h⟩
    rcases List.mem_cons.1 hy with rfl | hy
    · exact Or.inl h
    · exact Or.inr ⟨y, hy, h⟩
  · rintro (h | ⟨y, hy, h⟩)
    · exact ⟨x, by simp, h⟩
    · exact ⟨y, by simp [hy], h⟩

theorem ins_has (hf : Cmp f) (a : α) (z : α) : ∀ (l : List α), Mem f (ins f a l) z ↔ f a z = 0 ∨ Mem f l z
  | [] => Mem.cons
  | x :: r => by
    unfold ins
    rcases hf.three a x with hx | hx | hx
    · rw [if_pos (by omega)]; exact Mem.cons
    · rw [if_neg (by omega), if_pos hx, Mem.cons, Mem.cons, hf.zero _ _ z hx]
      constructor
      · rintro (h | h)
        · exact Or.inl h
        · exact Or.inr (Or.inr h)
      · rintro (h | h | h)
        · exact Or.inl h
        · exact Or.inl h
        · exact Or.inr h
    · rw [if_neg (by omega), if_neg (by omega), Mem.cons, Mem.cons, ins_has hf a z r]
      exact ⟨fun h => by rcases h with h | h | h; exact Or.inr (Or.inl h); exact Or.inl h; exact Or.inr (Or.inr h), fun h => by rcases h with h | h | h; exact Or.inr (Or.inl h); exact Or.inl h; exact Or.inr (Or.inr h)⟩

theorem ins_len (a : α) : ∀ (l : List α), (ins f a l).length ≤ l.length + 1
  | [] => by simp [ins]
  | x :: r => by
    have := ins_len a r
    unfold ins
    split
    · simp
    · split <;> simp <;> omega
theorem Str.nil : Str f [] := List.Pairwise.nil
/-- What a list is when its elements are laid in one by one. -/
structure Laid (f : α → α → Int) (l out : List α) : Prop where
  str : Str f out
  sub : ∀ y ∈ out, y ∈ l
  mem : ∀ z, Mem f out z ↔ Mem f l z
  len : out.length ≤ l.length
theorem Laid.zero : Laid f [] [] := ⟨List.Pairwise.nil, fun _ h => h, fun _ => Iff.rfl, Nat.le_refl _⟩
theorem Laid.snoc (hf : Cmp f) {l out : List α} (h : Laid f l out) (a : α) : Laid f (l ++ [a]) (withL f out a) := by
  rw [withL_ins hf out a h.str]
  refine ⟨ins_str hf a out h.str, fun y hy => ?_, fun z => ?_, ?_⟩
  · rcases ins_mem a out y hy with rfl | h1
    · simp
    · have := h.sub y h1; simp [this]
  · rw [ins_has hf a z out, h.mem z, Mem.app]
    constructor
    · rintro (h1 | h1)
      · exact Or.inr ⟨a, by simp, h1⟩
      · exact Or.inl h1
    · rintro (h1 | ⟨y, hy, h1⟩)
      · exact Or.inr h1
      · obtain rfl : y = a := by simpa using hy
        exact Or.inl h1
  · have := ins_len (f := f) a out
    have := h.len
    simp
    omega
end
end Go.Proofs.YtfiipfcdddaceaaGreatDoor

namespace Go.Proofs.YtfiipfcdddaceaaGreatDoor
open Go.RowKit Go.Sort Go.Shelf

/-- An atom of the document's, as it lies in a list. -/
structure Rx where
  x : Atm
  tp : Option Addr
  tc : Nat
  at_ : Int
  q : Nat → Int
def Rx.cells (r : Rx) : List Value := [.string r.x.na, .slice r.tp r.x.n r.tc, .int .i64 r.at_]
def Rx.val (r : Rx) : Value := .agg #[.string r.x.na, .slice r.tp r.x.n r.tc, .int .i64 r.at_]
/-- Its terms lie in memory, and it is not too long. -/
structure Rx.Ok (w : World) (r : Rx) : Prop where
  some : Some4 w r.tp r.x.n r.tc r.x.t r.q
  n : r.x.n ≤ 1099511627776
  na : r.x.na.size ≤ 1099511627776
  tx : ∀ j, j < r.x.n → (r.x.t j).text.size ≤ 1099511627776
theorem Some4.below {w w' : World} {a : Option Addr} {n c : Nat} {t : Nat → Tm} {p : Nat → Int} (h : Some4 w a n c t p) (hb : Below w.heap.size w w') : Some4 w' a n c t p := fun hn => by
  obtain ⟨g, off, ha, hg, hc, ht⟩ := h hn
  refine ⟨g, off, ha, Nat.lt_of_lt_of_le hg hb.size, hc, fun j hj => ?_⟩
  obtain ⟨a, b, c, d⟩ := ht j hj
  exact ⟨(hb.cell (p := ⟨g, _, none⟩) hg).trans a, (hb.cell (p := ⟨g, _, none⟩) hg).trans b, (hb.cell (p := ⟨g, _, none⟩) hg).trans c, (hb.cell (p := ⟨g, _, none⟩) hg).trans d⟩
theorem Rx.Ok.below {w w' : World} {r : Rx} (h : r.Ok w) (hb : Below w.heap.size w w') : r.Ok w' := ⟨h.some.below hb, h.n, h.na, h.tx⟩
def cmpR (r s : Rx) : Int := cmpX r.x s.x
theorem cmpR_cmp : Cmp cmpR := on_cmp cmpX_cmp Rx.x

/-- A list of the document's atoms. -/
def RL (w : World) (v : Value) (l : List Rx) : Prop :=
  l.length ≤ 1073741824 ∧ (∀ r ∈ l, r.Ok w) ∧ ((∃ a c, v = .slice a 0 c ∧ l = []) ∨ ∃ g off c, v = .slice (some ⟨g, off, none⟩) l.length c ∧ g < w.heap.size ∧ l.length ≤ c ∧
    ∀ i (h : i < l.length), w.cell? ⟨g, off + i * 3, none⟩ = some (.string l[i].x.na) ∧ w.cell? ⟨g, off + i * 3 + 1, none⟩ = some (.slice l[i].tp l[i].x.n l[i].tc) ∧ w.cell? ⟨g, off + i * 3 + 2, none⟩ = some (.int .i64 l[i].at_))
theorem RL.below {w w' : World} {v : Value} {l : List Rx} (h : RL w v l) (hb : Below w.heap.size w w') : RL w' v l := by
  obtain ⟨hl, hok, h | ⟨g, off, c, hv, hg, hc, ht⟩⟩ := h
  · exact ⟨hl, fun r hr => (hok r hr).below hb, .inl h⟩
  · refine ⟨hl, fun r hr => (hok r hr).below hb, .inr ⟨g, off, c, hv, Nat.lt_of_lt_of_le hg hb.size, hc, fun i hi => ?_⟩⟩
    obtain ⟨h1, h2, h3⟩ := ht i hi
    exact ⟨(hb.cell (p := ⟨g, _, none⟩) hg).trans h1, (hb.cell (p := ⟨g, _, none⟩) hg).trans h2, (hb.cell (p := ⟨g, _, none⟩) hg).trans h3⟩
theorem RL.shape {w : World} {v : Value} {l : List Rx} (h : RL w v l) : ∃ p c, v = .slice p l.length c := by
  obtain ⟨_, _, ⟨a, c, rfl, rfl⟩ | ⟨g, off, c, rfl, _⟩⟩ := h
  · exact ⟨_, _, rfl⟩
  · exact ⟨_, _, rfl⟩
/-- What is at a place of it. -/
theorem RL.at {w : World} {p : Option Addr} {n c : Nat} {l : List Rx} (h : RL w (.slice p n c) l) (i : Nat) (hi : i < l.length) : ∃ g off, p = some ⟨g, off, none⟩ ∧ g < w.heap.size ∧ w.cell? ⟨g, off + i * 3, none⟩ = some (.string l[i].x.na) ∧ w.cell? ⟨g, off + i * 3 + 1, none⟩ = some (.slice l[i].tp l[i].x.n l[i].tc) ∧ w.cell? ⟨g, off + i * 3 + 2, none⟩ = some (.int .i64 l[i].at_) := by
  obtain ⟨_, _, ⟨a, c, hv, rfl⟩ | ⟨g, off, c', hv, hg, _, ht⟩⟩ := h
  · simp at hi
  · cases hv
    exact ⟨g, off, rfl, hg, ht i hi⟩

/-- A list that is being made. -/
def ROut (B : Nat) (w : World) (ov : Value) (ps : List Rx) : Prop := w.ownsRow B 44 3 ov ps.length (ps.flatMap Rx.cells)
theorem ROut.nil (B : Nat) (w : World) : ROut B w (.slice none 0 0) [] := ⟨rfl, .inl ⟨rfl, rfl⟩⟩
theorem ROut.below {B : Nat} {w w' : World} {ov : Value} {ps : List Rx} (h : ROut B w ov ps) (hb : Below w.heap.size w w') : ROut B w' ov ps := own_below h hb
theorem cells_rx (ps : List Rx) (i : Nat) (hi : i < ps.length) : (ps.flatMap Rx.cells)[i * 3]? = some (.string ps[i].x.na) ∧ (ps.flatMap Rx.cells)[i * 3 + 1]? = some (.slice ps[i].tp ps[i].x.n ps[i].tc) ∧ (ps.flatMap Rx.cells)[i * 3 + 2]? = some (.int .i64 ps[i].at_) := by
  induction ps generalizing i with
  | nil => simp at hi
  | cons p ps ih =>
    cases i with
    | zero => simp [Rx.cells]
    | succ i =>
      have := ih i (by simpa using hi)
      have e1 : (i + 1) * 3 = i * 3 + 3 := by omega
      simp only [List.flatMap_cons, Rx.cells, List.cons_append, List.nil_append, e1, List.getElem?_cons_succ, List.getElem_cons_succ]
      exact this
theorem ROut.rl {B : Nat} {w : World} {ov : Value} {ps : List Rx} (h : ROut B w ov ps) (hl : ps.length ≤ 1073741824) (hok : ∀ r ∈ ps, r.Ok w) : RL w ov ps := by
  refine ⟨hl, hok, ?_⟩
  unfold ROut at h
  cases ps with
  | nil =>
    obtain ⟨a, c, rfl⟩ := own_slice h
    exact .inl ⟨a, c, rfl, rfl⟩
  | cons p ps =>
    obtain ⟨g, cap, rfl⟩ := own_shape (n := ps.length) h
    have h2 : g < w.heap.size ∧ ps.length + 1 ≤ cap := by
      obtain ⟨_, ⟨hv, _⟩ | ⟨g', cap', cur, hv, _, hc, hle, _⟩⟩ := h
      · cases hv
      · cases hv
        refine ⟨?_, hle⟩
        rcases Nat.lt_or_ge g w.heap.size with h' | h'
        · exact h'
        · simp [Array.getElem?_eq_none h'] at hc
    refine .inr ⟨g, 0, cap, by simp, h2.1, by simpa using h2.2, fun i hi => ?_⟩
    obtain ⟨c1, c2, c3⟩ := cells_rx (p :: ps) i hi
    have e : ∀ o, w.cell? ⟨g, 0 + o, none⟩ = w.cell? ⟨g, o, none⟩ := fun o => by rw [Nat.zero_add]
    refine ⟨?_, ?_, ?_⟩
    · rw [e]; exact own_cell h _ c1
    · rw [show (0 + i * 3 + 1) = i * 3 + 1 by omega]; exact own_cell h _ c2
    · rw [show (0 + i * 3 + 2) = i * 3 + 2 by omega]; exact own_cell h _ c3

theorem ROut.push {B : Nat} {w w' : World} {ps : List Rx} {r : Rx} {v' : Value} (h : w'.ownsRow B 44 3 v' (ps.length + 1) (ps.flatMap Rx.cells ++ [.string r.x.na, .slice r.tp r.x.n r.tc, .int .i64 r.at_])) (_ : w.heap.size ≤ w'.heap.size) : ROut B w' v' (ps ++ [r]) := by
  unfold ROut
  rw [List.length_append, List.flatMap_append]
  simpa [Rx.cells] using h

theorem with_mem {α : Type} (f : α → α → Int) (l : List α) (a : α) (y : α) (h : y ∈ withL f l a) : y = a ∨ y ∈ l := by
  have key : ∀ (l o : List α) (d : Bool), y ∈ (l.foldl (wstep f a) (o, d)).1 → y = a ∨ y ∈ l ∨ y ∈ o := by
    intro l
    induction l with
    | nil => intro o d h; exact Or.inr (Or.inr h)
    | cons x r ih =>
      intro o d h
      rw [List.foldl_cons, show wstep f a (o, d) x = ((wstep f a (o, d) x).1, (wstep f a (o, d) x).2) from rfl] at h
      rcases ih _ _ h with h | h | h
      · exact Or.inl h
      · exact Or.inr (Or.inl (by simp [h]))
      · have h2 : y = a ∨ y = x ∨ y ∈ o := by
          by_cases h1 : f a x < 0
          · cases d
            · simp [wstep, h1] at h; rcases h with h | h | h; exact Or.inr (Or.inr h); exact Or.inl h; exact Or.inr (Or.inl h)
            · simp [wstep, h1] at h; rcases h with h | h; exact Or.inr (Or.inr h); exact Or.inr (Or.inl h)
          · by_cases h3 : f a x = 0
            · cases d
              · simp [wstep, h3] at h; rcases h with h | h; exact Or.inr (Or.inr h); exact Or.inl h
              · simp [wstep, h3] at h; exact Or.inr (Or.inr h)
            · simp [wstep, h1, h3] at h; rcases h with h | h; exact Or.inr (Or.inr h); exact Or.inr (Or.inl h)
        rcases h2 with h | h | h
        · exact Or.inl h
        · exact Or.inr (Or.inl (by simp [h]))
        · exact Or.inr (Or.inr h)
  unfold withL wend at h
  split at h
  · rcases key l [] false h with h | h | h
    · exact Or.inl h
    · exact Or.inr h
    · simp at h
  · rcases List.mem_append.1 h with h | h
    · rcases key l [] false h with h | h | h
      · exact Or.inl h
      · exact Or.inr h
      · simp at h
    · exact Or.inl (by simpa using h)

theorem fold_next {l ps : List Rx} {k : Nat} {dn : Bool} {A X : Rx} {res : List Rx × Bool} (h : (ps, dn) = (l.take k).foldl (wstep cmpR A) ([], false)) (hlt : k < l.length) (he : l[k] = X) (hs : wstep cmpR A (ps, dn) X = res) : res = (l.take (k + 1)).foldl (wstep cmpR A) ([], false) := by
  rw [List.take_succ_eq_append_getElem hlt, List.foldl_append, ← h, he, ← hs]
  rfl

set_option maxRecDepth 100000 in
set_option maxHeartbeats 4000000 in
theorem with_any (v : Value) (l : List Rx) (a : Rx) (w : World) (h : RL w v l) (ha : a.Ok w) (hlen : l.length < 1073741824) :
    Calls Tryz.prog 92 #[v, a.val] w fun e w' => ∃ v', e = .returned v' ∧ RL w' v' (withL cmpR l a) ∧ Below w.heap.size w w' := by
  obtain ⟨p, c, rfl⟩ := h.shape
  obtain ⟨i4, hi4, hza4, hzb4, hzc4⟩ := info_parts (P := Tryz.prog) (e := 44) (z := .agg #[.string ⟨#[]⟩, .slice none 0 0, .int .i64 0]) (size := 3) (bytes := 48) (by kernel_rfl)
  have HL := hide h
  have HA := hide ha
  clear h ha
  obtain ⟨⟨na, n, t⟩, tp, tc, ap, q⟩ := a
  simp only [Rx.val]
  go_enter Tryz.func92, Tryz.ntmps92
  go_wp2_with fail
  have HB0 : Hid (Below w.heap.size w (w.alloc (.cells #[.string na, .slice tp n tc, .int .i64 ap] 44))) := (Below.refl _ _).alloc (Nat.le_refl _) _
  have HZ0 : Hid ((w.alloc (.cells #[.string na, .slice tp n tc, .int .i64 ap] 44)).heap.size = w.heap.size + 1) := by show _ = _; simp
  have b0 : (w.alloc (.cells #[.string na, .slice tp n tc, .int .i64 ap] 44)).cell? ⟨w.heap.size, 0, none⟩ = some (.string na) := by simp
  have b1 : (w.alloc (.cells #[.string na, .slice tp n tc, .int .i64 ap] 44)).cell? ⟨w.heap.size, 1, none⟩ = some (.slice tp n tc) := by simp
  have b2 : (w.alloc (.cells #[.string na, .slice tp n tc, .int .i64 ap] 44)).cell? ⟨w.heap.size, 2, none⟩ = some (.int .i64 ap) := by simp
  generalize w.alloc (.cells #[.string na, .slice tp n tc, .int .i64 ap] 44) = w1 at *
  go_loopw [5, 6, 7] (fun ov dv iv wr => ∃ (k : Nat) (ps : List Rx) (dn : Bool) (oa : Option Addr) (oc : Nat), ov = .slice oa ps.length oc ∧ dv = .bool dn ∧ iv = .int .i64 k ∧ k ≤ l.length ∧ ps.length ≤ k + dn.toNat ∧ Hid ((ps, dn) = (l.take k).foldl (wstep cmpR ⟨⟨na, n, t⟩, tp, tc, ap, q⟩) ([], false)) ∧ Hid (ROut w1.heap.size wr ov ps) ∧ Hid (Below w1.heap.size w1 wr)) (fun _ _ iv _ => l.length - (intOf iv).toNat)
  case atStart => exact ⟨0, [], false, none, 0, rfl, rfl, rfl, by omega, by simp, by show _ = _; simp, ROut.nil _ _, Below.refl _ _⟩
  case round =>
    obtain ⟨k, ps, dn, oa, oc, rfl, rfl, rfl, hk, hpk, HF, HO, HB⟩ := hrel
    have hzr := HB.out.size
    have hz1 : w.heap.size < w1.heap.size := by have := HZ0.out; omega
    have y0 := (HB.out.cell (p := ⟨w.heap.size, 0, none⟩) (show w.heap.size < w1.heap.size by omega)).trans b0
    have y1 := (HB.out.cell (p := ⟨w.heap.size, 1, none⟩) (show w.heap.size < w1.heap.size by omega)).trans b1
    have y2 := (HB.out.cell (p := ⟨w.heap.size, 2, none⟩) (show w.heap.size < w1.heap.size by omega)).trans b2
    by_cases hlt : k < l.length
    · obtain ⟨g, off, hp, hg, x0, x1, x2⟩ := HL.out.at k hlt
      subst hp
      have HWR : Hid (Below w.heap.size w wr) := HB0.out.trans (HB.out.mono (by omega))
      have z0 := (HWR.out.cell (p := ⟨g, off + k * 3, none⟩) hg).trans x0
      have z1 := (HWR.out.cell (p := ⟨g, off + k * 3 + 1, none⟩) hg).trans x1
      have z2 := (HWR.out.cell (p := ⟨g, off + k * 3 + 2, none⟩) hg).trans x2
      have hkz : (k : Int) < (l.length : Int) := by omega
      have hok := HL.out.2.1 _ (List.getElem_mem hlt)
      have HC := hide (fun wx (hb : Below w.heap.size w wx) => rorder_any na l[k].x.na tp l[k].tp n l[k].x.n tc l[k].tc ap l[k].at_ t l[k].x.t q l[k].q wx HA.out.n HA.out.na HA.out.tx (HA.out.some.below hb) (hok.some.below hb))
      have HK : Hid (l[k] = ⟨⟨l[k].x.na, l[k].x.n, l[k].x.t⟩, l[k].tp, l[k].tc, l[k].at_, l[k].q⟩) := rfl
      have X0 := hide x0
      have X1 := hide x1
      have X2 := hide x2
      clear hok x0 x1 x2
      generalize l[k].x.na = nb at *
      generalize l[k].x.n = m at *
      generalize l[k].x.t = tb at *
      generalize l[k].tp = tpb at *
      generalize l[k].tc = tcb at *
      generalize l[k].at_ = bp at *
      generalize l[k].q = qb at *
      go_upto_region 6 with fail
      refine wp_region_held_drew (S := (fun w' => w'.cell? ⟨w.heap.size, 0, none⟩ = some (.string na) ∧ w'.cell? ⟨w.heap.size, 1, none⟩ = some (.slice tp n tc) ∧ w'.cell? ⟨w.heap.size, 2, none⟩ = some (.int .i64 ap) ∧ w'.cell? ⟨g, off + k * 3, none⟩ = some (.string nb) ∧ w'.cell? ⟨g, off + k * 3 + 1, none⟩ = some (.slice tpb m tcb) ∧ w'.cell? ⟨g, off + k * 3 + 2, none⟩ = some (.int .i64 bp))) (by kernel_rfl) ⟨y0, y1, y2, z0, z1, z2⟩ (fun hHeld => ?_)
      refine wpAnyH_take (i := 0) (v := ?_) rfl (by kernel_rfl) (by kernel_rfl) (by kernel_rfl) (fun _ _ _ h => h) (Or.inl ⟨by rfl, ?_⟩) hHeld ?_
      rotate_left
      · intro w hSw
        obtain ⟨s0, s1, s2, s3, s4, s5⟩ := hSw
        go_simp
        try with_reducible rfl
      try simp only [Act.put, List.setIfInBounds_toArray]
      refine wpAnyH_take (i := 1) (v := ?_) rfl (by kernel_rfl) (by kernel_rfl) (by kernel_rfl) (fun _ _ _ h => h) (Or.inl ⟨by rfl, ?_⟩) hHeld ?_
      rotate_left
      · intro w hSw
        obtain ⟨s0, s1, s2, s3, s4, s5⟩ := hSw
        go_simp
        try with_reducible rfl
      try simp only [Act.put]
      refine wpAnyH_take (i := 2) (v := ?_) rfl (by kernel_rfl) (by kernel_rfl) (by kernel_rfl) (fun _ _ _ h => h) (Or.inl ⟨by rfl, ?_⟩) hHeld ?_
      rotate_left
      · intro w hSw
        obtain ⟨s0, s1, s2, s3, s4, s5⟩ := hSw
        go_simp
        try with_reducible rfl
      try simp only [Act.put]
      refine wpAnyH_take (i := 3) (v := ?_) rfl (by kernel_rfl) (by kernel_rfl) (by kernel_rfl) (fun _ _ _ h => h) (Or.inl ⟨by rfl, ?_⟩) hHeld ?_
      rotate_left
      · intro w hSw
        obtain ⟨s0, s1, s2, s3, s4, s5⟩ := hSw
        go_simp
        try with_reducible rfl
      try simp only [Act.put]
      refine wpAnyH_take (i := 4) (v := ?_) rfl (by kernel_rfl) (by kernel_rfl) (by kernel_rfl) (fun _ _ _ h => h) (Or.inl ⟨by rfl, ?_⟩) hHeld ?_
      rotate_left
      · intro w hSw
        obtain ⟨s0, s1, s2, s3, s4, s5⟩ := hSw
        go_simp
        try with_reducible rfl
      try simp only [Act.put]
      refine wpAnyH_ready (rs := [5]) (by kernel_rfl) (by simp) ?_
      refine AllReadyH.cons rfl (fun K hK => ?_) ?_
      · go_simp
        refine (HC.out _ (HWR.out.drew)).mono ?_
        rintro e w3 ⟨rfl, hb3⟩
        have hb3' : Below wr.heap.size wr w3 := (Below.refl _ _).drew.trans hb3
        have HW3 : Hid (Below w.heap.size w w3) := HWR.out.trans (hb3'.mono HWR.out.size)
        have HB3 : Hid (Below w1.heap.size w1 w3) := HB.out.trans (hb3'.mono hzr)
        have HO3 := hide (HO.out.below hb3')
        have hz3 : w1.heap.size ≤ w3.heap.size := HB3.out.size
        have q0 := (HB3.out.cell (p := ⟨w.heap.size, 0, none⟩) (show w.heap.size < w1.heap.size by omega)).trans b0
        have q1 := (HB3.out.cell (p := ⟨w.heap.size, 1, none⟩) (show w.heap.size < w1.heap.size by omega)).trans b1
        have q2 := (HB3.out.cell (p := ⟨w.heap.size, 2, none⟩) (show w.heap.size < w1.heap.size by omega)).trans b2
        have r0 := (hb3'.cell (p := ⟨g, off + k * 3, none⟩) (by show g < _; omega)).trans z0
        have r1 := (hb3'.cell (p := ⟨g, off + k * 3 + 1, none⟩) (by show g < _; omega)).trans z1
        have r2 := (hb3'.cell (p := ⟨g, off + k * 3 + 2, none⟩) (by show g < _; omega)).trans z2
        refine hK.out _ _ ⟨q0, q1, q2, r0, r1, r2⟩ (fun hHeld => ?_)
        clear hK K hb3 hb3' HC
        try simp only [Act.put, List.setIfInBounds_toArray]
        refine wpAnyH_take (i := 6) (v := ?_) rfl (by kernel_rfl) (by kernel_rfl) (by kernel_rfl) (fun _ _ _ h => h) (Or.inl ⟨by rfl, ?_⟩) hHeld ?_
        rotate_left
        · intro w hSw
          obtain ⟨s0, s1, s2, s3, s4, s5⟩ := hSw
          go_simp
          try with_reducible rfl
        try simp only [Act.put]
        refine wpAnyH_done (by kernel_rfl) ?_ _
        have HR3 := hide (cmpX_cmp.three ⟨na, n, t⟩ ⟨nb, m, tb⟩)
        have HRE : Hid (cmpX ⟨na, n, t⟩ ⟨nb, m, tb⟩ = cmpA na nb n m t tb) := rfl
        generalize cmpA na nb n m t tb = r at *
        have hr3 := HR3.out
        rw [HRE.out] at hr3
        clear HR3
        rcases hr3 with rfl | rfl | rfl
        · cases dn
          · clear y0 y1 y2 z0 z1 z2
            simp only [Bool.toNat_false] at hpk
            go_wp2_with (at_builtin; refine wpList_append_lies _ rfl _ _ 66 rfl w1.heap.size 44 i4 (.agg #[.string ⟨#[]⟩, .slice none 0 0, .int .i64 0]) 3 48 Tryz.underlying66 hi4 hza4 hzb4 hzc4 rfl (by omega) _ _ _ rfl (HO3.out.below ((Below.refl _ _).alloc (Nat.le_refl _) _)) ⟨w3.heap.size, 0, none⟩ 1 1 [.string na, .slice tp n tc, .int .i64 ap] rfl rfl (World.news_of_block (cs := #[.string na, .slice tp n tc, .int .i64 ap]) (t := 44) (fr := (0, 0)) (heap_alloc_new w3 _)) (by simp [Value.oneCell']) (by omega) (by unfold maxLen; omega) (by omega) (by simp; omega) (w3.heap.size + 1) (by simp) ?_)
            intro g5 cap5 w5 hown5 hgr5 hat5 hlt5
            have HO5 : Hid (ROut w1.heap.size w5 (.slice (some ⟨g5, 0, none⟩) (ps.length + 1) cap5) (ps ++ [(⟨⟨na, n, t⟩, tp, tc, ap, q⟩ : Rx)])) := ROut.push (w := w5) (ps := ps) (r := ⟨⟨na, n, t⟩, tp, tc, ap, q⟩) (by first | exact hown5 | (rw [List.length_append]; exact hown5)) (Nat.le_refl _)
            have HB5 : Hid (Below w1.heap.size w1 w5) := (HB3.out.alloc (by omega) _).grown hgr5 (by simp; omega) (fun b hb => (HO3.out.lt b hb).1)
            have hz5 := HB5.out.size
            clear hown5 hgr5
            have HW5 : Hid (Below w.heap.size w w5) := HB0.out.trans (HB5.out.mono (by omega))
            have p0 := (HW5.out.cell (p := ⟨g, off + k * 3, none⟩) hg).trans X0.out
            have p1 := (HW5.out.cell (p := ⟨g, off + k * 3 + 1, none⟩) hg).trans X1.out
            have p2 := (HW5.out.cell (p := ⟨g, off + k * 3 + 2, none⟩) hg).trans X2.out
            have hg5w : g < w5.heap.size := by omega
            have hw5 : ∀ o, (w5.alloc o).ownsRow w1.heap.size 44 3 (.slice (some ⟨g5, 0, none⟩) (ps.length + 1) cap5) (ps.length + 1) ((ps ++ [(⟨⟨na, n, t⟩, tp, tc, ap, q⟩ : Rx)]).flatMap Rx.cells) := fun o => by
              have h := HO5.out.below ((Below.refl _ _).alloc (Nat.le_refl _) o)
              unfold ROut at h
              rw [List.length_append] at h
              exact h
            have HOW := hide hw5
            clear q0 q1 q2 r0 r1 r2 hw5
            go_wp2_with (at_builtin; refine wpList_append_lies _ rfl _ _ 66 rfl w1.heap.size 44 i4 (.agg #[.string ⟨#[]⟩, .slice none 0 0, .int .i64 0]) 3 48 Tryz.underlying66 hi4 hza4 hzb4 hzc4 rfl (by omega) _ _ _ rfl (HOW.out _) ⟨w5.heap.size, 0, none⟩ 1 1 [.string nb, .slice tpb m tcb, .int .i64 bp] rfl rfl (World.news_of_block (cs := #[.string nb, .slice tpb m tcb, .int .i64 bp]) (t := 44) (fr := (0, 0)) (heap_alloc_new w5 _)) (by simp [Value.oneCell']) (by omega) (by unfold maxLen; omega) (by omega) (by simp; omega) (w5.heap.size + 1) (by simp) ?_)
            intro g6 cap6 w6 hown6 hgr6 hat6 hlt6
            have HO6 : Hid (ROut w1.heap.size w6 (.slice (some ⟨g6, 0, none⟩) (ps.length + 1 + 1) cap6) ((ps ++ [(⟨⟨na, n, t⟩, tp, tc, ap, q⟩ : Rx)]) ++ [(⟨⟨nb, m, tb⟩, tpb, tcb, bp, qb⟩ : Rx)])) := ROut.push (w := w6) (ps := (ps ++ [(⟨⟨na, n, t⟩, tp, tc, ap, q⟩ : Rx)])) (r := ⟨⟨nb, m, tb⟩, tpb, tcb, bp, qb⟩) (by rw [List.length_append, List.flatMap_append]; simpa [List.append_assoc] using hown6) (Nat.le_refl _)
            have HB6 : Hid (Below w1.heap.size w1 w6) := (HB5.out.alloc (by omega) _).grown hgr6 (by simp; omega) (fun b hb => (HO5.out.lt b hb).1)
            have hz6 := HB6.out.size
            clear hown6 hgr6
            go_wp2_with fail
            refine ⟨⟨k + 1, (ps ++ [(⟨⟨na, n, t⟩, tp, tc, ap, q⟩ : Rx)] ++ [(⟨⟨nb, m, tb⟩, tpb, tcb, bp, qb⟩ : Rx)]), true, some ⟨g6, 0, none⟩, cap6, by first | rfl | simp, rfl, by go_num, by omega, by simp only [Bool.toNat_true, List.length_append, List.length_cons, List.length_nil]; omega, ?_, HO6, HB6⟩, by simp [intOf]; omega⟩
            exact fold_next (res := ((ps ++ [(⟨⟨na, n, t⟩, tp, tc, ap, q⟩ : Rx)] ++ [(⟨⟨nb, m, tb⟩, tpb, tcb, bp, qb⟩ : Rx)]), true)) HF.out hlt HK.out (by simp [wstep, cmpR, HRE.out])
          · clear y0 y1 y2 z0 z1 z2
            simp only [Bool.toNat_true] at hpk
            have hg3w : g < w3.heap.size := by omega
            go_wp2_with (at_builtin; refine wpList_append_lies _ rfl _ _ 66 rfl w1.heap.size 44 i4 (.agg #[.string ⟨#[]⟩, .slice none 0 0, .int .i64 0]) 3 48 Tryz.underlying66 hi4 hza4 hzb4 hzc4 rfl (by omega) _ _ _ rfl (HO3.out.below ((Below.refl _ _).alloc (Nat.le_refl _) _)) ⟨w3.heap.size, 0, none⟩ 1 1 [.string nb, .slice tpb m tcb, .int .i64 bp] rfl rfl (World.news_of_block (cs := #[.string nb, .slice tpb m tcb, .int .i64 bp]) (t := 44) (fr := (0, 0)) (heap_alloc_new w3 _)) (by simp [Value.oneCell']) (by omega) (by unfold maxLen; omega) (by omega) (by simp; omega) (w3.heap.size + 1) (by simp) ?_)
            intro g5 cap5 w5 hown5 hgr5 hat5 hlt5
            have HO5 : Hid (ROut w1.heap.size w5 (.slice (some ⟨g5, 0, none⟩) (ps.length + 1) cap5) (ps ++ [(⟨⟨nb, m, tb⟩, tpb, tcb, bp, qb⟩ : Rx)])) := ROut.push (w := w5) (ps := ps) (r := ⟨⟨nb, m, tb⟩, tpb, tcb, bp, qb⟩) (by first | exact hown5 | (rw [List.length_append]; exact hown5)) (Nat.le_refl _)
            have HB5 : Hid (Below w1.heap.size w1 w5) := (HB3.out.alloc (by omega) _).grown hgr5 (by simp; omega) (fun b hb => (HO3.out.lt b hb).1)
            have hz5 := HB5.out.size
            clear hown5 hgr5
            go_wp2_with fail
            refine ⟨⟨k + 1, (ps ++ [(⟨⟨nb, m, tb⟩, tpb, tcb, bp, qb⟩ : Rx)]), true, some ⟨g5, 0, none⟩, cap5, by first | rfl | simp, rfl, by go_num, by omega, by simp only [Bool.toNat_true, List.length_append, List.length_cons, List.length_nil]; omega, ?_, HO5, HB5⟩, by simp [intOf]; omega⟩
            exact fold_next (res := ((ps ++ [(⟨⟨nb, m, tb⟩, tpb, tcb, bp, qb⟩ : Rx)]), true)) HF.out hlt HK.out (by simp [wstep, cmpR, HRE.out])
        · cases dn
          · clear y0 y1 y2 z0 z1 z2
            simp only [Bool.toNat_false] at hpk
            go_wp2_with (at_builtin; refine wpList_append_lies _ rfl _ _ 66 rfl w1.heap.size 44 i4 (.agg #[.string ⟨#[]⟩, .slice none 0 0, .int .i64 0]) 3 48 Tryz.underlying66 hi4 hza4 hzb4 hzc4 rfl (by omega) _ _ _ rfl (HO3.out.below ((Below.refl _ _).alloc (Nat.le_refl _) _)) ⟨w3.heap.size, 0, none⟩ 1 1 [.string na, .slice tp n tc, .int .i64 ap] rfl rfl (World.news_of_block (cs := #[.string na, .slice tp n tc, .int .i64 ap]) (t := 44) (fr := (0, 0)) (heap_alloc_new w3 _)) (by simp [Value.oneCell']) (by omega) (by unfold maxLen; omega) (by omega) (by simp; omega) (w3.heap.size + 1) (by simp) ?_)
            intro g5 cap5 w5 hown5 hgr5 hat5 hlt5
            have HO5 : Hid (ROut w1.heap.size w5 (.slice (some ⟨g5, 0, none⟩) (ps.length + 1) cap5) (ps ++ [(⟨⟨na, n, t⟩, tp, tc, ap, q⟩ : Rx)])) := ROut.push (w := w5) (ps := ps) (r := ⟨⟨na, n, t⟩, tp, tc, ap, q⟩) (by first | exact hown5 | (rw [List.length_append]; exact hown5)) (Nat.le_refl _)
            have HB5 : Hid (Below w1.heap.size w1 w5) := (HB3.out.alloc (by omega) _).grown hgr5 (by simp; omega) (fun b hb => (HO3.out.lt b hb).1)
            have hz5 := HB5.out.size
            clear hown5 hgr5
            go_wp2_with fail
            refine ⟨⟨k + 1, (ps ++ [(⟨⟨na, n, t⟩, tp, tc, ap, q⟩ : Rx)]), true, some ⟨g5, 0, none⟩, cap5, by first | rfl | simp, rfl, by go_num, by omega, by simp only [Bool.toNat_true, List.length_append, List.length_cons, List.length_nil]; omega, ?_, HO5, HB5⟩, by simp [intOf]; omega⟩
            exact fold_next (res := ((ps ++ [(⟨⟨na, n, t⟩, tp, tc, ap, q⟩ : Rx)]), true)) HF.out hlt HK.out (by simp [wstep, cmpR, HRE.out])
          · clear y0 y1 y2 z0 z1 z2
            simp only [Bool.toNat_true] at hpk
            go_wp2_with fail
            refine ⟨⟨k + 1, ps, true, oa, oc, by first | rfl | simp, rfl, by go_num, by omega, by simp only [Bool.toNat_true]; omega, ?_, HO3, HB3⟩, by simp [intOf]; omega⟩
            exact fold_next (res := (ps, true)) HF.out hlt HK.out (by simp [wstep, cmpR, HRE.out])
        · cases dn
          · clear y0 y1 y2 z0 z1 z2
            simp only [Bool.toNat_false] at hpk
            have hg3w : g < w3.heap.size := by omega
            go_wp2_with (at_builtin; refine wpList_append_lies _ rfl _ _ 66 rfl w1.heap.size 44 i4 (.agg #[.string ⟨#[]⟩, .slice none 0 0, .int .i64 0]) 3 48 Tryz.underlying66 hi4 hza4 hzb4 hzc4 rfl (by omega) _ _ _ rfl (HO3.out.below ((Below.refl _ _).alloc (Nat.le_refl _) _)) ⟨w3.heap.size, 0, none⟩ 1 1 [.string nb, .slice tpb m tcb, .int .i64 bp] rfl rfl (World.news_of_block (cs := #[.string nb, .slice tpb m tcb, .int .i64 bp]) (t := 44) (fr := (0, 0)) (heap_alloc_new w3 _)) (by simp [Value.oneCell']) (by omega) (by unfold maxLen; omega) (by omega) (by simp; omega) (w3.heap.size + 1) (by simp) ?_)
            intro g5 cap5 w5 hown5 hgr5 hat5 hlt5
            have HO5 : Hid (ROut w1.heap.size w5 (.slice (some ⟨g5, 0, none⟩) (ps.length + 1) cap5) (ps ++ [(⟨⟨nb, m, tb⟩, tpb, tcb, bp, qb⟩ : Rx)])) := ROut.push (w := w5) (ps := ps) (r := ⟨⟨nb, m, tb⟩, tpb, tcb, bp, qb⟩) (by first | exact hown5 | (rw [List.length_append]; exact hown5)) (Nat.le_refl _)
            have HB5 : Hid (Below w1.heap.size w1 w5) := (HB3.out.alloc (by omega) _).grown hgr5 (by simp; omega) (fun b hb => (HO3.out.lt b hb).1)
            have hz5 := HB5.out.size
            clear hown5 hgr5
            go_wp2_with fail
            refine ⟨⟨k + 1, (ps ++ [(⟨⟨nb, m, tb⟩, tpb, tcb, bp, qb⟩ : Rx)]), false, some ⟨g5, 0, none⟩, cap5, by first | rfl | simp, rfl, by go_num, by omega, by simp only [Bool.toNat_false, List.length_append, List.length_cons, List.length_nil]; omega, ?_, HO5, HB5⟩, by simp [intOf]; omega⟩
            exact fold_next (res := ((ps ++ [(⟨⟨nb, m, tb⟩, tpb, tcb, bp, qb⟩ : Rx)]), false)) HF.out hlt HK.out (by simp [wstep, cmpR, HRE.out])
          · clear y0 y1 y2 z0 z1 z2
            simp only [Bool.toNat_true] at hpk
            have hg3w : g < w3.heap.size := by omega
            go_wp2_with (at_builtin; refine wpList_append_lies _ rfl _ _ 66 rfl w1.heap.size 44 i4 (.agg #[.string ⟨#[]⟩, .slice none 0 0, .int .i64 0]) 3 48 Tryz.underlying66 hi4 hza4 hzb4 hzc4 rfl (by omega) _ _ _ rfl (HO3.out.below ((Below.refl _ _).alloc (Nat.le_refl _) _)) ⟨w3.heap.size, 0, none⟩ 1 1 [.string nb, .slice tpb m tcb, .int .i64 bp] rfl rfl (World.news_of_block (cs := #[.string nb, .slice tpb m tcb, .int .i64 bp]) (t := 44) (fr := (0, 0)) (heap_alloc_new w3 _)) (by simp [Value.oneCell']) (by omega) (by unfold maxLen; omega) (by omega) (by simp; omega) (w3.heap.size + 1) (by simp) ?_)
            intro g5 cap5 w5 hown5 hgr5 hat5 hlt5
            have HO5 : Hid (ROut w1.heap.size w5 (.slice (some ⟨g5, 0, none⟩) (ps.length + 1) cap5) (ps ++ [(⟨⟨nb, m, tb⟩, tpb, tcb, bp, qb⟩ : Rx)])) := ROut.push (w := w5) (ps := ps) (r := ⟨⟨nb, m, tb⟩, tpb, tcb, bp, qb⟩) (by first | exact hown5 | (rw [List.length_append]; exact hown5)) (Nat.le_refl _)
            have HB5 : Hid (Below w1.heap.size w1 w5) := (HB3.out.alloc (by omega) _).grown hgr5 (by simp; omega) (fun b hb => (HO3.out.lt b hb).1)
            have hz5 := HB5.out.size
            clear hown5 hgr5
            go_wp2_with fail
            refine ⟨⟨k + 1, (ps ++ [(⟨⟨nb, m, tb⟩, tpb, tcb, bp, qb⟩ : Rx)]), true, some ⟨g5, 0, none⟩, cap5, by first | rfl | simp, rfl, by go_num, by omega, by simp only [Bool.toNat_true, List.length_append, List.length_cons, List.length_nil]; omega, ?_, HO5, HB5⟩, by simp [intOf]; omega⟩
            exact fold_next (res := ((ps ++ [(⟨⟨nb, m, tb⟩, tpb, tcb, bp, qb⟩ : Rx)]), true)) HF.out hlt HK.out (by simp [wstep, cmpR, HRE.out])
      exact AllReadyH.nil
    · obtain rfl : k = l.length := by omega
      have hfo := HF.out
      rw [List.take_length] at hfo
      have HFO := hide hfo
      clear hfo HF
      have HOK : Hid (∀ wx, Below w1.heap.size w1 wx → ∀ r ∈ withL cmpR l ⟨⟨na, n, t⟩, tp, tc, ap, q⟩, r.Ok wx) := fun wx hb r hr => by
        have hb' : Below w.heap.size w wx := HB0.out.trans (hb.mono (by omega))
        rcases with_mem cmpR l _ r hr with rfl | h1
        · exact HA.out.below hb'
        · exact (HL.out.2.1 r h1).below hb'
      cases dn
      · simp only [Bool.toNat_false] at hpk
        go_wp2_with (at_builtin; refine wpList_append_lies _ rfl _ _ 66 rfl w1.heap.size 44 i4 (.agg #[.string ⟨#[]⟩, .slice none 0 0, .int .i64 0]) 3 48 Tryz.underlying66 hi4 hza4 hzb4 hzc4 rfl (by omega) _ _ _ rfl (HO.out.below ((Below.refl _ _).alloc (Nat.le_refl _) _)) ⟨wr.heap.size, 0, none⟩ 1 1 [.string na, .slice tp n tc, .int .i64 ap] rfl rfl (World.news_of_block (cs := #[.string na, .slice tp n tc, .int .i64 ap]) (t := 44) (fr := (0, 0)) (heap_alloc_new wr _)) (by simp [Value.oneCell']) (by omega) (by unfold maxLen; omega) (by omega) (by simp; omega) (wr.heap.size + 1) (by simp) ?_)
        intro g5 cap5 w5 hown5 hgr5 hat5 hlt5
        have HO5 : Hid (ROut w1.heap.size w5 (.slice (some ⟨g5, 0, none⟩) (ps.length + 1) cap5) (ps ++ [(⟨⟨na, n, t⟩, tp, tc, ap, q⟩ : Rx)])) := ROut.push (w := w5) (ps := ps) (r := ⟨⟨na, n, t⟩, tp, tc, ap, q⟩) hown5 (Nat.le_refl _)
        have HB5 : Hid (Below w1.heap.size w1 w5) := (HB.out.alloc (by omega) _).grown hgr5 (by simp; omega) (fun b hb => (HO.out.lt b hb).1)
        clear hown5 hgr5
        go_wp2_with fail
        have e : withL cmpR l (⟨⟨na, n, t⟩, tp, tc, ap, q⟩ : Rx) = ps ++ [(⟨⟨na, n, t⟩, tp, tc, ap, q⟩ : Rx)] := by
          unfold withL
          rw [← HFO.out]
          rfl
        refine bodyPost_ret (v := .slice (some ⟨g5, 0, none⟩) (ps.length + 1) cap5) (by simp [results, go_sem]) rfl ⟨_, rfl, ?_, HB0.out.trans (HB5.out.mono (by omega))⟩
        have hokw := HOK.out _ HB5.out
        rw [e] at hokw ⊢
        exact HO5.out.rl (by simp; omega) hokw
      · simp only [Bool.toNat_true] at hpk
        go_wp2_with fail
        have e : withL cmpR l (⟨⟨na, n, t⟩, tp, tc, ap, q⟩ : Rx) = ps := by
          unfold withL
          rw [← HFO.out]
          rfl
        refine bodyPost_ret (v := .slice oa ps.length oc) (by simp [results, go_sem]) rfl ⟨_, rfl, ?_, HB0.out.trans (HB.out.mono (by omega))⟩
        have hokw := HOK.out _ HB.out
        rw [e] at hokw ⊢
        exact HO.out.rl (by omega) hokw
end Go.Proofs.YtfiipfcdddaceaaGreatDoor

namespace Go.Proofs.YtfiipfcdddaceaaGreatDoor
open Go.RowKit Go.Sort Go.Shelf

set_option maxRecDepth 100000 in
set_option maxHeartbeats 4000000 in
theorem runion_any (va vb : Value) (la lb : List Rx) (w : World) (ha : RL w va la) (hb : RL w vb lb) (hlen : la.length + lb.length < 1073741824) :
    Calls Tryz.prog 44 #[va, vb] w fun e w' => ∃ v' out, e = .returned v' ∧ RL w' v' out ∧ Below w.heap.size w w' ∧ Laid cmpR (la ++ lb) out := by
  obtain ⟨pa, ca, rfl⟩ := ha.shape
  obtain ⟨pb, cb, rfl⟩ := hb.shape
  have HA := hide ha
  have HB := hide hb
  clear ha hb
  go_enter Tryz.func44, Tryz.ntmps44
  go_wp2_with fail
  go_loopw [5, 6] (fun ov iv wr => ∃ (k : Nat) (out : List Rx) (oa : Option Addr) (oc : Nat), ov = .slice oa out.length oc ∧ iv = .int .i64 k ∧ k ≤ la.length ∧ Hid (RL wr ov out) ∧ Hid (Laid cmpR (la.take k) out) ∧ Hid (Below w.heap.size w wr)) (fun _ iv _ => la.length - (intOf iv).toNat)
  case atStart => exact ⟨0, [], none, 0, rfl, rfl, by omega, ⟨by simp, fun r hr => by simp at hr, .inl ⟨none, 0, rfl, rfl⟩⟩, by show Laid _ _ _; simpa using Laid.zero, Below.refl _ _⟩
  case round =>
    obtain ⟨k, out, oa, oc, rfl, rfl, hk, HO, HL, HW⟩ := hrel
    have hzr := HW.out.size
    by_cases hlt : k < la.length
    · obtain ⟨g, off, hp, hg, x0, x1, x2⟩ := HA.out.at k hlt
      subst hp
      have z0 := (HW.out.cell (p := ⟨g, off + k * 3, none⟩) hg).trans x0
      have z1 := (HW.out.cell (p := ⟨g, off + k * 3 + 1, none⟩) hg).trans x1
      have z2 := (HW.out.cell (p := ⟨g, off + k * 3 + 2, none⟩) hg).trans x2
      have hkz : (k : Int) < (la.length : Int) := by omega
      have hgr : g < wr.heap.size := by omega
      have hol := HL.out.len
      have HC := hide (with_any _ out la[k] wr HO.out ((HA.out.2.1 _ (List.getElem_mem hlt)).below HW.out) (by simp only [List.length_take] at hol; omega))
      simp only [Rx.val] at HC
      have HN : Hid (Laid cmpR (la.take (k + 1)) (withL cmpR out la[k])) := by
        have h := HL.out.snoc cmpR_cmp la[k]
        rw [List.take_succ_eq_append_getElem hlt]
        show Laid _ _ _
        simpa [List.append_assoc] using h
      clear x0 x1 x2 hol
      generalize withL cmpR out la[k] = out2 at *
      generalize la[k].x.na = nb at *
      generalize la[k].x.n = m at *
      generalize la[k].tp = tpb at *
      generalize la[k].tc = tcb at *
      generalize la[k].at_ = bp at *
      go_wp2_with fail
      refine HC.out.mono ?_
      rintro e w3 ⟨v3, rfl, hrl3, hb3⟩
      obtain ⟨p3, c3, rfl⟩ := hrl3.shape
      have HR3 := hide hrl3
      have HW3 : Hid (Below w.heap.size w w3) := HW.out.trans (hb3.mono hzr)
      clear hrl3 hb3
      go_wp2_with fail
      exact ⟨⟨k + 1, out2, p3, c3, rfl, by go_num, by omega, HR3, HN, HW3⟩, by simp [intOf]; omega⟩
    · obtain rfl : k = la.length := by omega
      have HL1 : Hid (Laid cmpR la out) := by have h := HL.out; rw [List.take_length] at h; exact h
      have HBR := hide (HB.out.below HW.out)
      have HO1 := HO
      have HW1 := HW
      clear HL HO HW
      go_wp2_with fail
      go_loopw [5, 7] (fun ov iv wr => ∃ (k : Nat) (out : List Rx) (oa : Option Addr) (oc : Nat), ov = .slice oa out.length oc ∧ iv = .int .i64 k ∧ k ≤ lb.length ∧ Hid (RL wr ov out) ∧ Hid (Laid cmpR (la ++ lb.take k) out) ∧ Hid (Below w.heap.size w wr)) (fun _ iv _ => lb.length - (intOf iv).toNat)
      case atStart => exact ⟨0, out, oa, oc, rfl, rfl, by omega, HO1, by show Laid _ _ _; simpa using HL1.out, HW1⟩
      case round =>
        obtain ⟨k, out, oa, oc, rfl, rfl, hk, HO, HL, HW⟩ := hrel
        have hzr := HW.out.size
        by_cases hlt : k < lb.length
        · obtain ⟨g, off, hp, hg, x0, x1, x2⟩ := HB.out.at k hlt
          subst hp
          have z0 := (HW.out.cell (p := ⟨g, off + k * 3, none⟩) hg).trans x0
          have z1 := (HW.out.cell (p := ⟨g, off + k * 3 + 1, none⟩) hg).trans x1
          have z2 := (HW.out.cell (p := ⟨g, off + k * 3 + 2, none⟩) hg).trans x2
          have hkz : (k : Int) < (lb.length : Int) := by omega
          have hgr : g < wr.heap.size := by omega
          have hol := HL.out.len
          have HC := hide (with_any _ out lb[k] wr HO.out ((HB.out.2.1 _ (List.getElem_mem hlt)).below HW.out) (by simp only [List.length_append, List.length_take] at hol; omega))
          simp only [Rx.val] at HC
          have HN : Hid (Laid cmpR (la ++ lb.take (k + 1)) (withL cmpR out lb[k])) := by
            have h := HL.out.snoc cmpR_cmp lb[k]
            rw [List.take_succ_eq_append_getElem hlt]
            show Laid _ _ _
            simpa [List.append_assoc] using h
          clear x0 x1 x2 hol
          generalize withL cmpR out lb[k] = out2 at *
          generalize lb[k].x.na = nb at *
          generalize lb[k].x.n = m at *
          generalize lb[k].tp = tpb at *
          generalize lb[k].tc = tcb at *
          generalize lb[k].at_ = bp at *
          go_wp2_with fail
          refine HC.out.mono ?_
          rintro e w3 ⟨v3, rfl, hrl3, hb3⟩
          obtain ⟨p3, c3, rfl⟩ := hrl3.shape
          have HR3 := hide hrl3
          have HW3 : Hid (Below w.heap.size w w3) := HW.out.trans (hb3.mono hzr)
          clear hrl3 hb3
          go_wp2_with fail
          exact ⟨⟨k + 1, out2, p3, c3, rfl, by go_num, by omega, HR3, HN, HW3⟩, by simp [intOf]; omega⟩
        · obtain rfl : k = lb.length := by omega
          have HL2 : Hid (Laid cmpR (la ++ lb) out) := by have h := HL.out; rw [List.take_length] at h; exact h
          go_wp2_with fail
          exact bodyPost_ret (v := .slice oa out.length oc) (by simp [results, go_sem]) rfl ⟨_, out, rfl, HO.out, HW.out, HL2.out⟩
end Go.Proofs.YtfiipfcdddaceaaGreatDoor
