import Derived.Test.YtfiipfcdddaceaaGreatDoorJg
import Derived.Test.YtfiipfcdddaceaaGreatDoorSt
import Derived.Shelf.SlSortCmp.KitK
namespace Go.Proofs.YtfiipfcdddaceaaGreatDoor
open Go.Sort

/-- An atom: its name, its terms. -/
structure Atm where
  na : ByteArray
  n : Nat
  t : Nat → Tm
def cmpX (x y : Atm) : Int := cmpA x.na y.na x.n y.n x.t y.t
theorem cmpX_cmp : Cmp cmpX := by
  have e : cmpX = fun x y : Atm => cmpAt (x.na, tlist x.t x.n) (y.na, tlist y.t y.n) := by
    funext x y; exact cmpA_eq _ _ _ _ _ _
  rw [e]
  exact on_cmp cmpAt_cmp fun x : Atm => (x.na, tlist x.t x.n)

section
variable {α : Type} {f : α → α → Int}

theorem Cmp.swap0 (h : Cmp f) {a b : α} (k : f a b = 0) : f b a = 0 := by have := h.turn a b; omega
theorem Cmp.right0 (h : Cmp f) {a b : α} (c : α) (k : f a b = 0) : f c a = f c b := by
  rw [h.turn c a, h.turn c b, h.zero a b c k]
theorem Cmp.lt_of (h : Cmp f) {a b : α} (k : f a b < 0) : f a b = -1 := by have := h.three a b; omega
theorem Cmp.le_lt (h : Cmp f) {a b c : α} (k : f a b ≤ 0) (l : f b c = -1) : f a c = -1 := by
  rcases h.three a b with h1 | h1 | h1
  · exact h.less a b c h1 l
  · rw [h.zero a b c h1]; exact l
  · omega
theorem Cmp.lt_le (h : Cmp f) {a b c : α} (k : f a b = -1) (l : f b c ≤ 0) : f a c = -1 := by
  rcases h.three b c with h1 | h1 | h1
  · exact h.less a b c k h1
  · rw [← h.right0 a h1]; exact k
  · omega

theorem Cmp.swo (h : Cmp f) : SWO (ltOf f) := by
  refine ⟨fun x => ?_, fun x y z a b => ?_, fun x y z a b => ?_⟩
  · unfold ltOf; rw [h.refl]; rfl
  · unfold ltOf at *
    simp only [decide_eq_true_eq] at *
    have := h.less x y z (h.lt_of a) (h.lt_of b)
    omega
  · unfold ltOf at *
    simp only [decide_eq_false_iff_not] at *
    intro c
    have c1 := h.lt_of c
    have t1 := h.turn x y
    have t2 := h.turn y z
    have t3 := h.turn x z
    have := h.le_lt (a := y) (b := x) (c := z) (by omega) c1
    omega

/-- It is in the list. -/
def Mem (f : α → α → Int) (l : List α) (x : α) : Prop := ∃ y ∈ l, f y x = 0
/-- Rising. -/
def Str (f : α → α → Int) (l : List α) : Prop := l.Pairwise fun a b => f a b = -1

theorem Mem.app (l m : List α) (x : α) : Mem f (l ++ m) x ↔ Mem f l x ∨ Mem f m x := by
  unfold Mem
  constructor
  · rintro ⟨y, hy, h⟩
    rcases List.mem_append.1 hy with h1 | h1
    · exact Or.inl ⟨y, h1, h⟩
    · exact Or.inr ⟨y, h1, h⟩
  · rintro (⟨y, hy, h⟩ | ⟨y, hy, h⟩)
    · exact ⟨y, List.mem_append.2 (Or.inl hy), h⟩
    · exact ⟨y, List.mem_append.2 (Or.inr hy), h⟩

theorem str_same (hf : Cmp f) : ∀ (a b : List α), Str f a → Str f b → (∀ x, Mem f a x ↔ Mem f b x) → a.length = b.length ∧ ∀ i (h1 : i < a.length) (h2 : i < b.length), f a[i] b[i] = 0
  | [], [], _, _, _ => ⟨rfl, fun i h1 => by simp at h1⟩
  | [], y :: b, _, _, h => by
    obtain ⟨z, hz, _⟩ := (h y).2 ⟨y, by simp, hf.refl y⟩
    simp at hz
  | x :: a, [], _, _, h => by
    obtain ⟨z, hz, _⟩ := (h x).1 ⟨x, by simp, hf.refl x⟩
    simp at hz
  | x :: a, y :: b, ha, hb, h => by
    obtain ⟨ha1, ha2⟩ := List.pairwise_cons.1 ha
    obtain ⟨hb1, hb2⟩ := List.pairwise_cons.1 hb
    have hxy : f x y = 0 := by
      obtain ⟨z, hz, hz0⟩ := (h x).1 ⟨x, by simp, hf.refl x⟩
      rcases List.mem_cons.1 hz with rfl | hz
      · exact hf.swap0 hz0
      · have c1 : f y x = -1 := by rw [← hf.right0 y hz0]; exact hb1 z hz
        obtain ⟨u, hu, hu0⟩ := (h y).2 ⟨y, by simp, hf.refl y⟩
        rcases List.mem_cons.1 hu with rfl | hu
        · exact hu0
        · have c2 : f x y = -1 := by rw [← hf.right0 x hu0]; exact ha1 u hu
          have := hf.turn x y
          omega
    have hrest : ∀ z, Mem f a z ↔ Mem f b z := fun z => by
      constructor
      · rintro ⟨u, hu, hu0⟩
        have c1 : f x z = -1 := by rw [← hf.right0 x hu0]; exact ha1 u hu
        obtain ⟨t, ht, ht0⟩ := (h z).1 ⟨u, by simp [hu], hu0⟩
        rcases List.mem_cons.1 ht with rfl | ht
        · rw [hf.zero _ _ z hxy] at c1; omega
        · exact ⟨t, ht, ht0⟩
      · rintro ⟨u, hu, hu0⟩
        have c1 : f y z = -1 := by rw [← hf.right0 y hu0]; exact hb1 u hu
        obtain ⟨t, ht, ht0⟩ := (h z).2 ⟨u, by simp [hu], hu0⟩
        rcases List.mem_cons.1 ht with rfl | ht
        · rw [← hf.zero _ _ z hxy] at c1; omega
        · exact ⟨t, ht, ht0⟩
    obtain ⟨h1, h2⟩ := str_same hf a b ha2 hb2 hrest
    refine ⟨by simp [h1], fun i hi hj => ?_⟩
    cases i with
    | zero => exact hxy
    | succ i => exact h2 i (by simpa using hi) (by simpa using hj)

theorem str_at {l : List α} (h : Str f l) (i j : Nat) (hij : i < j) (hj : j < l.length) : f (l[i]'(by omega)) l[j] = -1 :=
  List.pairwise_iff_getElem.1 h i j (by omega) hj hij

/-- The first of each run, so far. -/
structure Dd (f : α → α → Int) (s : Nat → α) (k : Nat) (out : List α) : Prop where
  str : Str f out
  src : ∀ y ∈ out, ∃ i, i < k ∧ y = s i
  cov : ∀ i, i < k → Mem f out (s i)

theorem Dd.zero (s : Nat → α) : Dd f s 0 [] := ⟨List.Pairwise.nil, fun y hy => by simp at hy, fun i hi => by omega⟩
theorem Dd.drop (hf : Cmp f) {s : Nat → α} {k : Nat} {out : List α} (h : Dd f s (k + 1) out) (h0 : f (s k) (s (k + 1)) = 0) : Dd f s (k + 2) out := by
  refine ⟨h.str, fun y hy => ?_, fun i hi => ?_⟩
  · obtain ⟨i, hi, e⟩ := h.src y hy; exact ⟨i, by omega, e⟩
  · by_cases hk : i < k + 1
    · exact h.cov i hk
    · obtain rfl : i = k + 1 := by omega
      obtain ⟨y, hy, hy0⟩ := h.cov k (by omega)
      exact ⟨y, hy, by rw [hf.zero _ _ _ hy0]; exact h0⟩
theorem Dd.keep (hf : Cmp f) {s : Nat → α} {k : Nat} {out : List α} (h : Dd f s k out) (hs : ∀ i j, i ≤ j → j ≤ k → f (s i) (s j) ≤ 0) (h0 : 0 < k → f (s (k - 1)) (s k) ≠ 0) : Dd f s (k + 1) (out ++ [s k]) := by
  refine ⟨?_, fun y hy => ?_, fun i hi => ?_⟩
  · refine List.pairwise_append.2 ⟨h.str, List.pairwise_singleton _ _, fun a ha b hb => ?_⟩
    obtain rfl : b = s k := by simpa using hb
    obtain ⟨i, hi, rfl⟩ := h.src a ha
    have hp : f (s (k - 1)) (s k) = -1 := by
      have h1 := hf.three (s (k - 1)) (s k)
      have h2 := hs (k - 1) k (by omega) (Nat.le_refl _)
      have h3 := h0 (by omega)
      omega
    exact hf.le_lt (hs i (k - 1) (by omega) (by omega)) hp
  · rcases List.mem_append.1 hy with h1 | h1
    · obtain ⟨i, hi, e⟩ := h.src y h1; exact ⟨i, by omega, e⟩
    · exact ⟨k, by omega, by simpa using h1⟩
  · by_cases hk : i < k
    · obtain ⟨y, hy, hy0⟩ := h.cov i hk; exact ⟨y, by simp [hy], hy0⟩
    · obtain rfl : i = k := by omega
      exact ⟨s i, by simp, hf.refl _⟩
end
end Go.Proofs.YtfiipfcdddaceaaGreatDoor
