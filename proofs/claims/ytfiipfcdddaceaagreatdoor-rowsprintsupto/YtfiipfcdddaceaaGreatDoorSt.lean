import Derived.Sort.LotA
namespace Go.Proofs.YtfiipfcdddaceaaGreatDoor
open Go.Sort

theorem SWO.asymm' {α : Type} {lt : α → α → Bool} (hO : SWO lt) {x y : α} (h : lt x y = true) : lt y x = false := by
  cases h2 : lt y x
  · rfl
  · have := hO.trans _ _ _ h h2; rw [hO.irrefl] at this; cases this
theorem SWO.lt_of {α : Type} {lt : α → α → Bool} (hO : SWO lt) {x y z : α} (h : lt z x = false) (k : lt z y = true) : lt x y = true := by
  cases h2 : lt x y
  · have := hO.ntrans _ _ _ h h2; rw [this] at k; cases k
  · rfl

variable {α : Type} [Inhabited α]

/-- Two ranges exchanged, place by place. -/
def Swpd (a b n : Nat) (d d' : Array α) : Prop :=
  PermIn a (b + n) d d' ∧ ∀ t, d'[t]! = if a ≤ t ∧ t < a + n then d[t + (b - a)]! else if b ≤ t ∧ t < b + n then d[t - (b - a)]! else d[t]!

/-- Two neighbouring ranges, each in the other's place. -/
def Rotd (a m b : Nat) (d d' : Array α) : Prop :=
  PermIn a b d d' ∧ ∀ t, d'[t]! = if a ≤ t ∧ t < a + (b - m) then d[t + (m - a)]! else if a + (b - m) ≤ t ∧ t < b then d[t - (b - m)]! else d[t]!

theorem Swpd.zero (a b : Nat) (d : Array α) : Swpd a b 0 d d :=
  ⟨permIn_refl d _ _, fun t => by rw [if_neg (by omega), if_neg (by omega)]⟩

theorem Swpd.size {a b n : Nat} {d d' : Array α} (h : Swpd a b n d d') : d'.size = d.size := h.1.1
theorem Rotd.size {a b n : Nat} {d d' : Array α} (h : Rotd a b n d d') : d'.size = d.size := h.1.1

theorem Swpd.step {a b i : Nat} {d dk : Array α} (h : Swpd a b i d dk) (hab : a + i < b) (hb : b + i < d.size) : Swpd a b (i + 1) d (swp dk (a + i) (b + i)) := by
  have hs := h.size
  refine ⟨permIn_trans _ _ _ _ _ (permIn_mono _ _ _ _ _ _ (Nat.le_refl _) (by omega) (by omega) h.1) (swp_permIn dk a (b + (i + 1)) (a + i) (b + i) (by omega) (by omega) (by omega) (by omega) (by omega)), fun t => ?_⟩
  rcases Nat.lt_trichotomy t (a + i) with ht | rfl | ht
  · rw [swp_other dk _ _ _ (by omega) (by omega), h.2]
    by_cases h1 : a ≤ t
    · rw [if_pos (by omega), if_pos (by omega)]
    · rw [if_neg (by omega), if_neg (by omega), if_neg (by omega), if_neg (by omega)]
  · rw [swp_left dk _ _ (by omega) (by omega), h.2, if_neg (by omega), if_neg (by omega), if_pos (by omega)]
    congr 1; omega
  · rcases Nat.lt_trichotomy t (b + i) with ht2 | rfl | ht2
    · rw [swp_other dk _ _ _ (by omega) (by omega), h.2]
      by_cases h1 : b ≤ t
      · rw [if_neg (by omega), if_pos (by omega), if_neg (by omega), if_pos (by omega)]
      · rw [if_neg (by omega), if_neg (by omega), if_neg (by omega), if_neg (by omega)]
    · rw [swp_right dk _ _ (by omega), h.2, if_neg (by omega), if_neg (by omega), if_neg (by omega), if_pos (by omega)]
      congr 1; omega
    · rw [swp_other dk _ _ _ (by omega) (by omega), h.2, if_neg (by omega), if_neg (by omega), if_neg (by omega), if_neg (by omega)]

theorem Rotd.left (m b : Nat) (d : Array α) : Rotd m m b d d :=
  ⟨permIn_refl d _ _, fun t => by
    by_cases h : m ≤ t ∧ t < m + (b - m)
    · rw [if_pos h]; congr 1; omega
    · rw [if_neg h, if_neg (by omega)]⟩

theorem Rotd.right (a m : Nat) (d : Array α) : Rotd a m m d d :=
  ⟨permIn_refl d _ _, fun t => by
    rw [if_neg (by omega)]
    by_cases h : a + (m - m) ≤ t ∧ t < m
    · rw [if_pos h]; congr 1; omega
    · rw [if_neg h]⟩

theorem Rotd.of_eq {m i : Nat} {d d' : Array α} (hi : i ≤ m) (h : Swpd (m - i) m i d d') : Rotd (m - i) m (m + i) d d' :=
  ⟨h.1, fun t => by
    rw [h.2]
    by_cases h1 : m - i ≤ t ∧ t < m - i + i
    · rw [if_pos h1, if_pos (by omega)]
    · rw [if_neg h1]
      by_cases h2 : m ≤ t ∧ t < m + i
      · rw [if_pos h2, if_neg (by omega), if_pos (by omega)]; congr 1; omega
      · rw [if_neg h2, if_neg (by omega), if_neg (by omega)]⟩

theorem Rotd.of_gt {m i j : Nat} {d d1 d' : Array α} (hi : i ≤ m) (hj : j < i) (hb : m + j ≤ d.size) (h : Swpd (m - i) m j d d1) (k : Rotd (m - (i - j)) m (m + j) d1 d') : Rotd (m - i) m (m + j) d d' := by
  have hs := h.size
  refine ⟨permIn_trans _ _ _ _ _ h.1 (permIn_mono _ _ _ _ _ _ (by omega) (Nat.le_refl _) (by omega) k.1), fun t => ?_⟩
  rw [k.2]
  by_cases h1 : m - (i - j) ≤ t ∧ t < m - (i - j) + (m + j - m)
  · rw [if_pos h1, h.2, if_neg (by omega), if_pos (by omega), if_neg (by omega), if_pos (by omega)]
    congr 1; omega
  · rw [if_neg h1]
    by_cases h2 : m - (i - j) + (m + j - m) ≤ t ∧ t < m + j
    · rw [if_pos h2, h.2, if_neg (by omega), if_neg (by omega), if_neg (by omega), if_pos (by omega)]
    · rw [if_neg h2, h.2]
      by_cases h3 : m - i ≤ t ∧ t < m - i + j
      · rw [if_pos h3, if_pos (by omega)]
      · rw [if_neg h3, if_neg (by omega), if_neg (by omega), if_neg (by omega)]

theorem Rotd.of_lt {m i j : Nat} {d d1 d' : Array α} (hi : i ≤ m) (hj : i < j) (hb : m + j ≤ d.size) (h : Swpd (m - i) (m + j - i) i d d1) (k : Rotd (m - i) m (m + (j - i)) d1 d') : Rotd (m - i) m (m + j) d d' := by
  have hs := h.size
  have hp := h.1
  rw [show m + j - i + i = m + j by omega] at hp
  refine ⟨permIn_trans _ _ _ _ _ hp (permIn_mono _ _ _ _ _ _ (Nat.le_refl _) (by omega) (by omega) k.1), fun t => ?_⟩
  rw [k.2]
  by_cases h1 : m - i ≤ t ∧ t < m - i + (m + (j - i) - m)
  · rw [if_pos h1, h.2, if_neg (by omega), if_neg (by omega), if_pos (by omega)]
  · rw [if_neg h1]
    by_cases h2 : m - i + (m + (j - i) - m) ≤ t ∧ t < m + (j - i)
    · rw [if_pos h2, h.2, if_pos (by omega), if_pos (by omega)]
      congr 1; omega
    · rw [if_neg h2, h.2]
      by_cases h3 : m + j - i ≤ t ∧ t < m + j - i + i
      · rw [if_neg (by omega), if_pos h3, if_neg (by omega), if_pos (by omega)]
        congr 1; omega
      · rw [if_neg (by omega), if_neg h3, if_neg (by omega), if_neg (by omega)]

/-- One more neighbour passed, upwards. -/
theorem Rotd.up {a k : Nat} {d dk : Array α} (h : Rotd a (a + 1) (k + 1) d dk) (hk : a ≤ k) (hb : k + 1 < d.size) : Rotd a (a + 1) (k + 2) d (swp dk k (k + 1)) := by
  have hs := h.size
  refine ⟨permIn_trans _ _ _ _ _ (permIn_mono _ _ _ _ _ _ (Nat.le_refl _) (by omega) (by omega) h.1) (swp_permIn dk a (k + 2) k (k + 1) (by omega) (by omega) (by omega) (by omega) (by omega)), fun t => ?_⟩
  rcases Nat.lt_trichotomy t k with ht | rfl | ht
  · rw [swp_other dk _ _ _ (by omega) (by omega), h.2]
    by_cases h1 : a ≤ t
    · rw [if_pos (by omega), if_pos (by omega)]
    · rw [if_neg (by omega), if_neg (by omega), if_neg (by omega), if_neg (by omega)]
  · rw [swp_left dk _ _ (by omega) (by omega), h.2, if_neg (by omega), if_neg (by omega), if_pos (by omega)]
    congr 1; omega
  · by_cases ht2 : t = k + 1
    · subst ht2
      rw [swp_right dk _ _ (by omega), h.2, if_neg (by omega), if_pos (by omega), if_neg (by omega), if_pos (by omega)]
      congr 1; omega
    · rw [swp_other dk _ _ _ (by omega) (by omega), h.2, if_neg (by omega), if_neg (by omega), if_neg (by omega), if_neg (by omega)]

/-- .. and downwards. -/
theorem Rotd.down {k m : Nat} {d dk : Array α} (h : Rotd (k + 1) m (m + 1) d dk) (hk : k + 1 ≤ m) (hb : m < d.size) : Rotd k m (m + 1) d (swp dk (k + 1) k) := by
  have hs := h.size
  refine ⟨permIn_trans _ _ _ _ _ (permIn_mono _ _ _ _ _ _ (by omega) (Nat.le_refl _) (by omega) h.1) (swp_permIn dk k (m + 1) (k + 1) k (by omega) (by omega) (by omega) (by omega) (by omega)), fun t => ?_⟩
  by_cases ht0 : t = k
  · subst ht0
    rw [swp_right dk _ _ (by omega), h.2, if_pos (by omega), if_pos (by omega)]
    congr 1; omega
  · by_cases ht1 : t = k + 1
    · subst ht1
      rw [swp_left dk _ _ (by omega) (by omega), h.2, if_neg (by omega), if_neg (by omega), if_neg (by omega), if_pos (by omega)]
      congr 1; omega
    · rw [swp_other dk _ _ _ (by omega) (by omega), h.2, if_neg (by omega)]
      by_cases h2 : k + 1 + (m + 1 - m) ≤ t ∧ t < m + 1
      · rw [if_pos h2, if_neg (by omega), if_pos (by omega)]
      · rw [if_neg h2, if_neg (by omega), if_neg (by omega)]

variable {lt : α → α → Bool}

theorem sortedIn_le {a b : Nat} {d : Array α} (hO : SWO lt) (h : SortedIn lt a b d) (i j : Nat) (hi : a ≤ i) (hij : i ≤ j) (hj : j < b) : lt d[j]! d[i]! = false := by
  rcases Nat.lt_or_ge i j with h1 | h1
  · exact h i j hi h1 hj
  · obtain rfl : i = j := by omega
    exact hO.irrefl _

/-- One element on the left. -/
theorem merge_one_left (hO : SWO lt) {a i b : Nat} {d d' : Array α} (hs : SortedIn lt (a + 1) b d) (hi : a + 1 ≤ i) (hib : i ≤ b) (hb : b ≤ d.size)
    (h1 : i = a + 1 ∨ lt d[i - 1]! d[a]! = true) (h2 : i = b ∨ lt d[i]! d[a]! = false) (h : Rotd a (a + 1) i d d') : PermIn a b d d' ∧ SortedIn lt a b d' := by
  have hlo : ∀ x, a + 1 ≤ x → x < i → lt d[x]! d[a]! = true := fun x hx hxi => by
    rcases h1 with h1 | h1
    · omega
    · exact SWO.lt_of hO (sortedIn_le hO hs x (i - 1) hx (by omega) (by omega)) h1
  have hhi : ∀ x, i ≤ x → x < b → lt d[x]! d[a]! = false := fun x hx hxb => by
    rcases h2 with h2 | h2
    · omega
    · exact hO.ntrans _ _ _ (sortedIn_le hO hs i x (by omega) hx hxb) h2
  refine ⟨permIn_mono _ _ _ _ _ _ (Nat.le_refl _) hib hb h.1, fun p q hp hpq hq => ?_⟩
  rw [h.2 p, h.2 q]
  have e1 : a + 1 - a = 1 := by omega
  have e2 : i - (a + 1) = i - a - 1 := by omega
  rw [e1]
  by_cases hqi : q < i - 1
  · rw [if_pos (by omega), if_pos (by omega)]
    exact hs _ _ (by omega) (by omega) (by omega)
  · by_cases hqe : q = i - 1
    · rw [if_neg (by omega), if_pos (by omega), if_pos (by omega)]
      have : q - (i - (a + 1)) = a := by omega
      rw [this]
      exact SWO.asymm' hO (hlo _ (by omega) (by omega))
    · rw [if_neg (by omega), if_neg (by omega)]
      by_cases hpi : p < i - 1
      · rw [if_pos (by omega)]
        exact hs _ _ (by omega) (by omega) (by omega)
      · by_cases hpe : p = i - 1
        · rw [if_neg (by omega), if_pos (by omega)]
          have : p - (i - (a + 1)) = a := by omega
          rw [this]
          exact hhi _ (by omega) hq
        · rw [if_neg (by omega), if_neg (by omega)]
          exact hs _ _ (by omega) (by omega) (by omega)

/-- One element on the right. -/
theorem merge_one_right (hO : SWO lt) {a i m : Nat} {d d' : Array α} (hs : SortedIn lt a m d) (hi : a ≤ i) (him : i ≤ m) (hb : m + 1 ≤ d.size)
    (h1 : i = a ∨ lt d[m]! d[i - 1]! = false) (h2 : i = m ∨ lt d[m]! d[i]! = true) (h : Rotd i m (m + 1) d d') : PermIn a (m + 1) d d' ∧ SortedIn lt a (m + 1) d' := by
  have hlo : ∀ x, a ≤ x → x < i → lt d[m]! d[x]! = false := fun x hx hxi => by
    rcases h1 with h1 | h1
    · omega
    · exact hO.ntrans _ _ _ h1 (sortedIn_le hO hs x (i - 1) hx (by omega) (by omega))
  have hhi : ∀ x, i ≤ x → x < m → lt d[x]! d[m]! = false := fun x hx hxb => by
    rcases h2 with h2 | h2
    · omega
    · exact hO.ntrans _ _ _ (sortedIn_le hO hs i x (by omega) hx hxb) (SWO.asymm' hO h2)
  refine ⟨permIn_mono _ _ _ _ _ _ hi (Nat.le_refl _) hb h.1, fun p q hp hpq hq => ?_⟩
  rw [h.2 p, h.2 q]
  have e1 : m + 1 - m = 1 := by omega
  rw [e1]
  by_cases hpi : p < i
  · rw [if_neg (by omega : ¬ (i ≤ p ∧ p < i + 1)), if_neg (by omega : ¬ (i + 1 ≤ p ∧ p < m + 1))]
    by_cases hqi : q < i
    · rw [if_neg (by omega), if_neg (by omega)]
      exact hs _ _ (by omega) (by omega) (by omega)
    · by_cases hqe : q = i
      · rw [if_pos (by omega)]
        have : q + (m - i) = m := by omega
        rw [this]
        exact hlo _ hp hpi
      · rw [if_neg (by omega), if_pos (by omega)]
        exact hs _ _ (by omega) (by omega) (by omega)
  · by_cases hpe : p = i
    · rw [if_pos (by omega : i ≤ p ∧ p < i + 1), if_neg (by omega), if_pos (by omega)]
      have : p + (m - i) = m := by omega
      rw [this]
      exact hhi _ (by omega) (by omega)
    · rw [if_neg (by omega : ¬ (i ≤ p ∧ p < i + 1)), if_pos (by omega : i + 1 ≤ p ∧ p < m + 1), if_neg (by omega), if_pos (by omega)]
      exact hs _ _ (by omega) (by omega) (by omega)

/-- Behind the rotation: four runs. -/
theorem mid_runs {a m b s e mid : Nat} {d d1 : Array α} (hA : SortedIn lt a m d) (hB : SortedIn lt m b d) (h : Rotd s m e d d1) (h1 : a ≤ s) (h2 : s ≤ m) (h3 : m ≤ e) (h4 : e ≤ b) (hmid : s + (e - m) = mid) :
    SortedIn lt a s d1 ∧ SortedIn lt s mid d1 ∧ SortedIn lt mid e d1 ∧ SortedIn lt e b d1 := by
  refine ⟨fun p q hp hpq hq => ?_, fun p q hp hpq hq => ?_, fun p q hp hpq hq => ?_, fun p q hp hpq hq => ?_⟩
  · rw [h.2 p, h.2 q, if_neg (by omega), if_neg (by omega), if_neg (by omega), if_neg (by omega)]; exact hA _ _ (by omega) (by omega) (by omega)
  · rw [h.2 p, h.2 q, if_pos (by omega), if_pos (by omega)]; exact hB _ _ (by omega) (by omega) (by omega)
  · rw [h.2 p, h.2 q, if_neg (by omega), if_pos (by omega), if_neg (by omega), if_pos (by omega)]; exact hA _ _ (by omega) (by omega) (by omega)
  · rw [h.2 p, h.2 q, if_neg (by omega), if_neg (by omega), if_neg (by omega), if_neg (by omega)]; exact hB _ _ (by omega) (by omega) (by omega)

/-- .. and nothing on the right is less than anything on the left. -/
theorem mid_parts (hO : SWO lt) {a m b s e mid : Nat} {d d1 : Array α} (hA : SortedIn lt a m d) (hB : SortedIn lt m b d) (h : Rotd s m e d d1) (h1 : a ≤ s) (h2 : s ≤ m) (h3 : m ≤ e) (h4 : e ≤ b) (hmid : s + (e - m) = mid)
    (hL : s = a ∨ e = b ∨ lt d[e]! d[s - 1]! = false) (hR : s = m ∨ e = m ∨ lt d[e - 1]! d[s]! = true) :
    ∀ p q, a ≤ p → p < mid → mid ≤ q → q < b → lt d1[q]! d1[p]! = false := by
  intro p q hp hpm hq hqb
  rw [h.2 p, h.2 q]
  by_cases hps : p < s
  · rw [if_neg (by omega : ¬ (s ≤ p ∧ p < s + (e - m))), if_neg (by omega : ¬ (s + (e - m) ≤ p ∧ p < e)), if_neg (by omega)]
    by_cases hqe : q < e
    · rw [if_pos (by omega)]
      exact hA _ _ (by omega) (by omega) (by omega)
    · rw [if_neg (by omega)]
      rcases hL with hL | hL | hL
      · omega
      · omega
      · exact hO.ntrans _ _ _ (hO.ntrans _ _ _ (sortedIn_le hO hB e q h3 (by omega) hqb) hL) (sortedIn_le hO hA p (s - 1) hp (by omega) (by omega))
  · rw [if_pos (by omega : s ≤ p ∧ p < s + (e - m)), if_neg (by omega)]
    by_cases hqe : q < e
    · rw [if_pos (by omega)]
      rcases hR with hR | hR | hR
      · omega
      · omega
      · exact hO.ntrans _ _ _ (hO.ntrans _ _ _ (sortedIn_le hO hA s _ h1 (by omega) (by omega)) (SWO.asymm' hO hR)) (sortedIn_le hO hB _ (e - 1) (by omega) (by omega) (by omega))
    · rw [if_neg (by omega)]
      exact hB _ _ (by omega) (by omega) (by omega)

/-- Both halves in order: the whole. -/
theorem mid_whole {a b mid : Nat} {d1 d2 d3 : Array α} (hpart : ∀ p q, a ≤ p → p < mid → mid ≤ q → q < b → lt d1[q]! d1[p]! = false) (ham : a ≤ mid) (hmb : mid ≤ b) (hb : b ≤ d1.size)
    (p2 : PermIn a mid d1 d2) (s2 : SortedIn lt a mid d2) (p3 : PermIn mid b d2 d3) (s3 : SortedIn lt mid b d3) : PermIn a b d1 d3 ∧ SortedIn lt a b d3 := by
  have z2 := p2.1
  have z3 := p3.1
  have e3 : ∀ p, p < mid → d3[p]! = d2[p]! := fun p hp => p3.2.1 p (Or.inl hp)
  refine ⟨permIn_trans _ _ _ _ _ (permIn_mono _ _ _ _ _ _ (Nat.le_refl _) hmb hb p2) (permIn_mono _ _ _ _ _ _ ham (Nat.le_refl _) (by omega) p3), fun p q hp hpq hq => ?_⟩
  by_cases hqm : q < mid
  · rw [e3 p (by omega), e3 q hqm]; exact s2 p q hp hpq hqm
  · by_cases hpm : p < mid
    · rw [e3 p hpm]
      have hA : ∀ y, mid ≤ y → y < b → ∀ x, a ≤ x → x < mid → lt d1[y]! d2[x]! = false := fun y hy hyb => permIn_all d1 d2 a mid (fun v => lt d1[y]! v = false) (by omega) p2 (fun x hx hxm => hpart x y hx hxm hy hyb)
      refine permIn_all d2 d3 mid b (fun v => lt v d2[p]! = false) (by omega) p3 (fun y hy hyb => ?_) q (by omega) hq
      rw [p2.2.1 y (Or.inr hy)]
      exact hA y hy hyb p hp hpm
    · exact s3 p q (by omega) hpq hq

/-- Blocks of so many, each in order. -/
def Blocks (lt : α → α → Bool) (s n : Nat) (d : Array α) : Prop := ∀ c, SortedIn lt (c * s) (min (c * s + s) n) d

theorem sortedIn_of {a b a' b' : Nat} {d : Array α} (h : SortedIn lt a b d) (ha : a ≤ a') (hb : b' ≤ b) : SortedIn lt a' b' d := fun p q hp hpq hq => h p q (by omega) hpq (by omega)

theorem sortedIn_same {a b : Nat} {d d' : Array α} (h : SortedIn lt a b d) (he : ∀ p, a ≤ p → p < b → d'[p]! = d[p]!) : SortedIn lt a b d' := fun p q hp hpq hq => by
  rw [he p hp (by omega), he q (by omega) hq]; exact h p q hp hpq hq

theorem Blocks.whole {s n : Nat} {d : Array α} (h : Blocks lt s n d) (hs : n ≤ s) : SortedIn lt 0 n d := by
  have := h 0
  rw [Nat.zero_mul, Nat.zero_add, Nat.min_eq_right hs] at this
  exact this

end Go.Proofs.YtfiipfcdddaceaaGreatDoor
