/-
  Which alternatives may be, which choice is the best, where a choice is; nothing of the program.
-/
import Derived.Test.YtnfhccnicojdcaaGreatDoorZHold
import Derived.Test.YtnfhccnicojdcaaGreatDoorYHold
import Derived.Test.YtnfhccnicojdcaaGreatDoorPName
import Derived.Test.YtnfhccnicojdcaaGreatDoorPSortMath
namespace Go.Proofs.YtnfhccnicojdcaaGreatDoor
open Go.RowKit
def plZ (s : Bs) : Bool := right s && decide (s ≠ [47])
-- The best
def overC (c d : Cv) : Bool := decide (d.1.2.1 < c.1.2.1) || (decide (c.1.2.1 = d.1.2.1) && decide (c.1.1 < d.1.1))
def bestAt (l : List Cv) : Nat → Int
  | 0 => -1
  | k + 1 => match l[k]? with
    | none => bestAt l k
    | some c => if bestAt l k < 0 then k else match l[(bestAt l k).toNat]? with
      | none => bestAt l k
      | some d => if overC c d then k else bestAt l k
def bestC (l : List Cv) : Int := bestAt l l.length
theorem bestAt_range (l : List Cv) : ∀ k, k ≤ l.length → bestAt l k = -1 ∧ k = 0 ∨ 0 ≤ bestAt l k ∧ bestAt l k < k
  | 0, _ => .inl ⟨rfl, rfl⟩
  | k + 1, h => by
    refine .inr ?_
    have ih := bestAt_range l k (by omega)
    have hx : l[k]? = some l[k] := List.getElem?_eq_getElem (by omega)
    unfold bestAt
    rw [hx]
    simp only
    by_cases h0 : bestAt l k < 0
    · rw [if_pos h0]; omega
    · rw [if_neg h0]
      cases l[(bestAt l k).toNat]? with
      | none => simp only; omega
      | some d =>
        simp only
        by_cases g : overC l[k] d = true
        · rw [if_pos g]; omega
        · rw [if_neg g]; omega
theorem bestAt_first {l : List Cv} {k : Nat} {c : Cv} (hx : l[k]? = some c) (h0 : bestAt l k < 0) : bestAt l (k + 1) = k := by
  conv => lhs; unfold bestAt
  rw [hx]; simp only; rw [if_pos h0]
theorem bestAt_over {l : List Cv} {k m : Nat} {c d : Cv} (hx : l[k]? = some c) (hm : bestAt l k = m) (hy : l[m]? = some d) (h : overC c d = true) : bestAt l (k + 1) = k := by
  conv => lhs; unfold bestAt
  rw [hx]; simp only; rw [if_neg (by omega), hm, Int.toNat_natCast, hy]; simp only; rw [if_pos h]
theorem bestAt_stay {l : List Cv} {k m : Nat} {c d : Cv} (hx : l[k]? = some c) (hm : bestAt l k = m) (hy : l[m]? = some d) (h : overC c d = false) : bestAt l (k + 1) = m := by
  conv => lhs; unfold bestAt
  rw [hx]; simp only; rw [if_neg (by omega), hm, Int.toNat_natCast, hy]; simp only; rw [if_neg (by rw [h]; decide)]
-- Lists by keys
section
variable {α : Type} (rt : α → Bool) (key : α → Bs)
def stepK (l : List α) (i : Nat) (x : α) : Prop := rt x = true ∧ ∀ y, 0 < i → l[i - 1]? = some y → key y < key x
def StepsK (l : List α) : Prop := ∀ (i : Nat) x, l[i]? = some x → stepK rt key l i x
open Classical in
noncomputable def kchkK (l : List α) : Int := if 64 < l.length then 22 else if StepsK rt key l then 0 else 1
def idxK (l : List α) (p : α → Bool) : Int := match l.findIdx? p with
  | some k => k
  | none => -1
end
section
variable {α : Type} {rt : α → Bool} {key : α → Bs}
theorem kchkK_long {l : List α} (h : 64 < l.length) : kchkK rt key l = 22 := by unfold kchkK; rw [if_pos h]
theorem kchkK_ok {l : List α} (h : ¬ 64 < l.length) (g : StepsK rt key l) : kchkK rt key l = 0 := by unfold kchkK; rw [if_neg h, if_pos g]
theorem kchkK_no {l : List α} (h : ¬ 64 < l.length) (g : ¬ StepsK rt key l) : kchkK rt key l = 1 := by unfold kchkK; rw [if_neg h, if_neg g]
theorem kchkK_ways (rt : α → Bool) (key : α → Bs) (l : List α) : (kchkK rt key l = 0 ∧ l.length ≤ 64 ∧ StepsK rt key l) ∨ ((kchkK rt key l = 22 ∨ kchkK rt key l = 1) ∧ ¬ (l.length ≤ 64 ∧ StepsK rt key l)) := by
  by_cases h : 64 < l.length
  · exact .inr ⟨.inl (kchkK_long h), fun g => by omega⟩
  · by_cases g : StepsK rt key l
    · exact .inl ⟨kchkK_ok h g, by omega, g⟩
    · exact .inr ⟨.inr (kchkK_no h g), fun q => g q.2⟩
theorem idxK_hit {l : List α} {p : α → Bool} {k : Nat} {x : α} (hx : l[k]? = some x) (hp : p x = true) (hb : ∀ (j : Nat) y, j < k → l[j]? = some y → p y = false) : idxK l p = k := by
  unfold idxK
  have : l.findIdx? p = some k := by
    rw [List.findIdx?_eq_some_iff_getElem]
    obtain ⟨hk, e⟩ := List.getElem?_eq_some_iff.1 hx
    exact ⟨hk, by rw [e]; exact hp, fun j hj => by rw [hb j _ hj (List.getElem?_eq_getElem (by omega))]; simp⟩
  rw [this]
theorem idxK_miss {l : List α} {p : α → Bool} (hb : ∀ (j : Nat) y, l[j]? = some y → p y = false) : idxK l p = -1 := by
  unfold idxK
  have : l.findIdx? p = none := by
    rw [List.findIdx?_eq_none_iff]
    intro y hy
    obtain ⟨j, hj⟩ := List.mem_iff_getElem?.1 hy
    exact hb j y hj
  rw [this]
theorem idxK_range (l : List α) (p : α → Bool) : (idxK l p = -1 ∧ ∀ x ∈ l, p x = false) ∨ ∃ (k : Nat) (x : α), idxK l p = k ∧ l[k]? = some x ∧ p x = true ∧ ∀ (j : Nat) y, j < k → l[j]? = some y → p y = false := by
  unfold idxK
  cases h : l.findIdx? p with
  | none => exact .inl ⟨rfl, by rw [List.findIdx?_eq_none_iff] at h; exact h⟩
  | some k =>
    rw [List.findIdx?_eq_some_iff_getElem] at h
    obtain ⟨hk, hp, hb⟩ := h
    exact .inr ⟨k, _, rfl, List.getElem?_eq_getElem hk, hp, fun j y hj hy => by
      obtain ⟨hj', rfl⟩ := List.getElem?_eq_some_iff.1 hy
      simpa using hb j hj⟩
end
-- Where a choice is
abbrev idxC (l : List Cv) (p : Bs) : Int := idxK l (fun x => decide (x.1.1 = p))
-- Which slaves may be
def rightS (nm : Bs) (s : Sv) : Bool := nameB s.1 && decide (s.1 ≠ nm) && plZ s.2
abbrev StepsS (nm : Bs) (l : List Sv) : Prop := StepsK (rightS nm) (fun x => x.1) l
def linksA (x : Av) : List Bs := x.lk :: x.sl.map (·.2)
def namesA (x : Av) : List Bs := x.nm :: x.sl.map (·.1)
theorem linksA_len (x : Av) : (linksA x).length = x.sl.length + 1 := by unfold linksA; simp
theorem namesA_len (x : Av) : (namesA x).length = x.sl.length + 1 := by unfold namesA; simp
-- A list sorted, each once: as long as the list only if none is there twice
theorem perm_of_sub : ∀ {a b : List Bs}, a.Nodup → (∀ x ∈ a, x ∈ b) → b.length ≤ a.length → b.Perm a
  | [], b, _, _, h => by
    have : b = [] := List.eq_nil_of_length_eq_zero (by simpa using h)
    rw [this]
  | x :: a, b, hn, hs, h => by
    obtain ⟨hx, hn⟩ := List.nodup_cons.1 hn
    have hb := hs x List.mem_cons_self
    have hp := List.perm_cons_erase hb
    have hl := List.length_erase_of_mem hb
    have hpos : 0 < b.length := List.length_pos_of_mem hb
    have := perm_of_sub (a := a) (b := b.erase x) hn (fun y hy => (List.mem_erase_of_ne (fun e => hx (by rw [← e]; exact hy))).2 (hs y (List.mem_cons_of_mem _ hy))) (by rw [List.length_cons] at h; omega)
    exact hp.trans (this.cons x)
theorem nodup_ix {l : List Bs} : l.Nodup ↔ ∀ (i j : Nat) x y, i < j → l[i]? = some x → l[j]? = some y → x ≠ y := by
  unfold List.Nodup
  rw [List.pairwise_iff_getElem]
  constructor
  · intro h i j x y hij hx hy
    obtain ⟨hi, rfl⟩ := List.getElem?_eq_some_iff.1 hx
    obtain ⟨hj, rfl⟩ := List.getElem?_eq_some_iff.1 hy
    exact h i j hi hj hij
  · intro h i j hi hj hij
    exact h i j _ _ hij (List.getElem?_eq_getElem hi) (List.getElem?_eq_getElem hj)
theorem rise_nodup {l : List Bs} (h : Rise l) : l.Nodup := List.Pairwise.imp (fun {a b} hab e => by rw [e] at hab; exact bs_lt_irrefl _ hab) h
theorem srt_nodup (ls : List Bs) : (srt ls).length = ls.length ↔ ls.Nodup := by
  have hn := rise_nodup (srt_rise ls)
  constructor
  · intro h
    exact (perm_of_sub hn (fun x hx => (srt_mem ls x).1 hx) (by omega)).nodup_iff.2 hn
  · intro h
    exact (perm_of_sub h (fun x hx => (srt_mem ls x).2 hx) (srt_len ls)).length_eq
-- Which choices may be
def tgC (q : Bs) : Bool := decide (q = []) || plZ q
def rightC (n : Nat) (c : Cv) : Bool := plZ c.1.1 && decide (-2147483648 ≤ c.1.2.1) && decide (c.1.2.1 ≤ 2147483647) && decide (c.1.2.2.length = n) && c.1.2.2.all tgC
abbrev StepsC (n : Nat) (l : List Cv) : Prop := StepsK (rightC n) (fun x => x.1.1) l
-- Which alternative may be
structure SlavesOk (x : Av) : Prop where
  few : x.sl.length ≤ 64
  steps : StepsS x.nm x.sl
  apart : (linksA x).Nodup
structure ChoicesOk (x : Av) : Prop where
  some : 0 < x.ch.length
  few : x.ch.length ≤ 64
  steps : StepsC x.sl.length x.ch
structure CurOk (x : Av) : Prop where
  there : 0 ≤ idxC x.ch x.cr
  best : x.mn = true ∨ idxC x.ch x.cr = bestC x.ch
structure GoodA (x : Av) : Prop where
  nm : nameB x.nm = true
  lk : plZ x.lk = true
  sl : SlavesOk x
  ch : ChoicesOk x
  cr : CurOk x
open Classical in
noncomputable def rightA (x : Av) : Bool := decide (GoodA x)
open Classical in
theorem rightA_yes {x : Av} (h : GoodA x) : rightA x = true := decide_eq_true h
open Classical in
theorem rightA_no {x : Av} (h : ¬ GoodA x) : rightA x = false := decide_eq_false h
open Classical in
theorem rightA_good {x : Av} (h : rightA x = true) : GoodA x := of_decide_eq_true h
-- As the reference asks
def stepL (x : Av) (i : Nat) (k n : Bs) : Prop := plZ k = true ∧ k ∉ (linksA x).take i ∧ nameB n = true ∧ n ∉ (namesA x).take i ∧ (1 < i → ∀ p, (namesA x)[i - 1]? = some p → p < n)
def StepsL (x : Av) : Prop := ∀ (i : Nat) k n, (linksA x)[i]? = some k → (namesA x)[i]? = some n → stepL x i k n
theorem linksA_get (x : Av) (i : Nat) : (linksA x)[i + 1]? = (x.sl[i]?).map (·.2) := by unfold linksA; rw [List.getElem?_cons_succ, List.getElem?_map]
theorem namesA_get (x : Av) (i : Nat) : (namesA x)[i + 1]? = (x.sl[i]?).map (·.1) := by unfold namesA; rw [List.getElem?_cons_succ, List.getElem?_map]
theorem nodup_of_take {l : List Bs} (h : ∀ (i : Nat) k, l[i]? = some k → k ∉ l.take i) : l.Nodup :=
  nodup_ix.2 fun i j x y hij hx hy e => h j y hy (List.mem_of_getElem? (i := i) (by rw [List.getElem?_take_of_lt hij, hx, e]))
theorem take_of_nodup {l : List Bs} (h : l.Nodup) {i : Nat} {k : Bs} (hk : l[i]? = some k) : k ∉ l.take i := fun hm => by
  obtain ⟨j, hj⟩ := List.mem_iff_getElem?.1 hm
  have hji : j < i := by have := (List.getElem?_eq_some_iff.1 hj).1; rw [List.length_take] at this; omega
  rw [List.getElem?_take_of_lt hji] at hj
  exact nodup_ix.1 h j i k k hji hj hk rfl
theorem risesS {nm : Bs} {l : List Sv} (h : StepsS nm l) : ∀ (d i : Nat) x y, l[i]? = some x → l[i + d + 1]? = some y → x.1 < y.1
  | 0, i, x, y, hx, hy => (h _ _ hy).2 x (by omega) (by simpa using hx)
  | d + 1, i, x, y, hx, hy => by
    have hl := (List.getElem?_eq_some_iff.1 hy).1
    have hz : l[i + d + 1]? = some l[i + d + 1] := List.getElem?_eq_getElem (by omega)
    exact bs_lt_trans (risesS h d i x _ hx hz) ((h _ _ hy).2 _ (by omega) (by rw [show i + (d + 1) + 1 - 1 = i + d + 1 by omega]; exact hz))
theorem names_nodup {x : Av} (h : StepsS x.nm x.sl) : (namesA x).Nodup := by
  unfold namesA
  refine List.nodup_cons.2 ⟨fun hm => ?_, ?_⟩
  · obtain ⟨s, hs, e⟩ := List.mem_map.1 hm
    obtain ⟨i, hi, rfl⟩ := List.getElem_of_mem hs
    have := (h i _ (List.getElem?_eq_getElem hi)).1
    unfold rightS at this
    simp only [Bool.and_eq_true, decide_eq_true_eq] at this
    exact this.1.2 e
  · refine nodup_ix.2 fun i j p q hij hp hq e => ?_
    rw [List.getElem?_map] at hp hq
    obtain ⟨s, hs, rfl⟩ := Option.map_eq_some_iff.1 hp
    obtain ⟨t, ht, rfl⟩ := Option.map_eq_some_iff.1 hq
    have := risesS h (j - i - 1) i s t hs (by rw [show i + (j - i - 1) + 1 = j by omega]; exact ht)
    rw [e] at this
    exact bs_lt_irrefl _ this
theorem stepsL_of {x : Av} (hn : nameB x.nm = true) (hl : plZ x.lk = true) (h : SlavesOk x) : StepsL x := fun i k n hk hn' => by
  have nd := names_nodup h.steps
  refine ⟨?_, take_of_nodup h.apart hk, ?_, take_of_nodup nd hn', fun hi p hp => ?_⟩
  · cases i with
    | zero => cases hk; exact hl
    | succ i =>
      rw [linksA_get] at hk
      obtain ⟨s, hs, rfl⟩ := Option.map_eq_some_iff.1 hk
      have := (h.steps i s hs).1
      unfold rightS at this
      simp only [Bool.and_eq_true] at this
      exact this.2
  · cases i with
    | zero => cases hn'; exact hn
    | succ i =>
      rw [namesA_get] at hn'
      obtain ⟨s, hs, rfl⟩ := Option.map_eq_some_iff.1 hn'
      have := (h.steps i s hs).1
      unfold rightS at this
      simp only [Bool.and_eq_true] at this
      exact this.1.1
  · obtain ⟨i, rfl⟩ : ∃ j, i = j + 2 := ⟨i - 2, by omega⟩
    rw [show i + 2 - 1 = i + 1 by omega, namesA_get] at hp
    rw [namesA_get] at hn'
    obtain ⟨s, hs, rfl⟩ := Option.map_eq_some_iff.1 hn'
    obtain ⟨t, ht, rfl⟩ := Option.map_eq_some_iff.1 hp
    exact (h.steps (i + 1) s hs).2 t (by omega) (by simpa using ht)
theorem of_stepsL {x : Av} (hf : x.sl.length ≤ 64) (h : StepsL x) : nameB x.nm = true ∧ plZ x.lk = true ∧ SlavesOk x := by
  have h0 := h 0 x.lk x.nm rfl rfl
  refine ⟨h0.2.2.1, h0.1, hf, fun i s hs => ?_, nodup_of_take fun i k hk => ?_⟩
  · have hi := h (i + 1) s.2 s.1 (by rw [linksA_get, hs]; rfl) (by rw [namesA_get, hs]; rfl)
    refine ⟨?_, fun y h0 hy => ?_⟩
    · unfold rightS
      simp only [Bool.and_eq_true, decide_eq_true_eq]
      refine ⟨⟨hi.2.2.1, fun e => hi.2.2.2.1 ?_⟩, hi.1⟩
      rw [e]; unfold namesA; exact List.mem_cons_self
    · obtain ⟨i, rfl⟩ : ∃ j, i = j + 1 := ⟨i - 1, by omega⟩
      exact hi.2.2.2.2 (by omega) y.1 (by rw [show i + 1 + 1 - 1 = i + 1 by omega, namesA_get]; rw [show i + 1 - 1 = i by omega] at hy; rw [hy]; rfl)
  · have hil : i < (namesA x).length := by rw [namesA_len, ← linksA_len]; exact (List.getElem?_eq_some_iff.1 hk).1
    exact (h i k _ hk (List.getElem?_eq_getElem hil)).2.1
theorem good_iff (x : Av) : GoodA x ↔ x.sl.length ≤ 64 ∧ ¬ x.ch.length < 1 ∧ ¬ 64 < x.ch.length ∧ StepsL x ∧ StepsC x.sl.length x.ch ∧ CurOk x :=
  ⟨fun h => ⟨h.sl.few, by have := h.ch.some; omega, by have := h.ch.few; omega, stepsL_of h.nm h.lk h.sl, h.ch.steps, h.cr⟩,
   fun ⟨h1, h2, h3, h4, h5, h6⟩ => by
    obtain ⟨a, b, c⟩ := of_stepsL h1 h4
    exact ⟨a, b, c, ⟨by omega, by omega, h5⟩, h6⟩⟩
end Go.Proofs.YtnfhccnicojdcaaGreatDoor
