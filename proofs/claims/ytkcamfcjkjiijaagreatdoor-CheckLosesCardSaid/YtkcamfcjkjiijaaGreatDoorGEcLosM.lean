/-
  What check.Lost returns of lists, and what is left of them behind it; nothing of the program.
-/
import Derived.Test.YtkcamfcjkjiijaaGreatDoorGEcPlc
import Derived.Test.YtkcamfcjkjiijaaGreatDoorGTLose2
namespace Go.Proofs.YtkcamfcjkjiijaaGreatDoor
open Go.RowKit Go.Shelf
/-- Whether the list at place k loses something to a package of a name that replaces some. -/
def losB (nm : Bs) (rp : List Bs) (L : List Lp) (k : Nat) (p : Lp) : Bool := decide (idxGxT L (nameIs p.1.1) = (k : Int)) && !decide (p.1.1 = nm) && decide (p.1.1 ∈ rp)
def losOne (ds : List Dv) (nm : Bs) (rp ats : List Bs) (L : List Lp) (k : Nat) (p : Lp) : List Ls := if losB nm rp L k p = true ∧ 0 < (locL ds p.1.1 p.1.2 ats).length then [(p.1.1, locL ds p.1.1 p.1.2 ats)] else []
def lostTo (ds : List Dv) (nm : Bs) (rp ats : List Bs) (L : List Lp) : Nat → List Ls
  | 0 => []
  | k + 1 => lostTo ds nm rp ats L k ++ (match L[k]? with
    | some p => losOne ds nm rp ats L k p
    | none => [])
theorem lostTo_next {ds : List Dv} {nm : Bs} {rp ats : List Bs} {L : List Lp} {k : Nat} {p : Lp} (h : L[k]? = some p) : lostTo ds nm rp ats L (k + 1) = lostTo ds nm rp ats L k ++ losOne ds nm rp ats L k p := by
  show _ ++ _ = _
  rw [h]
theorem losOne_len (ds : List Dv) (nm : Bs) (rp ats : List Bs) (L : List Lp) (k : Nat) (p : Lp) : (losOne ds nm rp ats L k p).length ≤ 1 := by
  unfold losOne
  split <;> simp
theorem lostTo_len (ds : List Dv) (nm : Bs) (rp ats : List Bs) (L : List Lp) : ∀ k, (lostTo ds nm rp ats L k).length ≤ k
  | 0 => by simp [lostTo]
  | k + 1 => by
    have := lostTo_len ds nm rp ats L k
    unfold lostTo
    rw [List.length_append]
    cases h : L[k]? with
    | none => simp; omega
    | some p => have := losOne_len ds nm rp ats L k p; simp; omega
theorem lostTo_mem {ds : List Dv} {nm : Bs} {rp ats : List Bs} {L : List Lp} {x : Ls} : ∀ {n : Nat}, x ∈ lostTo ds nm rp ats L n → ∃ (k : Nat) (p : Lp), k < n ∧ L[k]? = some p ∧ losB nm rp L k p = true ∧ x = (p.1.1, locL ds p.1.1 p.1.2 ats)
  | 0, h => by simp [lostTo] at h
  | n + 1, h => by
    unfold lostTo at h
    rcases List.mem_append.1 h with h | h
    · obtain ⟨k, p, h1, h2⟩ := lostTo_mem h
      exact ⟨k, p, by omega, h2⟩
    · cases hl : L[n]? with
      | none => rw [hl] at h; simp at h
      | some p =>
        rw [hl] at h
        dsimp only at h
        unfold losOne at h
        split at h
        · rename_i g
          exact ⟨n, p, by omega, hl, g.1, by simpa using h⟩
        · simp at h
theorem lostTo_has {ds : List Dv} {nm : Bs} {rp ats : List Bs} {L : List Lp} {k : Nat} {p : Lp} (hp : L[k]? = some p) (hb : losB nm rp L k p = true) (h0 : 0 < (locL ds p.1.1 p.1.2 ats).length) : ∀ {n : Nat}, k < n → (p.1.1, locL ds p.1.1 p.1.2 ats) ∈ lostTo ds nm rp ats L n
  | 0, h => by omega
  | n + 1, h => by
    unfold lostTo
    by_cases e : k = n
    · subst e
      rw [hp]
      refine List.mem_append.2 (.inr ?_)
      show _ ∈ losOne ds nm rp ats L k p
      unfold losOne
      rw [if_pos ⟨hb, h0⟩]
      simp
    · exact List.mem_append.2 (.inl (lostTo_has hp hb h0 (by omega)))
/-- Each name is there once. -/
def Uniq (L : List Lp) : Prop := ∀ (i j : Nat) (p q : Lp), L[i]? = some p → L[j]? = some q → p.1.1 = q.1.1 → i = j
theorem steps13_lt {l : List Ls} (h : Steps13 l) : ∀ (j i : Nat) (x y : Ls), i < j → l[i]? = some x → l[j]? = some y → x.1 < y.1
  | 0, i, x, y, hi, _, _ => by omega
  | j + 1, i, x, y, hi, hx, hy => by
    obtain ⟨z, hz⟩ : ∃ z, l[j]? = some z := ⟨_, List.getElem?_eq_getElem (by have := (List.getElem?_eq_some_iff.1 hy).1; omega)⟩
    have hzy := (h (j + 1) y hy).2 z (by omega) (by simpa using hz)
    by_cases e : i = j
    · subst e
      rw [hx] at hz
      obtain rfl := Option.some.inj hz
      exact hzy
    · exact List.lt_trans (steps13_lt h j i x z (by omega) hx hz) hzy
theorem uniq_of {L : List Lp} (h : check13 (L.map (·.1)) = 0) : Uniq L := by
  have hs : Steps13 (L.map (·.1)) := by
    unfold check13 at h
    split at h
    · omega
    · split at h
      · assumption
      · omega
  have lt : ∀ (i j : Nat) (p q : Lp), i < j → L[i]? = some p → L[j]? = some q → p.1.1 < q.1.1 := fun i j p q hij hp hq =>
    steps13_lt hs j i p.1 q.1 hij (by rw [List.getElem?_map, hp]; rfl) (by rw [List.getElem?_map, hq]; rfl)
  intro i j p q hp hq e
  rcases Nat.lt_trichotomy i j with g | g | g
  · have := lt i j p q g hp hq
    rw [e] at this
    exact absurd this (List.lt_irrefl _)
  · exact g
  · have := lt j i q p g hq hp
    rw [e] at this
    exact absurd this (List.lt_irrefl _)
/-- What is left of lists behind those whose names are done. -/
structure Left (ds : List Dv) (ats : List Bs) (L : List Lp) (M : List Ls) (done : List Bs) : Prop where
  len : M.length = L.length
  each : ∀ (k : Nat) (q : Lp), L[k]? = some q → ∃ q' : Ls, M[k]? = some q' ∧ q'.1 = q.1.1 ∧ (∀ p ∈ q'.2, p ∈ q.1.2) ∧ q'.2.length ≤ q.1.2.length ∧ (q.1.1 ∈ done → ∀ p ∈ q'.2, toD ds p q.1.1 ∉ ats)
theorem Left.start (ds : List Dv) (ats : List Bs) (L : List Lp) : Left ds ats L (L.map (·.1)) [] := ⟨by simp, fun k q hq => ⟨q.1, by rw [List.getElem?_map, hq]; rfl, rfl, fun p h => h, Nat.le_refl _, fun h => by cases h⟩⟩
theorem Left.step {ds : List Dv} {ats : List Bs} {L M : List Lp} {done : List Bs} (hU : Uniq L) (h : Left ds ats L (M.map (·.1)) done) {k0 : Nat} {p0 : Lp} (hk : L[k0]? = some p0) : Left ds ats L (loseF M p0.1.1 (locL ds p0.1.1 p0.1.2 ats)) (done ++ [p0.1.1]) := by
  obtain ⟨q0, hq0, hn0, hs0, hl0, -⟩ := h.each k0 p0 hk
  rw [List.getElem?_map] at hq0
  obtain ⟨m0, hm0, he0⟩ : ∃ m, M[k0]? = some m ∧ m.1 = q0 := by
    cases hm : M[k0]? with
    | none => rw [hm] at hq0; simp at hq0
    | some m => rw [hm] at hq0; exact ⟨m, rfl, by simpa using hq0⟩
  have hlen : M.length = L.length := by simpa using h.len
  have hf : M.findIdx? (nameIs p0.1.1) = some k0 := by
    rw [List.findIdx?_eq_some_iff_getElem]
    obtain ⟨hb, hv⟩ := List.getElem?_eq_some_iff.1 hm0
    refine ⟨hb, by rw [hv]; unfold nameIs; rw [he0]; simpa using hn0, fun j hj => ?_⟩
    intro hc
    have hj' : j < L.length := by omega
    obtain ⟨q', h1, h2, -⟩ := h.each j L[j] (List.getElem?_eq_getElem hj')
    rw [List.getElem?_map, List.getElem?_eq_getElem (by omega : j < M.length)] at h1
    have h1' : M[j].1 = q' := by simpa using h1
    have hc' : M[j].1.1 = p0.1.1 := by unfold nameIs at hc; simpa using hc
    have := hU j k0 L[j] p0 (List.getElem?_eq_getElem hj') hk (by rw [← h2, ← h1', hc'])
    omega
  have hpa : pathsAt M k0 = q0.2 := by unfold pathsAt; rw [hm0]; dsimp only; rw [he0]
  unfold loseF
  rw [hf]
  dsimp only
  rw [hpa]
  refine ⟨by simpa using h.len, fun k q hq => ?_⟩
  by_cases e : k = k0
  · subst e
    rw [hk] at hq
    obtain rfl := Option.some.inj hq
    refine ⟨(p0.1.1, minusS q0.2 (locL ds p0.1.1 p0.1.2 ats)), by rw [List.getElem?_set_self (by simpa using (List.getElem?_eq_some_iff.1 hm0).1)], rfl, fun p hp => hs0 p (List.mem_filter.1 hp).1, Nat.le_trans (minus_len _ _) hl0, fun _ p hp hat => ?_⟩
    unfold minusS at hp
    rw [List.mem_filter] at hp
    have : p ∉ locL ds p0.1.1 p0.1.2 ats := by simpa using hp.2
    exact this (by unfold locL; rw [List.mem_filter]; exact ⟨hs0 p hp.1, by simpa using hat⟩)
  · obtain ⟨q', h1, h2, h3, h4, h5⟩ := h.each k q hq
    refine ⟨q', by rw [List.getElem?_set_ne (fun g => e g.symm)]; exact h1, h2, h3, h4, fun hd => ?_⟩
    rcases List.mem_append.1 hd with g | g
    · exact h5 g
    · have g' : q.1.1 = p0.1.1 := by simpa using g
      exact absurd (hU k k0 q p0 hq hk g') e
theorem idx_uniq {L : List Lp} (hU : Uniq L) {k : Nat} {q : Lp} (h : L[k]? = some q) : idxGxT L (nameIs q.1.1) = (k : Int) :=
  idxG_hitxT h (by unfold nameIs; simp) (fun j y hj hy => by
    unfold nameIs
    rw [decide_eq_false_iff_not]
    intro e
    have := hU j k y q hy h e
    omega)
theorem Left.ends {ds : List Dv} {nm : Bs} {rp ats : List Bs} {L : List Lp} {M : List Ls} (hU : Uniq L) (h : Left ds ats L M ((lostTo ds nm rp ats L L.length).map (·.1))) {k : Nat} {q' : Ls} (hq : M[k]? = some q') (hn : ¬ q'.1 = nm) (hr : q'.1 ∈ rp) {p : Bs} (hp : p ∈ q'.2) : toD ds p q'.1 ∉ ats := by
  have hk : k < L.length := by have := (List.getElem?_eq_some_iff.1 hq).1; rw [h.len] at this; exact this
  obtain ⟨q, hL⟩ : ∃ q, L[k]? = some q := ⟨_, List.getElem?_eq_getElem hk⟩
  obtain ⟨q2, h1, h2, h3, -, h5⟩ := h.each k q hL
  rw [hq] at h1
  obtain rfl := Option.some.inj h1
  intro hat
  rw [h2] at hat hn hr
  have hloc : p ∈ locL ds q.1.1 q.1.2 ats := by unfold locL; rw [List.mem_filter]; exact ⟨h3 p hp, by simpa using hat⟩
  have h0 : 0 < (locL ds q.1.1 q.1.2 ats).length := List.length_pos_of_mem hloc
  have hb : losB nm rp L k q = true := by
    unfold losB
    rw [idx_uniq hU hL]
    simp [hn, hr]
  exact h5 (List.mem_map.2 ⟨_, lostTo_has hL hb h0 hk, rfl⟩) p hp hat
/-- A slice of lists, each of whose paths the call owns. -/
def OwnM (w : World) (base : Nat) (v : Value) (M : List Lp) : Prop := OwnC w base v M ∧ ∀ p ∈ M, OwnT w base p.2 p.1.2
theorem OwnM.nil (w : World) (base : Nat) : OwnM w base (.slice none 0 0) [] := ⟨OwnC.nil _ _, fun p h => by cases h⟩
theorem OwnM.holds {w : World} {base : Nat} {v : Value} {M : List Lp} (h : OwnM w base v M) : HoldL w v M := h.1.holds (fun p hp => (h.2 p hp).holds)
theorem OwnM.mono {w : World} {base B : Nat} {v : Value} {M : List Lp} (h : OwnM w base v M) (hB : B ≤ base) : OwnM w B v M := ⟨h.1.mono hB, fun p hp => (h.2 p hp).mono hB⟩
theorem OwnC.onC {w w' : World} {base : Nat} {v : Value} {l : List Lp} (h : OwnC w base v l) (hb : Below w.heap.size w w') : OwnC w' base v l := World.ownsRow.kept h (grown_ofB hb) (by cases v.ownBlock <;> simp)
theorem OwnM.on {w w' : World} {base : Nat} {v : Value} {M : List Lp} (h : OwnM w base v M) (hb : Below w.heap.size w w') : OwnM w' base v M := ⟨h.1.onC hb, fun p hp => (h.2 p hp).on hb⟩
theorem OwnM.app {w w' : World} {o : Obj} {base : Nat} {v v' : Value} {M : List Lp} {x : Lp} {a : ByteArray} {u : Value} (h : OwnM w base v M) (hx : OwnT w base x.2 x.1.2) (ha : bsT x.1.1 = a) (hu : x.2 = u) (hg : (w.alloc o).grownBy w' v.ownBlock) (h' : w'.ownsRow base 63 2 v' (M.length + 1) (lcells M ++ [.string a, u])) : OwnM w' base v' (M ++ [x]) :=
  ⟨OwnC.app ha hu h', fun p hp => by
    rcases List.mem_append.1 hp with g | g
    · exact World.ownsRow.kept (World.ownsRow.alloc (h.2 p g) o) hg (apart_types (h.2 p g) h.1)
    · obtain rfl : p = x := by simpa using g
      exact World.ownsRow.kept (World.ownsRow.alloc hx o) hg (apart_types hx h.1)⟩
def LostPost (w : World) (R : List Ls) (e : Ending) (w' : World) : Prop := ∃ r M, e = .returned r ∧ M.map (·.1) = R ∧ OwnM w' w.heap.size r M ∧ Below w.heap.size w w'
end Go.Proofs.YtkcamfcjkjiijaaGreatDoor
