/-
  Lists of diversions that a call builds; what is read of lines, three by three.
-/
import Derived.Test.YtogkickaebmeoaaDoorDPrint
import Derived.Laws.OwnMore
namespace Go.Proofs.YtogkickaebmeoaaDoor
open Go.RowKit
theorem infoD : (Tryd.prog.info? 54).map (fun i => (i.zero, i.size, i.bytes)) = some (some (.agg #[.string ⟨#[]⟩, .string ⟨#[]⟩, .string ⟨#[]⟩]), 3, 48) := by kernel_rfl
abbrev dcells (l : List Dv) : List Value := l.flatMap fun x => [.string (bsA x.1), .string (bsA x.2.1), .string (bsA x.2.2)]
theorem dcells_at : ∀ (l : List Dv) (t : Nat) (x : Dv), l[t]? = some x → (dcells l)[t * 3]? = some (.string (bsA x.1)) ∧ (dcells l)[t * 3 + 1]? = some (.string (bsA x.2.1)) ∧ (dcells l)[t * 3 + 2]? = some (.string (bsA x.2.2))
  | [], t, x, h => by simp at h
  | g :: l, 0, x, h => by simp at h; subst h; simp [dcells]
  | g :: l, t + 1, x, h => by
    have := dcells_at l t x (by simpa using h)
    have e : (t + 1) * 3 = t * 3 + 1 + 1 + 1 := by omega
    have e1 : (t + 1) * 3 + 1 = t * 3 + 1 + 1 + 1 + 1 := by omega
    have e2 : (t + 1) * 3 + 2 = t * 3 + 2 + 1 + 1 + 1 := by omega
    simp only [dcells, List.flatMap_cons, List.cons_append, List.nil_append]
    rw [e2, e1, e]
    simp only [List.getElem?_cons_succ]
    exact this
/-- The slice value v owns the diversions l, in a block from base on. -/
def OwnD (w : World) (base : Nat) (v : Value) (l : List Dv) : Prop := w.ownsRow base 54 3 v l.length (dcells l)
theorem OwnD.nil (w : World) (base : Nat) : OwnD w base (.slice none 0 0) [] := World.ownsRow_nil _ _ _ _
theorem OwnD.holds {w : World} {base : Nat} {v : Value} {l : List Dv} (h : OwnD w base v l) : HoldD w v l := by
  rcases h.2 with ⟨rfl, h0⟩ | ⟨g, cap, cur, rfl, hb, hg, hn, hm, hs, ht⟩
  · have : l = [] := List.eq_nil_of_length_eq_zero h0
    subst this
    exact ⟨none, 0, 0, 0, rfl, Nat.le_refl _, fun h => absurd h (by simp), fun j l hj => by simp at hj⟩
  · refine ⟨some ⟨g, 0, none⟩, cap, g, 0, by rw [List.length_map], by rw [List.length_map]; exact hn, fun _ => ⟨rfl, (Array.getElem?_eq_some_iff.1 hg).1⟩, fun j r hj i y hi hy => ?_⟩
    rw [List.getElem?_map] at hj
    cases hf : l[j]? with
    | none => rw [hf] at hj; cases hj
    | some x =>
      rw [hf] at hj
      simp only [Option.map_some, Option.some.injEq] at hj
      subst hj
      have hj' := (List.getElem?_eq_some_iff.1 hf).1
      obtain ⟨e0, e1, e2⟩ := dcells_at l j x hf
      have hc : ∀ q, q < l.length * 3 → w.cell? ⟨g, q, none⟩ = (dcells l)[q]? := fun q hq => by
        rw [cellRow w g q cur 54 (0, 0) hg, ← ht, List.getElem?_take, if_pos hq, Array.getElem?_toList]
      match i, hi with
      | 0, _ => simp [rowD] at hy; subst hy; rw [show 0 + j * 3 + 0 = j * 3 by omega, hc _ (by omega), e0]
      | 1, _ => simp [rowD] at hy; subst hy; rw [show 0 + j * 3 + 1 = j * 3 + 1 by omega, hc _ (by omega), e1]
      | 2, _ => simp [rowD] at hy; subst hy; rw [show 0 + j * 3 + 2 = j * 3 + 2 by omega, hc _ (by omega), e2]
theorem OwnD.app {w' : World} {base : Nat} {v' : Value} {l : List Dv} {x : Dv} {a b c : ByteArray} (ha : a.data.toList = x.1) (hb : b.data.toList = x.2.1) (hc : c.data.toList = x.2.2) (h : w'.ownsRow base 54 3 v' (l.length + 1) (dcells l ++ [.string a, .string b, .string c])) : OwnD w' base v' (l ++ [x]) := by
  have e : dcells (l ++ [x]) = dcells l ++ [.string a, .string b, .string c] := by simp [dcells, strOf ha, strOf hb, strOf hc]
  unfold OwnD
  rw [e, List.length_append]
  exact h
theorem OwnD.below {B : Nat} {w0 w w' : World} {o : Obj} {base : Nat} {v : Value} {l : List Dv} (h : Below B w0 w) (hown : OwnD w base v l) (hg : (w.alloc o).grownBy w' v.ownBlock) (hB : B ≤ base) (hBw : B ≤ w.heap.size) : Below B w0 w' :=
  (h.alloc hBw o).grown hg (by simp; omega) (fun k hk => by have := (World.ownsRow.lt hown k hk).1; omega)
/-- One diversion of three lines. -/
def entry (a b c : Bs) : Dv := (a, b, if c = [58] then [] else c)
theorem read_snoc : ∀ (k : Nat) (ls : List Bs) (a b c : Bs), ls[3 * k]? = some a → ls[3 * k + 1]? = some b → ls[3 * k + 2]? = some c → readD (ls.take (3 * (k + 1))) = readD (ls.take (3 * k)) ++ [entry a b c]
  | 0, x :: y :: z :: ls, a, b, c, h1, h2, h3 => by
    simp at h1 h2 h3
    subst h1 h2 h3
    rfl
  | k + 1, x :: y :: z :: ls, a, b, c, h1, h2, h3 => by
    have e1 : 3 * (k + 1) = 3 * k + 1 + 1 + 1 := by omega
    have e2 : 3 * (k + 1) + 1 = 3 * k + 1 + 1 + 1 + 1 := by omega
    have e3 : 3 * (k + 1) + 2 = 3 * k + 2 + 1 + 1 + 1 := by omega
    rw [e1] at h1
    rw [e2] at h2
    rw [e3] at h3
    simp only [List.getElem?_cons_succ] at h1 h2 h3
    have := read_snoc k ls a b c h1 h2 h3
    have e4 : 3 * (k + 1 + 1) = 3 * (k + 1) + 1 + 1 + 1 := by omega
    rw [e4, e1]
    simp only [List.take_succ_cons]
    rw [← e1, readD, readD, this]; rfl
  | _, [], a, b, c, h1, _, _ => by simp at h1
  | _, [x], a, b, c, _, h2, _ => by simp at h2
  | 0, [x, y], a, b, c, _, _, h3 => by simp at h3
  | k + 1, [x, y], a, b, c, h1, _, _ => by
    rw [show 3 * (k + 1) = 3 * k + 1 + 1 + 1 by omega] at h1; simp at h1
theorem read_all : ∀ (n : Nat) (ls : List Bs) (k : Nat), ls.length ≤ n → 3 * k ≤ ls.length → ls.length < 3 * k + 3 → readD (ls.take (3 * k)) = readD ls
  | n, [], k, _, h1, _ => by simp
  | n, [x], k, _, h1, _ => by
    obtain rfl : k = 0 := by simp at h1; omega
    rfl
  | n, [x, y], k, _, h1, _ => by
    obtain rfl : k = 0 := by simp at h1; omega
    rfl
  | n + 1, x :: y :: z :: ls, k, hn, h1, h2 => by
    simp only [List.length_cons] at hn h1 h2
    obtain ⟨j, rfl⟩ : ∃ j, k = j + 1 := ⟨k - 1, by omega⟩
    have := read_all n ls j (by omega) (by omega) (by omega)
    rw [show 3 * (j + 1) = 3 * j + 1 + 1 + 1 by omega]
    simp only [List.take_succ_cons]
    rw [readD, readD, this]
  | 0, x :: y :: z :: ls, k, hn, _, _ => by simp at hn
theorem read_sizes (N : Nat) : ∀ (n : Nat) (ls : List Bs), ls.length ≤ n → (∀ p ∈ ls, p.length ≤ N) → ∀ x ∈ readD ls, x.1.length ≤ N ∧ x.2.1.length ≤ N ∧ x.2.2.length ≤ N
  | n, [], _, _, x, hx => by simp [readD] at hx
  | n, [a], _, _, x, hx => by simp [readD] at hx
  | n, [a, b], _, _, x, hx => by simp [readD] at hx
  | n + 1, a :: b :: c :: ls, hn, h, x, hx => by
    rw [readD] at hx
    rcases List.mem_cons.1 hx with rfl | hx
    · refine ⟨h _ (by simp), h _ (by simp), ?_⟩
      show (if c = [58] then [] else c).length ≤ N
      split
      · simp
      · exact h _ (by simp)
    · simp only [List.length_cons] at hn
      exact read_sizes N n ls (by omega) (fun p hp => h p (by simp [hp])) x hx
  | 0, a :: b :: c :: ls, hn, _, _, _ => by simp at hn
theorem read_len : ∀ (n : Nat) (ls : List Bs), ls.length ≤ n → (readD ls).length ≤ ls.length
  | n, [], _ => by simp [readD]
  | n, [a], _ => by simp [readD]
  | n, [a, b], _ => by simp [readD]
  | n + 1, a :: b :: c :: ls, hn => by
    simp only [List.length_cons] at hn
    have := read_len n ls (by omega)
    rw [readD, List.length_cons]; simp; omega
  | 0, a :: b :: c :: ls, hn => by simp at hn
end Go.Proofs.YtogkickaebmeoaaDoor
