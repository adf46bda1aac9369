import Derived.Test.YtnnagboeimeiiaaGreatDoorWSWords
import Derived.Test.YtnnagboeimeiiaaGreatDoorWVOrder
import Derived.Laws.Runes
import Derived.ShutString
namespace Go.Proofs.YtnnagboeimeiiaaGreatDoor
open Go.RowKit
def lineAt (k : Nat) (p : Bs) : Bool := !(decide (k = 0) && decide (p.head? = some 32)) && endB p && !(decide (0 < k) && decide (p = []))
theorem linesB_at : ∀ (ls : List Bs), ls ≠ [] → (linesB ls = true ↔ ∀ (j : Nat) (h : j < ls.length), lineAt j ls[j] = true)
 | [], h => absurd rfl h
 | p :: ps, _ => by
   simp only [linesB, Bool.and_eq_true, Bool.not_eq_true', decide_eq_false_iff_not, List.all_eq_true, decide_eq_true_eq]
   constructor
   · rintro ⟨⟨h1, h2⟩, h3⟩ j hj
     cases j with
     | zero => simp [lineAt, h1, h2]
     | succ j =>
       have hj' : j < ps.length := by simpa using hj
       have := h3 ps[j] (List.getElem_mem hj')
       simp [lineAt, this.1]
       exact this.2
   · intro h
     have h0 := h 0 (by simp)
     simp [lineAt] at h0
     refine ⟨⟨h0.1, h0.2⟩, fun q hq => ?_⟩
     obtain ⟨j, hj, rfl⟩ := List.mem_iff_getElem.1 hq
     have := h (j + 1) (by simp; omega)
     simp [lineAt] at this
     exact ⟨this.1, this.2⟩
theorem linesB_no {ls : List Bs} (hne : ls ≠ []) {j : Nat} (h : j < ls.length) (g : lineAt j ls[j] = false) : linesB ls = false := by
 cases e : linesB ls
 · rfl
 · have := (linesB_at ls hne).1 e j h
   rw [g] at this; cases this
theorem field_is (n t : Bs) : fieldB (n, t) = (decide (1 ≤ n.length) && decide (n.length ≤ 60) && decide (t.length ≤ 65536) && headUp n && n.all nmB && t.all txB && linesB (spl 10 t)) := rfl
end Go.Proofs.YtnnagboeimeiiaaGreatDoor
namespace Go.Proofs.YtnnagboeimeiiaaGreatDoor
open Go.RowKit
def rowF (f : Fld) : List Bs := [f.1, f.2]
def getF (l : List Fld) (n : Bs) : Bs × Bool := match l.find? (fun f => decide (lower f.1 = lower n)) with
 | some f => (f.2, true)
 | none => ([], false)
end Go.Proofs.YtnnagboeimeiiaaGreatDoor
namespace Go.Proofs.YtnnagboeimeiiaaGreatDoor
open Go.RowKit
def HoldRR (k : Nat) (w : World) (v : Value) (rss : List (List (List Bs))) : Prop :=
 ∃ (a : Option Addr) (c b o : Nat), v = .slice a rss.length c ∧ rss.length ≤ c ∧ (0 < rss.length → a = some ⟨b, o, none⟩ ∧ b < w.heap.size) ∧
   ∀ (j : Nat) rs, rss[j]? = some rs → ∃ u, w.cell? ⟨b, o + j, none⟩ = some u ∧ HoldR k w u rs
theorem HoldRR.on {k : Nat} {w w' : World} {v : Value} {rss : List (List (List Bs))} (h : HoldRR k w v rss) (hb : Below w.heap.size w w') : HoldRR k w' v rss := by
 obtain ⟨a, c, b, o, rfl, hc, ha, hcell⟩ := h
 refine ⟨a, c, b, o, rfl, hc, fun h0 => ⟨(ha h0).1, Nat.lt_of_lt_of_le (ha h0).2 hb.size⟩, fun j rs hj => ?_⟩
 have h0 : 0 < rss.length := by have := (List.getElem?_eq_some_iff.1 hj).1; omega
 obtain ⟨u, hu, hr⟩ := hcell j rs hj
 exact ⟨u, by rw [hb.cell (ha h0).2]; exact hu, hr.on hb⟩
theorem HoldR.row {k : Nat} {w : World} {b o n c : Nat} {rs : List (List Bs)} (h : HoldR k w (.slice (some ⟨b, o, none⟩) n c) rs) {j : Nat} {r : List Bs} (hj : rs[j]? = some r) {i : Nat} {x : Bs} (hi : i < k) (hx : r[i]? = some x) : w.cell? ⟨b, o + j * k + i, none⟩ = some (.string ⟨x.toArray⟩) := by
 obtain ⟨a', c', b', o', e, _, ha, hcell⟩ := h
 have h0 : 0 < rs.length := by have := (List.getElem?_eq_some_iff.1 hj).1; omega
 simp only [Value.slice.injEq] at e
 have e2 := e.1.trans (ha h0).1
 simp only [Option.some.injEq, Addr.mk.injEq] at e2
 obtain ⟨rfl, rfl, _⟩ := e2
 exact hcell j r hj i x hi hx
theorem rowF_cells {w : World} {b o n c : Nat} {st : List Fld} (h : HoldR 2 w (.slice (some ⟨b, o, none⟩) n c) (st.map rowF)) {t : Nat} {f : Fld} (hf : st[t]? = some f) {x y : ByteArray} (hx : x.data.toList = f.1) (hy : y.data.toList = f.2) : w.cell? ⟨b, o + t * 2, none⟩ = some (.string x) ∧ w.cell? ⟨b, o + t * 2 + 1, none⟩ = some (.string y) := by
 rw [strOf hx, strOf hy]
 have hr : (st.map rowF)[t]? = some (rowF f) := by rw [List.getElem?_map, hf]; rfl
 exact ⟨h.row hr (i := 0) (by omega) rfl, h.row hr (i := 1) (by omega) rfl⟩
theorem stB_at : ∀ (st : List Fld) (seen : List Bs), stB seen st = true ↔ ∀ (k : Nat) (h : k < st.length), lower st[k].1 ∉ seen ++ (st.take k).map (fun f => lower f.1) ∧ fieldB st[k] = true
 | [], seen => by simp [stB]
 | f :: st, seen => by
   simp only [stB, Bool.and_eq_true, Bool.not_eq_true', decide_eq_false_iff_not]
   rw [stB_at st]
   constructor
   · rintro ⟨⟨h1, h2⟩, h3⟩ k hk
     cases k with
     | zero => simpa using ⟨h1, h2⟩
     | succ k =>
       have := h3 k (by simpa using hk)
       simpa using this
   · intro h
     have h0 := h 0 (by simp)
     simp only [List.getElem_cons_zero, List.take_zero, List.map_nil, List.append_nil] at h0
     refine ⟨h0, fun k hk => ?_⟩
     have := h (k + 1) (by simpa using hk)
     simpa using this
theorem stanza_empty {l : List (List Fld)} {i : Nat} (h : i < l.length) (he : l[i] = []) : l.all stanzaB = false := by
 rw [List.all_eq_false]; exact ⟨l[i], List.getElem_mem h, by simp [stanzaB, he]⟩
theorem stanza_bad {l : List (List Fld)} {i : Nat} (h : i < l.length) {k : Nat} (hk : k < l[i].length) (g : lower l[i][k].1 ∈ (l[i].take k).map (fun f => lower f.1) ∨ fieldB l[i][k] = false) : l.all stanzaB = false := by
 rw [List.all_eq_false]
 refine ⟨l[i], List.getElem_mem h, fun hs => ?_⟩
 simp only [stanzaB, Bool.and_eq_true] at hs
 have := (stB_at l[i] []).1 hs.2 k hk
 simp only [List.nil_append] at this
 rcases g with g | g
 · exact this.1 g
 · rw [g] at this; exact absurd this.2 (by simp)
theorem stanza_all {l : List (List Fld)} (h : ∀ (i : Nat) (hi : i < l.length), l[i] ≠ [] ∧ ∀ (k : Nat) (hk : k < l[i].length), lower l[i][k].1 ∉ (l[i].take k).map (fun f => lower f.1) ∧ fieldB l[i][k] = true) : l.all stanzaB = true := by
 rw [List.all_eq_true]
 intro st hst
 obtain ⟨i, hi, rfl⟩ := List.mem_iff_getElem.1 hst
 simp only [stanzaB, Bool.and_eq_true, decide_eq_true_eq]
 exact ⟨(h i hi).1, (stB_at _ []).2 (fun k hk => by simpa using (h i hi).2 k hk)⟩
-- What is left
def leftSs (l : List (List Fld)) (i : Nat) : Bs := if i = 0 then printSs l else if i < l.length then 10 :: printSs (l.drop i) else []
def tailSs (l : List (List Fld)) (i : Nat) : Bs := if i < l.length then 10 :: printSs (l.drop i) else []
theorem printSs_cons (st : List Fld) (l : List (List Fld)) : printSs (st :: l) = printS st ++ (if l = [] then [] else 10 :: printSs l) := by
 cases l <;> simp [printSs]
theorem drop_at {α : Type} {l : List α} {i : Nat} (h : i < l.length) : l.drop i = l[i] :: l.drop (i + 1) := List.drop_eq_getElem_cons h
theorem left_first {l : List (List Fld)} (h : 0 < l.length) : leftSs l 0 = printS l[0] ++ tailSs l 1 := by
 unfold leftSs tailSs
 rw [if_pos rfl]
 have e := drop_at h
 rw [List.drop_zero] at e
 conv => lhs; rw [e]
 rw [printSs_cons]
 by_cases g : 1 < l.length
 · rw [if_pos g, if_neg (fun x => by have := congrArg List.length x; simp at this; omega)]
 · rw [if_neg g, if_pos (List.drop_of_length_le (by omega))]
theorem left_next {l : List (List Fld)} {i : Nat} (h0 : ¬ i = 0) (h : i < l.length) : leftSs l i = 10 :: (printS l[i] ++ tailSs l (i + 1)) := by
 unfold leftSs tailSs
 rw [if_neg h0, if_pos h, drop_at h, printSs_cons]
 by_cases g : i + 1 < l.length
 · rw [if_pos g, if_neg (fun x => by have := congrArg List.length x; simp at this; omega)]
 · rw [if_neg g, if_pos (List.drop_of_length_le (by omega))]
theorem left_tail {l : List (List Fld)} {i : Nat} : tailSs l (i + 1) = leftSs l (i + 1) := by unfold leftSs; rw [if_neg (by omega)]; rfl
theorem left_end (l : List (List Fld)) : leftSs l l.length = [] := by
 unfold leftSs
 by_cases h : l.length = 0
 · rw [if_pos h, List.eq_nil_of_length_eq_zero h]; rfl
 · rw [if_neg h, if_neg (by omega)]
theorem printS_drop {st : List Fld} {k : Nat} (h : k < st.length) : printS (st.drop k) = st[k].1 ++ 58 :: (printT (spl 10 st[k].2) ++ printS (st.drop (k + 1))) := by
 unfold printS
 rw [drop_at h, List.flatMap_cons]
 unfold printF
 simp only [List.append_assoc, List.cons_append]
theorem printS_end (st : List Fld) : printS (st.drop st.length) = [] := by rw [List.drop_length]; rfl
end Go.Proofs.YtnnagboeimeiiaaGreatDoor
