/-
  Slices of rows of texts in memory: what they hold; how that is carried. The reference's Lower; slices of rows of texts in memory; the reference's Get: what they return; nothing old turns. Printing stanzas step by step: what is left behind each step; which error; nothing of the program. The reference's Print of stanzas: what it returns; nothing old turns.
-/
import Derived.Test.YtbeoklihpkfofaaGreatDoorLList
import Derived.Test.YtbeoklihpkfofaaGreatDoorSPA
import Derived.Laws.Runes
import Derived.ShutString
import Derived.Deep.DeepCutAuto
import Derived.Deep.CutRange
namespace Go.Proofs.YtbeoklihpkfofaaGreatDoor
open Go.RowKit
-- Rows
/-- The slice value v holds the rows rs, of k texts each. -/
def HoldR (k : Nat) (w : World) (v : Value) (rs : List (List Bs)) : Prop :=
  ∃ (a : Option Addr) (c b o : Nat), v = .slice a rs.length c ∧ rs.length ≤ c ∧ (0 < rs.length → a = some ⟨b, o, none⟩ ∧ b < w.heap.size) ∧
    ∀ (j : Nat) r, rs[j]? = some r → ∀ (i : Nat) x, i < k → r[i]? = some x → w.cell? ⟨b, o + j * k + i, none⟩ = some (.string ⟨x.toArray⟩)
theorem HoldR.on {k : Nat} {w w' : World} {v : Value} {rs : List (List Bs)} (h : HoldR k w v rs) (hb : Below w.heap.size w w') : HoldR k w' v rs := by
  obtain ⟨a, c, b, o, rfl, hc, ha, hcell⟩ := h
  refine ⟨a, c, b, o, rfl, hc, fun h0 => ⟨(ha h0).1, Nat.lt_of_lt_of_le (ha h0).2 hb.size⟩, fun j r hj i x hi hx => ?_⟩
  have h0 : 0 < rs.length := by have := (List.getElem?_eq_some_iff.1 hj).1; omega
  rw [hb.cell (ha h0).2]
  exact hcell j r hj i x hi hx
theorem HoldR.cut {k : Nat} {w : World} {a : Option Addr} {c n : Nat} {rs : List (List Bs)} (h : HoldR k w (.slice a n c) rs) (m : Nat) (hm : m ≤ n) : HoldR k w (.slice a m c) (rs.take m) := by
  obtain ⟨a', c', b, o, e, hc, ha, hcell⟩ := h
  simp only [Value.slice.injEq] at e
  obtain ⟨rfl, rfl, rfl⟩ := e
  have hl : (rs.take m).length = m := by rw [List.length_take]; omega
  refine ⟨a, c, b, o, by rw [hl], by omega, fun h0 => ha (by omega), fun j r hj => ?_⟩
  rw [List.getElem?_take] at hj
  split at hj
  · exact hcell j r hj
  · cases hj
end Go.Proofs.YtbeoklihpkfofaaGreatDoor
namespace Go.Proofs.YtbeoklihpkfofaaGreatDoor
open Go.RowKit
theorem enc_low : ∀ d : Fin 26, Utf8.encode ((97 + d.val : Nat) : Int) = ⟨#[UInt8.ofNat (97 + d.val)]⟩ := by decide +kernel
theorem low_up {c : UInt8} (h1 : 65 ≤ c.toNat) (h2 : c.toNat ≤ 90) : lowC c = UInt8.ofNat (c.toNat + 32) := by
  unfold lowC upB
  rw [decide_eq_true h1, decide_eq_true h2]
  simp only [Bool.and_self, if_true]
  apply UInt8.toNat_inj.1
  rw [UInt8.toNat_add, UInt8.toNat_ofNat']
  rfl
theorem low_no {c : UInt8} (h : ¬ (65 ≤ c.toNat ∧ c.toNat ≤ 90)) : lowC c = c := by
  unfold lowC upB
  rw [if_neg]
  simp only [Bool.and_eq_true, decide_eq_true_eq]; exact h
theorem rune_low (c : UInt8) (h1 : 65 ≤ c.toNat) (h2 : c.toNat ≤ 90) (w : World) : (convert 21 9 (.int .i32 ((c.toNat : Int) + 32))).run Tryz.prog w = .ok (.string ⟨#[lowC c]⟩) w := by
  have e := enc_low ⟨c.toNat - 65, by omega⟩
  simp only [] at e
  have e2 : 97 + (c.toNat - 65) = c.toNat + 32 := by omega
  rw [e2] at e
  rw [run_convert_int_string w 21 9 .i32 _ (by kernel_rfl) Tryz.underlying9, show ((c.toNat : Int) + 32) = ((c.toNat + 32 : Nat) : Int) by omega, e, low_up h1 h2]
set_option maxRecDepth 100000 in
set_option maxHeartbeats 4000000 in
theorem lower_ref (s : ByteArray) (hs : s.size ≤ 100000) (w : World) :
    Calls Tryz.prog 149 #[.string s] w fun e w' => e = .returned (.string ⟨(lower s.data.toList).toArray⟩) ∧ w = w' := by
  have h1s : ∀ x, (ByteArray.mk #[x]).size = 1 := fun _ => rfl
  go_enter Tryz.func149, Tryz.ntmps149
  go_wp2
  go_loop [3, 4] (fun o i => ∃ (k : Nat) (S : ByteArray), k ≤ s.size ∧ i = .int .i64 k ∧ o = .string S ∧ S.size ≤ k ∧ Hid (S.data.toList = lower (s.data.toList.take k))) (fun _ i => s.size - (intOf i).toNat)
  case atStart => exact ⟨0, ⟨#[]⟩, by omega, rfl, rfl, Nat.le_refl _, Lib.hid (by simp [lower])⟩
  case round =>
    obtain ⟨k, S, hk, rfl, rfl, hS, H⟩ := hrel
    by_cases hlt : k < s.size
    · have hx := s[k].toNat_lt
      have hsn := takeSn s k hlt
      obtain ⟨x1, x2⟩ := extOne s k hlt
      by_cases h1 : 65 ≤ s[k].toNat
      · by_cases h2 : s[k].toNat ≤ 90
        · have hr := rune_low s[k] h1 h2
          have HN : Hid ((S ++ ⟨#[lowC s[k]]⟩).data.toList = lower (s.data.toList.take (k + 1))) := Lib.hid (by rw [hsn, ByteArray.data_append, Array.toList_append, H.out]; simp [lower])
          clear hsn x1 x2
          go_wp2
          go_round
          case rel => exact ⟨k + 1, _, by omega, by go_num, rfl, by rw [ByteArray.size_append, h1s]; omega, HN⟩
          case measure => simp [intOf]; omega
        · have HN : Hid ((S ++ s.extract k (k + 1)).data.toList = lower (s.data.toList.take (k + 1))) := Lib.hid (by rw [hsn, ByteArray.data_append, Array.toList_append, H.out, x1]; simp [lower, low_no (c := s[k]) (fun g => h2 g.2)])
          have hsx : (s.extract k (k + 1)).size ≤ 1 := by omega
          clear hsn x1 x2
          go_wp2
          go_round
          case rel => exact ⟨k + 1, _, by omega, by go_num, rfl, by rw [ByteArray.size_append]; omega, HN⟩
          case measure => simp [intOf]; omega
      · have HN : Hid ((S ++ s.extract k (k + 1)).data.toList = lower (s.data.toList.take (k + 1))) := Lib.hid (by rw [hsn, ByteArray.data_append, Array.toList_append, H.out, x1]; simp [lower, low_no (c := s[k]) (fun g => h1 g.1)])
        have hsx : (s.extract k (k + 1)).size ≤ 1 := by omega
        clear hsn x1 x2
        go_wp2
        go_round
        case rel => exact ⟨k + 1, _, by omega, by go_num, rfl, by rw [ByteArray.size_append]; omega, HN⟩
        case measure => simp [intOf]; omega
    · obtain rfl : k = s.size := by omega
      have HN : Hid (S = ⟨(lower s.data.toList).toArray⟩) := Lib.hid (strOf (by rw [H.out, takeAll]))
      clear hlt
      go_wp2
      go_ret
      exact ⟨congrArg (fun x => Ending.returned (Value.string x)) HN.out, rfl⟩
def rowF (f : Fld) : List Bs := [f.1, f.2]
def getF (l : List Fld) (n : Bs) : Bs × Bool := match l.find? (fun f => decide (lower f.1 = lower n)) with
  | some f => (f.2, true)
  | none => ([], false)
theorem getF_snd (l : List Fld) (n : Bs) : (getF l n).2 = decide (lower n ∈ l.map fun f => lower f.1) := by
  unfold getF
  cases h : l.find? (fun f => decide (lower f.1 = lower n)) with
  | some f =>
    have h1 := List.find?_some h
    have h2 := List.mem_of_find?_eq_some h
    simp only [decide_eq_true_eq] at h1
    exact (decide_eq_true (List.mem_map.2 ⟨f, h2, h1⟩)).symm
  | none =>
    rw [List.find?_eq_none] at h
    refine (decide_eq_false fun hm => ?_).symm
    obtain ⟨f, hf, e⟩ := List.mem_map.1 hm
    exact h f hf (by simp [e])
theorem getF_no {l : List Fld} {n : Bs} {k : Nat} (h : ∀ (j : Nat) (hj : j < l.length), j < k → lower l[j].1 ≠ lower n) (hk : k = l.length) : getF l n = ([], false) := by
  unfold getF
  rw [List.find?_eq_none.2]
  intro f hf g
  obtain ⟨j, hj, rfl⟩ := List.mem_iff_getElem.1 hf
  exact h j hj (by omega) (by simpa using g)
theorem getF_at {l : List Fld} {n : Bs} {k : Nat} (hk : k < l.length) (h : ∀ (j : Nat) (hj : j < l.length), j < k → lower l[j].1 ≠ lower n) (g : lower l[k].1 = lower n) : getF l n = (l[k].2, true) := by
  have e : l.find? (fun f => decide (lower f.1 = lower n)) = some l[k] := by
    rw [List.find?_eq_some_iff_getElem]
    exact ⟨by simp [g], k, hk, rfl, fun j hj => by simp; exact h j (by omega) hj⟩
  unfold getF; rw [e]
def GetPost (l : List Fld) (n : Bs) (w : World) (e : Ending) (w' : World) : Prop := e = .returned (.tuple #[.string ⟨(getF l n).1.toArray⟩, .bool (getF l n).2]) ∧ w' = w
set_option maxRecDepth 100000 in
set_option maxHeartbeats 4000000 in
theorem get_ref (v : Value) (l : List Fld) (hn : l.length ≤ 10000) (hs : ∀ f ∈ l, f.1.length ≤ 100000) (n : ByteArray) (hns : n.size ≤ 100000) (w : World) (h : HoldR 2 w v (l.map rowF)) :
    Calls Tryz.prog 101 #[v, .string n] w (GetPost l n.data.toList w) := by
  obtain ⟨a, c, b, o, rfl, hc, ha, hcell⟩ := h
  rw [List.length_map] at hc ha
  rw [List.length_map]
  have HC := Lib.hid (fun (k : Nat) (hk : k < l.length) => And.intro (hcell k (rowF l[k]) (by simp [hk]) 0 l[k].1 (by omega) rfl) (hcell k (rowF l[k]) (by simp [hk]) 1 l[k].2 (by omega) rfl))
  have HS := Lib.hid hs
  have L1 := fun (x : ByteArray) (hx : x.size ≤ 100000) w => lower_ref x hx w
  have L2 := fun w => lower_ref n hns w
  have HP : Hid (∀ e x b, getF l n.data.toList = (x, b) → e = .returned (.tuple #[.string ⟨x.toArray⟩, .bool b]) → GetPost l n.data.toList w e w) := Lib.hid (fun e x b h g => ⟨by rw [h]; exact g, rfl⟩)
  obtain ⟨m, hN⟩ : ∃ m, l.length = m := ⟨_, rfl⟩
  rw [hN] at hc ha hn ⊢
  clear hcell hs
  have HN := Lib.hid hN
  clear hN
  go_enter Tryz.func101, Tryz.ntmps101
  go_wp2
  go_loop [6] (fun i => ∃ k : Nat, k ≤ m ∧ i = .int .i64 k ∧ Hid (∀ (j : Nat) (hj : j < l.length), j < k → lower l[j].1 ≠ lower n.data.toList)) (fun i => m - (intOf i).toNat)
  case atStart => exact ⟨0, by omega, rfl, Lib.hid (fun j hj g => by omega)⟩
  case round =>
    obtain ⟨k, hk, rfl, H⟩ := hrel
    by_cases hlt : k < m
    · obtain ⟨rfl, hbw⟩ := ha (by omega)
      have hkl : k < l.length := by rw [HN.out]; exact hlt
      obtain ⟨x, hx⟩ : ∃ x : ByteArray, x.data.toList = l[k].1 := ⟨⟨(l[k].1).toArray⟩, by simp⟩
      obtain ⟨y, hy⟩ : ∃ y : ByteArray, y.data.toList = l[k].2 := ⟨⟨(l[k].2).toArray⟩, by simp⟩
      obtain ⟨c0, c1⟩ := HC.out k hkl
      rw [← strOf hx] at c0
      rw [← strOf hy] at c1
      have D1 := L1 x (by rw [sizeOf, hx]; exact HS.out _ (List.getElem_mem _))
      obtain ⟨X, hX⟩ : ∃ X : ByteArray, X = ⟨(lower x.data.toList).toArray⟩ := ⟨_, rfl⟩
      obtain ⟨N, hNN⟩ : ∃ N : ByteArray, N = ⟨(lower n.data.toList).toArray⟩ := ⟨_, rfl⟩
      rw [← hX] at D1
      have D2 := L2
      rw [← hNN] at D2
      have hq := eqT X N
      have hXl : X.data.toList = lower l[k].1 := by rw [hX, bytesOf, hx]
      have hNl : N.data.toList = lower n.data.toList := by rw [hNN, bytesOf]
      rw [hXl, hNl] at hq
      simp only [Nat.add_zero] at c0
      clear hX hNN hXl hNl L2
      by_cases he : lower l[k].1 = lower n.data.toList
      · rw [decide_eq_true he] at hq
        have HR : Hid (getF l n.data.toList = (y.data.toList, true)) := Lib.hid (by rw [getF_at hkl H.out he, hy])
        clear he hx hy H L1
        go_wp2_with (first | (go_at_call 149; first | ((with_reducible refine (D1 _).mono ?_); rintro e w1 ⟨rfl, rfl⟩) | ((with_reducible refine (D2 _).mono ?_); rintro e w1 ⟨rfl, rfl⟩)))
        go_ret2
        refine HP.out _ _ _ HR.out ?_
        rw [← strOf (x := y) rfl]
        rfl
      · rw [decide_eq_false he] at hq
        have HK : Hid (∀ (j : Nat) (hj : j < l.length), j < k + 1 → lower l[j].1 ≠ lower n.data.toList) := Lib.hid (fun j hj g => by
          by_cases e : j = k
          · subst e; exact he
          · exact H.out j hj (by omega))
        clear he hx hy H L1
        go_wp2_with (first | (go_at_call 149; first | ((with_reducible refine (D1 _).mono ?_); rintro e w1 ⟨rfl, rfl⟩) | ((with_reducible refine (D2 _).mono ?_); rintro e w1 ⟨rfl, rfl⟩)))
        go_round
        case rel => exact ⟨k + 1, by omega, by go_num, HK⟩
        case measure => simp [intOf]; omega
    · obtain rfl : k = m := by omega
      have HR : Hid (getF l n.data.toList = ([], false)) := Lib.hid (getF_no H.out HN.out.symm)
      clear hlt ha H
      go_wp2
      go_ret2
      exact HP.out _ _ _ HR.out rfl
end Go.Proofs.YtbeoklihpkfofaaGreatDoor
namespace Go.Proofs.YtbeoklihpkfofaaGreatDoor
open Go.RowKit
/-- The slice value v holds the slices of rows rss. -/
def HoldRR (k : Nat) (w : World) (v : Value) (rss : List (List (List Bs))) : Prop :=
  ∃ (a : Option Addr) (c b o : Nat), v = .slice a rss.length c ∧ rss.length ≤ c ∧ (0 < rss.length → a = some ⟨b, o, none⟩ ∧ b < w.heap.size) ∧
    ∀ (j : Nat) rs, rss[j]? = some rs → ∃ u, w.cell? ⟨b, o + j, none⟩ = some u ∧ HoldR k w u rs
theorem HoldRR.on {k : Nat} {w w' : World} {v : Value} {rss : List (List (List Bs))} (h : HoldRR k w v rss) (hb : Below w.heap.size w w') : HoldRR k w' v rss := by
  obtain ⟨a, c, b, o, rfl, hc, ha, hcell⟩ := h
  refine ⟨a, c, b, o, rfl, hc, fun h0 => ⟨(ha h0).1, Nat.lt_of_lt_of_le (ha h0).2 hb.size⟩, fun j rs hj => ?_⟩
  have h0 : 0 < rss.length := by have := (List.getElem?_eq_some_iff.1 hj).1; omega
  obtain ⟨u, hu, hr⟩ := hcell j rs hj
  exact ⟨u, by rw [hb.cell (ha h0).2]; exact hu, hr.on hb⟩
theorem HoldR.row {k : Nat} {w : World} {b o n c : Nat} {rs : List (List Bs)} (h : HoldR k w (.slice (some ⟨b, o, none⟩) n c) rs) {j : Nat} {r : List Bs} (hj : rs[j]? = some r) {i : Nat} {x : Bs} (hi : i < k) (hx : r[i]? = some x) : w.cell? ⟨b, o + j * k + i, none⟩ = some (.string ⟨x.toArray⟩) := by
  obtain ⟨a', c', b', o', e, _, ha, hcell⟩ := h
  have h0 : 0 < rs.length := by have := (List.getElem?_eq_some_iff.1 hj).1; omega
  simp only [Value.slice.injEq] at e
  have e2 := e.1.trans (ha h0).1
  simp only [Option.some.injEq, Addr.mk.injEq] at e2
  obtain ⟨rfl, rfl, _⟩ := e2
  exact hcell j r hj i x hi hx
theorem rowF_cells {w : World} {b o n c : Nat} {st : List Fld} (h : HoldR 2 w (.slice (some ⟨b, o, none⟩) n c) (st.map rowF)) {t : Nat} {f : Fld} (hf : st[t]? = some f) {x y : ByteArray} (hx : x.data.toList = f.1) (hy : y.data.toList = f.2) : w.cell? ⟨b, o + t * 2, none⟩ = some (.string x) ∧ w.cell? ⟨b, o + t * 2 + 1, none⟩ = some (.string y) := by
  rw [strOf hx, strOf hy]
  have hr : (st.map rowF)[t]? = some (rowF f) := by rw [List.getElem?_map, hf]; rfl
  exact ⟨h.row hr (i := 0) (by omega) rfl, h.row hr (i := 1) (by omega) rfl⟩
theorem stB_at : ∀ (st : List Fld) (seen : List Bs), stB seen st = true ↔ ∀ (k : Nat) (h : k < st.length), lower st[k].1 ∉ seen ++ (st.take k).map (fun f => lower f.1) ∧ fieldB st[k] = true
  | [], seen => by simp [stB]
  | f :: st, seen => by
    simp only [stB, Bool.and_eq_true, Bool.not_eq_true', decide_eq_false_iff_not]
    rw [stB_at st]
    constructor
    · rintro ⟨⟨h1, h2⟩, h3⟩ k hk
      cases k with
      | zero => simpa using ⟨h1, h2⟩
      | succ k =>
        have := h3 k (by simpa using hk)
        simpa using this
    · intro h
      have h0 := h 0 (by simp)
      simp only [List.getElem_cons_zero, List.take_zero, List.map_nil, List.append_nil] at h0
      refine ⟨h0, fun k hk => ?_⟩
      have := h (k + 1) (by simpa using hk)
      simpa using this
theorem stanza_empty {l : List (List Fld)} {i : Nat} (h : i < l.length) (he : l[i] = []) : l.all stanzaB = false := by
  rw [List.all_eq_false]; exact ⟨l[i], List.getElem_mem h, by simp [stanzaB, he]⟩
theorem stanza_bad {l : List (List Fld)} {i : Nat} (h : i < l.length) {k : Nat} (hk : k < l[i].length) (g : lower l[i][k].1 ∈ (l[i].take k).map (fun f => lower f.1) ∨ fieldB l[i][k] = false) : l.all stanzaB = false := by
  rw [List.all_eq_false]
  refine ⟨l[i], List.getElem_mem h, fun hs => ?_⟩
  simp only [stanzaB, Bool.and_eq_true] at hs
  have := (stB_at l[i] []).1 hs.2 k hk
  simp only [List.nil_append] at this
  rcases g with g | g
  · exact this.1 g
  · rw [g] at this; exact absurd this.2 (by simp)
theorem stanza_all {l : List (List Fld)} (h : ∀ (i : Nat) (hi : i < l.length), l[i] ≠ [] ∧ ∀ (k : Nat) (hk : k < l[i].length), lower l[i][k].1 ∉ (l[i].take k).map (fun f => lower f.1) ∧ fieldB l[i][k] = true) : l.all stanzaB = true := by
  rw [List.all_eq_true]
  intro st hst
  obtain ⟨i, hi, rfl⟩ := List.mem_iff_getElem.1 hst
  simp only [stanzaB, Bool.and_eq_true, decide_eq_true_eq]
  exact ⟨(h i hi).1, (stB_at _ []).2 (fun k hk => by simpa using (h i hi).2 k hk)⟩
-- What is left
def leftSs (l : List (List Fld)) (i : Nat) : Bs := if i = 0 then printSs l else if i < l.length then 10 :: printSs (l.drop i) else []
def tailSs (l : List (List Fld)) (i : Nat) : Bs := if i < l.length then 10 :: printSs (l.drop i) else []
theorem printSs_cons (st : List Fld) (l : List (List Fld)) : printSs (st :: l) = printS st ++ (if l = [] then [] else 10 :: printSs l) := by
  cases l <;> simp [printSs]
theorem drop_at {α : Type} {l : List α} {i : Nat} (h : i < l.length) : l.drop i = l[i] :: l.drop (i + 1) := List.drop_eq_getElem_cons h
theorem left_first {l : List (List Fld)} (h : 0 < l.length) : leftSs l 0 = printS l[0] ++ tailSs l 1 := by
  unfold leftSs tailSs
  rw [if_pos rfl]
  have e := drop_at h
  rw [List.drop_zero] at e
  conv => lhs; rw [e]
  rw [printSs_cons]
  by_cases g : 1 < l.length
  · rw [if_pos g, if_neg (fun x => by have := congrArg List.length x; simp at this; omega)]
  · rw [if_neg g, if_pos (List.drop_of_length_le (by omega))]
theorem left_next {l : List (List Fld)} {i : Nat} (h0 : ¬ i = 0) (h : i < l.length) : leftSs l i = 10 :: (printS l[i] ++ tailSs l (i + 1)) := by
  unfold leftSs tailSs
  rw [if_neg h0, if_pos h, drop_at h, printSs_cons]
  by_cases g : i + 1 < l.length
  · rw [if_pos g, if_neg (fun x => by have := congrArg List.length x; simp at this; omega)]
  · rw [if_neg g, if_pos (List.drop_of_length_le (by omega))]
theorem left_tail {l : List (List Fld)} {i : Nat} : tailSs l (i + 1) = leftSs l (i + 1) := by unfold leftSs; rw [if_neg (by omega)]; rfl
theorem left_end (l : List (List Fld)) : leftSs l l.length = [] := by
  unfold leftSs
  by_cases h : l.length = 0
  · rw [if_pos h, List.eq_nil_of_length_eq_zero h]; rfl
  · rw [if_neg h, if_neg (by omega)]
theorem printS_drop {st : List Fld} {k : Nat} (h : k < st.length) : printS (st.drop k) = st[k].1 ++ 58 :: (printT (spl 10 st[k].2) ++ printS (st.drop (k + 1))) := by
  unfold printS
  rw [drop_at h, List.flatMap_cons]
  unfold printF
  simp only [List.append_assoc, List.cons_append]
theorem printS_end (st : List Fld) : printS (st.drop st.length) = [] := by rw [List.drop_length]; rfl
/-- What is left of a field's lines. -/
def leftT (ls : List Bs) (j : Nat) : Bs := if j = 0 then printT ls else (ls.drop j).flatMap tailLine
theorem leftT_head {ls : List Bs} (h : 0 < ls.length) : leftT ls 0 = (if ls[0] ≠ [] then (32 : UInt8) :: ls[0] else ls[0]) ++ 10 :: leftT ls 1 := by
  match ls, h with
  | p :: ps, _ =>
    show printT (p :: ps) = _
    have e : leftT (p :: ps) 1 = ps.flatMap tailLine := by unfold leftT; rw [if_neg (by omega)]; rfl
    rw [e]
    unfold printT headLine
    simp only [List.getElem_cons_zero, List.append_assoc, List.cons_append, List.nil_append]
theorem leftT_next {ls : List Bs} {j : Nat} (h0 : ¬ j = 0) (h : j < ls.length) : leftT ls j = 32 :: (ls[j] ++ 10 :: leftT ls (j + 1)) := by
  unfold leftT
  rw [if_neg h0, if_neg (by omega), drop_at h, List.flatMap_cons]
  unfold tailLine
  simp only [List.append_assoc, List.cons_append, List.nil_append]
theorem leftT_end {ls : List Bs} (h : ls ≠ []) : leftT ls ls.length = [] := by
  unfold leftT
  have := List.length_pos_iff.2 h
  rw [if_neg (by omega), List.drop_length]; rfl
end Go.Proofs.YtbeoklihpkfofaaGreatDoor
namespace Go.Proofs.YtbeoklihpkfofaaGreatDoor
open Go.RowKit
def PrintPost (l : List (List Fld)) (w : World) (e : Ending) (w' : World) : Prop := e = .returned (.tuple #[.string ⟨(printE l).1.toArray⟩, .int .i64 (printE l).2]) ∧ Below w.heap.size w w'
theorem box2 {A B : World} {b : Nat} {x y : ByteArray} (h : A.cell? ⟨b, 0, none⟩ = some (.string x) ∧ A.cell? ⟨b, 1, none⟩ = some (.string y)) (hb : Below A.heap.size A B) : B.cell? ⟨b, 0, none⟩ = some (.string x) ∧ B.cell? ⟨b, 1, none⟩ = some (.string y) := by
  have hlt := World.block_lt_of_cell? A _ h.1
  have k := fun o => hb.cell (p := ⟨b, o, none⟩) hlt
  exact ⟨by rw [k]; exact h.1, by rw [k]; exact h.2⟩
theorem boxNew (A : World) (x y : ByteArray) (t : TypeId) (q : Nat) : ((A.alloc (.cells #[.string x, .string y] t)).drewN q).cell? ⟨A.heap.size, 0, none⟩ = some (.string x) ∧ ((A.alloc (.cells #[.string x, .string y] t)).drewN q).cell? ⟨A.heap.size, 1, none⟩ = some (.string y) := by
  rw [World.cell?_drewN, World.cell?_drewN]; simp [World.cell?_alloc_new]
theorem len_of {a b c : Bs} (h : a ++ b = c) : a.length + b.length = c.length := by rw [← h, List.length_append]
set_option maxRecDepth 100000 in
set_option maxHeartbeats 32000000 in
theorem print_ref (v : Value) (l : List (List Fld)) (hl : l.length ≤ 10000) (hll : ∀ st ∈ l, st.length ≤ 10000) (hs : ∀ st ∈ l, ∀ f ∈ st, f.1.length ≤ 100000 ∧ f.2.length ≤ 100000) (hb : (printSs l).length ≤ 1000000) (w : World) (h : HoldRR 2 w v (l.map (·.map rowF))) :
    Calls Tryz.prog 60 #[v] w (PrintPost l w) := by
  obtain ⟨a, c, b, o, rfl, hc, ha, hcell⟩ := h
  rw [List.length_map] at hc ha
  rw [List.length_map]
  have HC := Lib.hid (fun (i : Nat) (st : List Fld) (hi : l[i]? = some st) => hcell i (st.map rowF) (by simp [hi]))
  have HS := Lib.hid (And.intro hll hs)
  have HBD := Lib.hid hb
  have G22 : (64 < l.length ∨ l.any (fun st => decide (64 < st.length)) = true) → Hid (∀ e w', e = .returned (.tuple #[.string ⟨#[]⟩, .int .i64 22]) → Below w.heap.size w w' → PrintPost l w e w') := fun g => Lib.hid (fun e w' h1 h2 => ⟨by unfold printE; rw [if_pos g]; exact h1, h2⟩)
  have G1 : ¬ (64 < l.length ∨ l.any (fun st => decide (64 < st.length)) = true) → l.all stanzaB = false → Hid (∀ e w', e = .returned (.tuple #[.string ⟨#[]⟩, .int .i64 1]) → Below w.heap.size w w' → PrintPost l w e w') := fun g g2 => Lib.hid (fun e w' h1 h2 => ⟨by unfold printE; rw [if_neg g, if_neg (by rw [g2]; simp)]; exact h1, h2⟩)
  have G0 : ¬ (64 < l.length ∨ l.any (fun st => decide (64 < st.length)) = true) → l.all stanzaB = true → Hid (∀ (S : ByteArray) e w', S.data.toList = printSs l → e = .returned (.tuple #[.string S, .int .i64 0]) → Below w.heap.size w w' → PrintPost l w e w') := fun g g2 => Lib.hid (fun S e w' hS h1 h2 => ⟨by unfold printE; rw [if_neg g, if_pos g2, ← strOf hS]; exact h1, h2⟩)
  have H22 := Lib.hid G22
  have H1 := Lib.hid G1
  have H0 := Lib.hid G0
  obtain ⟨n, hN⟩ : ∃ n, l.length = n := ⟨_, rfl⟩
  rw [hN] at hc ha hl ⊢
  have HN := Lib.hid hN
  clear hcell hll hs hb G22 G1 G0
  by_cases h64 : 64 < n
  · have G := H22.out (.inl (by rw [hN]; exact h64))
    clear hN
    go_enter Tryz.func60, Tryz.ntmps60
    go_wp2
    go_ret2
    exact G.out _ _ rfl (Below.refl _ _)
  clear hN
  go_enter Tryz.func60, Tryz.ntmps60
  go_wp2
  go_loop [4] (fun i => ∃ k : Nat, k ≤ n ∧ i = .int .i64 k ∧ Hid (∀ (j : Nat) (hj : j < l.length), j < k → l[j].length ≤ 64)) (fun i => n - (intOf i).toNat)
  case atStart => exact ⟨0, by omega, rfl, Lib.hid (fun j hj g => by omega)⟩
  case round =>
    obtain ⟨k, hk, rfl, H⟩ := hrel
    by_cases hlt : k < n
    · obtain ⟨rfl, hbw⟩ := ha (by omega)
      obtain ⟨st, hst⟩ : ∃ st, l[k]? = some st := ⟨_, List.getElem?_eq_getElem (by rw [HN.out]; exact hlt)⟩
      obtain ⟨u, hu, hr⟩ := HC.out k st hst
      obtain ⟨ai, ci, bi, oi, rfl, hci, hai, hcelli⟩ := hr
      rw [List.length_map] at hu hci hai
      have hm1 := HS.out.1 _ (List.mem_of_getElem? hst)
      have HST := Lib.hid hst
      obtain ⟨m, hm⟩ : ∃ m, st.length = m := ⟨_, rfl⟩
      rw [hm] at hu hci hai hm1
      have HM := Lib.hid hm
      clear hcelli hm hai hst
      by_cases hm64 : 64 < m
      · have G := H22.out (.inr (by rw [List.any_eq_true]; exact ⟨st, List.mem_of_getElem? HST.out, by rw [HM.out]; exact decide_eq_true hm64⟩))
        go_wp2
        go_ret2
        exact G.out _ _ rfl (Below.refl _ _)
      · have HK : Hid (∀ (j : Nat) (hj : j < l.length), j < k + 1 → l[j].length ≤ 64) := Lib.hid (fun j hj g => by
          by_cases e : j = k
          · subst e; rw [(List.getElem?_eq_some_iff.1 HST.out).2, HM.out]; omega
          · exact H.out j hj (by omega))
        go_wp2
        go_round
        case rel => exact ⟨k + 1, by omega, by go_num, HK⟩
        case measure => simp [intOf]; omega
    · obtain rfl : k = n := by omega
      have hno : ¬ (64 < l.length ∨ l.any (fun st => decide (64 < st.length)) = true) := by
        rintro (g | g)
        · rw [HN.out] at g; omega
        · rw [List.any_eq_true] at g
          obtain ⟨st, hst, g⟩ := g
          obtain ⟨j, hj, rfl⟩ := List.mem_iff_getElem.1 hst
          have := H.out j hj (by rw [← HN.out]; exact hj)
          simp at g; omega
      have K1 := Lib.hid (H1.out hno)
      have K0 := Lib.hid (H0.out hno)
      clear hno H hlt H22 H1 H0
      go_wp2
      go_loopw [5, 6] (fun s i wr => ∃ (k' : Nat) (S : ByteArray), k' ≤ k ∧ i = .int .i64 k' ∧ s = .string S ∧ Hid (S.data.toList ++ leftSs l k' = printSs l) ∧ Hid (∀ (j : Nat) (hj : j < l.length), j < k' → l[j] ≠ [] ∧ ∀ (t : Nat) (ht : t < l[j].length), lower l[j][t].1 ∉ (l[j].take t).map (fun f => lower f.1) ∧ fieldB l[j][t] = true) ∧ Hid (Below w.heap.size w wr)) (fun _ i _ => k - (intOf i).toNat)
      case atStart => exact ⟨0, ⟨#[]⟩, by omega, rfl, rfl, Lib.hid (by unfold leftSs; rw [if_pos rfl]; rfl), Lib.hid (fun j hj g => by omega), Lib.hid (Below.refl _ _)⟩
      case round =>
        obtain ⟨i, S, hi, rfl, rfl, HL, HK, HB⟩ := hrel
        obtain ⟨wo, rfl⟩ : ∃ wo : World, wo = wr := ⟨_, rfl⟩
        have hSz : S.size ≤ 1000000 := by rw [sizeOf]; have := len_of HL.out; have := HBD.out; omega
        by_cases hlt : i < k
        · obtain ⟨rfl, hbw⟩ := ha (by omega)
          obtain ⟨st, hst⟩ : ∃ st, l[i]? = some st := ⟨_, List.getElem?_eq_getElem (by rw [HN.out]; exact hlt)⟩
          obtain ⟨u, hu0, hr0⟩ := HC.out i st hst
          have hu : wo.cell? ⟨b, o + i, none⟩ = some u := (HB.out.cell (p := ⟨b, o + i, none⟩) hbw).trans hu0
          have HRR := Lib.hid (hr0.on HB.out)
          have hr := HRR.out
          obtain ⟨ai, ci, bi, oi, rfl, hci, hai, hcelli⟩ := hr
          rw [List.length_map] at hu hci hai
          have hm1 := HS.out.1 _ (List.mem_of_getElem? hst)
          have HST := Lib.hid (List.getElem?_eq_some_iff.1 hst)
          obtain ⟨m, hm⟩ : ∃ m, st.length = m := ⟨_, rfl⟩
          rw [List.length_map, hm] at HRR hr0 hu0
          rw [hm] at hu hci hai hm1
          have HM := Lib.hid hm
          have HU0 := Lib.hid hu0
          have HR0 := Lib.hid hr0
          clear hcelli hm hu0 hr0 hst
          by_cases hm0 : m = 0
          · have G := K1.out (by obtain ⟨h1, h2⟩ := HST.out; exact stanza_empty h1 (List.eq_nil_of_length_eq_zero (by rw [h2, HM.out]; exact hm0)))
            have e0 : ((m : Int) == 0) = true := by simp [hm0]
            go_wp2
            go_ret2
            exact G.out _ _ rfl HB.out
          · have e0 : ((m : Int) == 0) = false := by rw [beq_eq_false_iff_ne]; omega
            have HLF : Hid ((i = 0 → S.data.toList ++ (printS st ++ tailSs l (i + 1)) = printSs l) ∧ (¬ i = 0 → (S ++ ⟨#[10]⟩).data.toList ++ (printS st ++ tailSs l (i + 1)) = printSs l)) := Lib.hid (by
              obtain ⟨h1, h2⟩ := HST.out
              constructor
              · intro g; subst g; rw [← HL.out, left_first h1, h2]
              · intro g; rw [← HL.out, left_next g h1, ByteArray.data_append, h2]; simp)
            clear HL
            go_upto_if 41 with fail
            go_cut [5] from 28 to 112 (fun s wx => ∃ S' : ByteArray, s = .string S' ∧ wx = wo ∧ Hid (S'.data.toList ++ (printS st ++ tailSs l (i + 1)) = printSs l))
            case first =>
              by_cases hi0 : i = 0
              · have HX := Lib.hid (HLF.out.1 hi0)
                subst hi0
                clear HLF
                go_wp2
                go_meet
                case rel => exact ⟨S, rfl, rfl, HX⟩
              · have HX := Lib.hid (HLF.out.2 hi0)
                have hi1 : 0 < i := by omega
                have h1s : ∀ x, (ByteArray.mk #[x]).size = 1 := fun _ => rfl
                clear HLF hi0
                go_wp2
                go_meet
                case rel => exact ⟨_, rfl, rfl, HX⟩
            case rest =>
              obtain ⟨S1, rfl, rfl, HX⟩ := hcut
              clear HLF
              go_wp2
              go_loopw [5, 7] (fun s i' wr => ∃ (t : Nat) (S : ByteArray), t ≤ m ∧ i' = .int .i64 t ∧ s = .string S ∧ Hid (S.data.toList ++ (printS (st.drop t) ++ tailSs l (i + 1)) = printSs l) ∧ Hid (∀ (t' : Nat) (ht : t' < st.length), t' < t → lower st[t'].1 ∉ (st.take t').map (fun f => lower f.1) ∧ fieldB st[t'] = true) ∧ Hid (Below w.heap.size w wr)) (fun _ i' _ => m - (intOf i').toNat)
              case atStart => exact ⟨0, S1, by omega, rfl, rfl, HX, Lib.hid (fun t ht g => by omega), HB⟩
              case round =>
                obtain ⟨t, S, ht, rfl, rfl, HL3, HK3, HB3⟩ := hrel
                obtain ⟨w3, rfl⟩ : ∃ w3 : World, w3 = wr := ⟨_, rfl⟩
                have hS3 : S.size ≤ 1000000 := by rw [sizeOf]; have := len_of HL3.out; have := HBD.out; omega
                have hu3 : w3.cell? ⟨b, o + i, none⟩ = some (.slice ai m ci) := (HB3.out.cell (p := ⟨b, o + i, none⟩) hbw).trans HU0.out
                by_cases htm : t < m
                · obtain ⟨rfl, hbi⟩ := hai (by omega)
                  have HR3 := Lib.hid (HR0.out.on HB3.out)
                  obtain ⟨f, hf⟩ : ∃ f, st[t]? = some f := ⟨_, List.getElem?_eq_getElem (by rw [HM.out]; exact htm)⟩
                  have HF := Lib.hid (List.getElem?_eq_some_iff.1 hf)
                  obtain ⟨x, hx⟩ : ∃ x : ByteArray, x.data.toList = f.1 := ⟨⟨(f.1).toArray⟩, by simp⟩
                  obtain ⟨y, hy⟩ : ∃ y : ByteArray, y.data.toList = f.2 := ⟨⟨(f.2).toArray⟩, by simp⟩
                  obtain ⟨c0, c1⟩ := rowF_cells HR3.out hf hx hy
                  have hsf := HS.out.2 st (List.mem_of_getElem? (List.getElem?_eq_some_iff.2 HST.out)) f (List.mem_of_getElem? hf)
                  rw [← hx, ← hy, ← sizeOf, ← sizeOf] at hsf
                  obtain ⟨hxs, hys⟩ := hsf
                  go_upto_region 20 with fail
                  have hb4 : Below w3.heap.size w3 (w3.alloc (.cells #[.string x, .string y] 119)) := (Below.refl _ _).alloc (Nat.le_refl _) _
                  have hu4 : (w3.alloc (.cells #[.string x, .string y] 119)).cell? ⟨b, o + i, none⟩ = some (.slice (some ⟨bi, oi, none⟩) m ci) := (hb4.cell (p := ⟨b, o + i, none⟩) (World.block_lt_of_cell? _ _ hu3)).trans hu3
                  have hbx := boxNew w3 x y 119 0
                  simp only [World.cell?_drewN] at hbx
                  have HR4 := Lib.hid ((HR3.out.on hb4).cut t (by omega))
                  have HBW := Lib.hid ((HB3.out).trans (hb4.mono HB3.out.size))
                  have hlt3 : w3.heap.size < (w3.alloc (.cells #[.string x, .string y] 119)).heap.size := by simp
                  generalize (w3.alloc (.cells #[.string x, .string y] 119)) = W4 at *
                  obtain ⟨hb0, hb1⟩ := hbx
                  have HX4 := Lib.hid (And.intro hb0 hb1)
                  have GG := fun q => get_ref (.slice (some ⟨bi, oi, none⟩) t ci) (st.take t) (by rw [List.length_take]; omega) (fun g hg => (HS.out.2 st (List.mem_of_getElem? (List.getElem?_eq_some_iff.2 HST.out)) g (List.mem_of_mem_take hg)).1) x hxs (W4.drewN q) (by rw [List.map_take]; exact HR4.out.on (belowQ (Below.refl _ _) _))
                  unfold GetPost at GG
                  have hgs := getF_snd (st.take t) x.data.toList
                  obtain ⟨gs, hg1⟩ : ∃ gs : ByteArray, gs = ⟨(getF (st.take t) x.data.toList).1.toArray⟩ := ⟨_, rfl⟩
                  simp only [← hg1] at GG
                  obtain ⟨gb, hgb⟩ : ∃ gb, gb = (getF (st.take t) x.data.toList).2 := ⟨_, rfl⟩
                  simp only [← hgb] at GG
                  rw [← hgb, hx] at hgs
                  have HGS := Lib.hid hgs
                  clear hg1 hgb c0 c1 hu3 hf hb4 hgs
                  have htci : t ≤ ci := by omega
                  go_quiet ((go_at_call 101; exact Calls.quiet_of_same (GG _)))
                  cases gb with
                  | true =>
                    have G := K1.out (by
                      obtain ⟨h1, h2⟩ := HST.out
                      obtain ⟨h3, h4⟩ := HF.out
                      subst h2
                      exact stanza_bad h1 h3 (.inl (by rw [h4]; exact of_decide_eq_true HGS.out.symm)))
                    clear HGS GG HK3 HL3
                    go_wp2
                    go_ret2
                    exact G.out _ _ rfl (belowQ HBW.out _)
                  | false =>
                    have hni := of_decide_eq_false HGS.out.symm
                    have F := fun w => field_ref x y hxs hys w
                    obtain ⟨fb, hfb⟩ : ∃ fb, fieldB (x.data.toList, y.data.toList) = fb := ⟨_, rfl⟩
                    simp only [hfb] at F
                    rw [hx, hy] at hfb
                    have HIN := Lib.hid (And.intro hni hfb)
                    have SP : ∀ w, Calls Tryz.prog 68 #[.string y, .int .u8 10] w fun e w' => ∃ v, e = .returned v ∧ OwnT w' w.heap.size v (spl 10 y.data.toList) ∧ Below w.heap.size w w' := fun w => split_ref6 y hys 10 w
                    have hln := spl_len 10 y.data.toList
                    have hpc := spl_piece 10 y.data.toList
                    have hne := spl_ne 10 y.data.toList
                    rw [← sizeOf] at hln
                    have HST4 : Hid (((S ++ x) ++ ⟨#[58]⟩).data.toList ++ (leftT (spl 10 y.data.toList) 0 ++ (printS (st.drop (t + 1)) ++ tailSs l (i + 1))) = printSs l) := Lib.hid (by
                      obtain ⟨h3, h4⟩ := HF.out
                      have hd := printS_drop h3
                      rw [h4, ← hx, ← hy] at hd
                      rw [← HL3.out, hd]
                      unfold leftT
                      simp)
                    clear HGS GG hni hfb HL3
                    obtain ⟨ls, hls⟩ : ∃ ls, spl 10 y.data.toList = ls := ⟨_, rfl⟩
                    simp only [hls] at SP hln hpc hne HST4
                    have HLZ := Lib.hid (fun (z : Bs) (hz : z ∈ ls) => Nat.le_trans (hpc z hz) (by rw [← sizeOf]; exact hys))
                    have HLN := Lib.hid hne
                    obtain ⟨p, hp⟩ : ∃ p, ls.length = p := ⟨_, rfl⟩
                    rw [hp] at hln
                    have HPL := Lib.hid hp
                    have hpb : p ≤ 100001 := by omega
                    clear hls hpc hne hp hx hy
                    have h1s : ∀ x, (ByteArray.mk #[x]).size = 1 := fun _ => rfl
                    cases fb with
                    | false =>
                      have G := K1.out (by
                        obtain ⟨h1, h2⟩ := HST.out
                        obtain ⟨h3, h4⟩ := HF.out
                        subst h2
                        exact stanza_bad h1 h3 (.inr (by rw [h4]; exact HIN.out.2)))
                      clear SP HST4 HK3
                      go_wp2_with (go_at_call 102; (with_reducible refine (F _).mono ?_); rintro e w5 ⟨rfl, hb5⟩)
                      go_ret2
                      exact G.out _ _ rfl ((belowQ HBW.out _).trans (hb5.mono (belowQ HBW.out _).size))
                    | true =>
                      have HK3' : Hid (∀ (t' : Nat) (ht : t' < st.length), t' < t + 1 → lower st[t'].1 ∉ (st.take t').map (fun f => lower f.1) ∧ fieldB st[t'] = true) := Lib.hid (fun t' ht' g => by
                        by_cases e : t' = t
                        · subst e
                          obtain ⟨h3, h4⟩ := HF.out
                          rw [h4]
                          exact HIN.out
                        · exact HK3.out t' ht' (by omega))
                      clear HK3
                      go_wp2_with (first
                        | (go_at_call 102; (with_reducible refine (F _).mono ?_); rintro e w5 ⟨rfl, hb5⟩; have hx5 := box2 (b := w3.heap.size) (x := x) (y := y) (by simpa only [World.cell?_drewN] using HX4.out) hb5; obtain ⟨q0, q1⟩ := hx5; have HX5 := Lib.hid (And.intro q0 q1); have HB5 := Lib.hid ((belowQ HBW.out _).trans (hb5.mono (belowQ HBW.out _).size)); clear hb5 hb0 hb1)
                        | (go_at_call 68; (with_reducible refine (SP _).mono ?_); rintro e w6 ⟨v6, rfl, ho, hb6⟩; obtain ⟨al, cl, bl, ol, rfl, hcl, hal, hlc⟩ := ho.holds; have hx6 := box2 HX5.out hb6; obtain ⟨r0, r1⟩ := hx6; have HLC := Lib.hid hlc; have HB6 := Lib.hid (HB5.out.trans (hb6.mono HB5.out.size)); rw [HPL.out]; rw [HPL.out] at hcl hal; clear ho hb6 hlc q0 q1; refine Hid.out ?_))
                      refine Lib.hid ?_
                      go_wp2
                      go_loop [5, 12] (fun s i' => ∃ (j : Nat) (S' : ByteArray), j ≤ p ∧ i' = .int .i64 j ∧ s = .string S' ∧ Hid (S'.data.toList ++ (leftT ls j ++ (printS (st.drop (t + 1)) ++ tailSs l (i + 1))) = printSs l)) (fun _ i' => p - (intOf i').toNat)
                      case atStart => exact ⟨0, _, by omega, rfl, rfl, HST4⟩
                      case round =>
                        obtain ⟨j, S', hj, rfl, rfl, HL4⟩ := hrel
                        have hS4 : S'.size ≤ 1000000 := by rw [sizeOf]; have := len_of HL4.out; have := HBD.out; omega
                        by_cases hjp : j < p
                        · obtain ⟨rfl, hbl⟩ := hal (by omega)
                          obtain ⟨z, hz, hcz⟩ : ∃ z : ByteArray, z.data.toList = ls[j]'(by rw [HPL.out]; exact hjp) ∧ w6.cell? ⟨bl, ol + j, none⟩ = some (.string z) := ⟨⟨(ls[j]'(by rw [HPL.out]; exact hjp)).toArray⟩, by simp, HLC.out j _ (List.getElem?_eq_getElem _)⟩
                          have hzs : z.size ≤ 100000 := by
                            have := HLZ.out _ (List.getElem_mem (l := ls) (n := j) (by rw [HPL.out]; exact hjp))
                            rw [← hz, ← sizeOf] at this; exact this
                          have hez := emptyT z
                          by_cases hj0 : j = 0
                          · subst hj0
                            have hlh := leftT_head (ls := ls) (by rw [HPL.out]; exact hjp)
                            rw [← hz] at hlh
                            simp only [Nat.add_zero] at hcz
                            by_cases hz0 : z.size = 0
                            · rw [decide_eq_true hz0] at hez
                              have HNX : Hid (((S' ++ z) ++ ⟨#[10]⟩).data.toList ++ (leftT ls 1 ++ (printS (st.drop (t + 1)) ++ tailSs l (i + 1))) = printSs l) := Lib.hid (by
                                have hzn : z.data.toList = [] := List.eq_nil_of_length_eq_zero (by rw [← sizeOf]; exact hz0)
                                rw [← HL4.out, hlh, if_neg (by rw [hzn]; simp)]; simp)
                              clear hlh hz hz0 HL4
                              go_wp2
                              go_round
                              case rel => exact ⟨1, _, by omega, rfl, rfl, HNX⟩
                              case measure => simp [intOf]; omega
                            · rw [decide_eq_false hz0] at hez
                              have HNX : Hid ((((S' ++ ⟨#[32]⟩) ++ z) ++ ⟨#[10]⟩).data.toList ++ (leftT ls 1 ++ (printS (st.drop (t + 1)) ++ tailSs l (i + 1))) = printSs l) := Lib.hid (by
                                have hzn : z.data.toList ≠ [] := fun e => hz0 (by rw [sizeOf, e]; rfl)
                                rw [← HL4.out, hlh, if_pos hzn]; simp)
                              clear hlh hz hz0 HL4
                              go_wp2
                              go_round
                              case rel => exact ⟨1, _, by omega, rfl, rfl, HNX⟩
                              case measure => simp [intOf]; omega
                          · have hln := leftT_next hj0 (ls := ls) (by rw [HPL.out]; exact hjp)
                            rw [← hz] at hln
                            have HNX : Hid ((((S' ++ ⟨#[32]⟩) ++ z) ++ ⟨#[10]⟩).data.toList ++ (leftT ls (j + 1) ++ (printS (st.drop (t + 1)) ++ tailSs l (i + 1))) = printSs l) := Lib.hid (by rw [← HL4.out, hln]; simp)
                            have hj1 : 0 < j := by omega
                            clear hln hz hj0 HL4 hez
                            go_wp2
                            go_round
                            case rel => exact ⟨j + 1, _, by omega, by go_num, rfl, HNX⟩
                            case measure => simp [intOf]; omega
                        · obtain rfl : j = p := by omega
                          have HEND : Hid (S'.data.toList ++ (printS (st.drop (t + 1)) ++ tailSs l (i + 1)) = printSs l) := Lib.hid (by have h1 := HL4.out; rwa [← HPL.out, leftT_end HLN.out, List.nil_append] at h1)
                          clear hjp HL4
                          go_wp2
                          go_roundw
                          case rel => exact ⟨t + 1, S', by omega, by go_num, rfl, HEND, HK3', HB6⟩
                          case measure => simp [intOf]; omega
                · obtain rfl : t = m := by omega
                  have HEND : Hid (S.data.toList ++ leftSs l (i + 1) = printSs l) := Lib.hid (by have h1 := HL3.out; rwa [← HM.out, printS_end, List.nil_append, left_tail] at h1)
                  have HK' : Hid (∀ (j : Nat) (hj : j < l.length), j < i + 1 → l[j] ≠ [] ∧ ∀ (t : Nat) (ht : t < l[j].length), lower l[j][t].1 ∉ (l[j].take t).map (fun f => lower f.1) ∧ fieldB l[j][t] = true) := Lib.hid (fun j hj g => by
                    by_cases e : j = i
                    · subst e
                      rw [HST.out.2]
                      exact ⟨fun e2 => hm0 (by rw [← HM.out, e2]; rfl), fun t' ht' => HK3.out t' ht' (by rw [← HM.out]; exact ht')⟩
                    · exact HK.out j hj (by omega))
                  clear htm HL3
                  go_wp2
                  go_roundw
                  case rel => exact ⟨i + 1, S, by omega, by go_num, rfl, HEND, HK', HB3⟩
                  case measure => simp [intOf]; omega
        · obtain rfl : i = k := by omega
          have HF : Hid (S.data.toList = printSs l) := Lib.hid (by have h1 := HL.out; rwa [← HN.out, left_end, List.append_nil] at h1)
          have G := K0.out (stanza_all (fun j hj => HK.out j hj (by rw [← HN.out]; exact hj)))
          clear hlt HL
          go_wp2
          go_ret2
          exact G.out S _ _ HF.out rfl HB.out
end Go.Proofs.YtbeoklihpkfofaaGreatDoor
