/-
  The reference's Lower; slices of rows of texts in memory; the reference's Get: what they return; nothing old turns.
-/
import Derived.Test.YtiikdphilbibnaaSField
import Derived.Laws.Runes
import Derived.ShutString
namespace Go.Proofs.Ytiikdphilbibnaa
open Go.RowKit
theorem enc_low : ∀ d : Fin 26, Utf8.encode ((97 + d.val : Nat) : Int) = ⟨#[UInt8.ofNat (97 + d.val)]⟩ := by decide +kernel
theorem low_up {c : UInt8} (h1 : 65 ≤ c.toNat) (h2 : c.toNat ≤ 90) : lowC c = UInt8.ofNat (c.toNat + 32) := by
  unfold lowC upB
  rw [decide_eq_true h1, decide_eq_true h2]
  simp only [Bool.and_self, if_true]
  apply UInt8.toNat_inj.1
  rw [UInt8.toNat_add, UInt8.toNat_ofNat']
  rfl
theorem low_no {c : UInt8} (h : ¬ (65 ≤ c.toNat ∧ c.toNat ≤ 90)) : lowC c = c := by
  unfold lowC upB
  rw [if_neg]
  simp only [Bool.and_eq_true, decide_eq_true_eq]; exact h
theorem rune_low (c : UInt8) (h1 : 65 ≤ c.toNat) (h2 : c.toNat ≤ 90) (w : World) : (convert 21 9 (.int .i32 ((c.toNat : Int) + 32))).run Try.prog w = .ok (.string ⟨#[lowC c]⟩) w := by
  have e := enc_low ⟨c.toNat - 65, by omega⟩
  simp only [] at e
  have e2 : 97 + (c.toNat - 65) = c.toNat + 32 := by omega
  rw [e2] at e
  rw [run_convert_int_string w 21 9 .i32 _ (by kernel_rfl) Try.underlying9, show ((c.toNat : Int) + 32) = ((c.toNat + 32 : Nat) : Int) by omega, e, low_up h1 h2]
set_option maxRecDepth 100000 in
set_option maxHeartbeats 4000000 in
theorem lower_ref (s : ByteArray) (hs : s.size ≤ 100000) (w : World) :
    Calls Try.prog 41 #[.string s] w fun e w' => e = .returned (.string ⟨(lower s.data.toList).toArray⟩) ∧ w = w' := by
  have h1s : ∀ x, (ByteArray.mk #[x]).size = 1 := fun _ => rfl
  go_enter Try.func41, Try.ntmps41
  go_wp2
  go_loop [3, 4] (fun o i => ∃ (k : Nat) (S : ByteArray), k ≤ s.size ∧ i = .int .i64 k ∧ o = .string S ∧ S.size ≤ k ∧ Hid (S.data.toList = lower (s.data.toList.take k))) (fun _ i => s.size - (intOf i).toNat)
  case atStart => exact ⟨0, ⟨#[]⟩, by omega, rfl, rfl, Nat.le_refl _, Lib.hid (by simp [lower])⟩
  case round =>
    obtain ⟨k, S, hk, rfl, rfl, hS, H⟩ := hrel
    by_cases hlt : k < s.size
    · have hx := s[k].toNat_lt
      have hsn := takeSn s k hlt
      obtain ⟨x1, x2⟩ := extOne s k hlt
      by_cases h1 : 65 ≤ s[k].toNat
      · by_cases h2 : s[k].toNat ≤ 90
        · have hr := rune_low s[k] h1 h2
          have HN : Hid ((S ++ ⟨#[lowC s[k]]⟩).data.toList = lower (s.data.toList.take (k + 1))) := Lib.hid (by rw [hsn, ByteArray.data_append, Array.toList_append, H.out]; simp [lower])
          clear hsn x1 x2
          go_wp2
          go_round
          case rel => exact ⟨k + 1, _, by omega, by go_num, rfl, by rw [ByteArray.size_append, h1s]; omega, HN⟩
          case measure => simp [intOf]; omega
        · have HN : Hid ((S ++ s.extract k (k + 1)).data.toList = lower (s.data.toList.take (k + 1))) := Lib.hid (by rw [hsn, ByteArray.data_append, Array.toList_append, H.out, x1]; simp [lower, low_no (c := s[k]) (fun g => h2 g.2)])
          have hsx : (s.extract k (k + 1)).size ≤ 1 := by omega
          clear hsn x1 x2
          go_wp2
          go_round
          case rel => exact ⟨k + 1, _, by omega, by go_num, rfl, by rw [ByteArray.size_append]; omega, HN⟩
          case measure => simp [intOf]; omega
      · have HN : Hid ((S ++ s.extract k (k + 1)).data.toList = lower (s.data.toList.take (k + 1))) := Lib.hid (by rw [hsn, ByteArray.data_append, Array.toList_append, H.out, x1]; simp [lower, low_no (c := s[k]) (fun g => h1 g.1)])
        have hsx : (s.extract k (k + 1)).size ≤ 1 := by omega
        clear hsn x1 x2
        go_wp2
        go_round
        case rel => exact ⟨k + 1, _, by omega, by go_num, rfl, by rw [ByteArray.size_append]; omega, HN⟩
        case measure => simp [intOf]; omega
    · obtain rfl : k = s.size := by omega
      have HN : Hid (S = ⟨(lower s.data.toList).toArray⟩) := Lib.hid (strOf (by rw [H.out, takeAll]))
      clear hlt
      go_wp2
      go_ret
      exact ⟨congrArg (fun x => Ending.returned (Value.string x)) HN.out, rfl⟩
-- Rows
/-- The slice value v holds the rows rs, of k texts each. -/
def HoldR (k : Nat) (w : World) (v : Value) (rs : List (List Bs)) : Prop :=
  ∃ (a : Option Addr) (c b o : Nat), v = .slice a rs.length c ∧ rs.length ≤ c ∧ (0 < rs.length → a = some ⟨b, o, none⟩ ∧ b < w.heap.size) ∧
    ∀ (j : Nat) r, rs[j]? = some r → ∀ (i : Nat) x, i < k → r[i]? = some x → w.cell? ⟨b, o + j * k + i, none⟩ = some (.string ⟨x.toArray⟩)
theorem HoldR.on {k : Nat} {w w' : World} {v : Value} {rs : List (List Bs)} (h : HoldR k w v rs) (hb : Below w.heap.size w w') : HoldR k w' v rs := by
  obtain ⟨a, c, b, o, rfl, hc, ha, hcell⟩ := h
  refine ⟨a, c, b, o, rfl, hc, fun h0 => ⟨(ha h0).1, Nat.lt_of_lt_of_le (ha h0).2 hb.size⟩, fun j r hj i x hi hx => ?_⟩
  have h0 : 0 < rs.length := by have := (List.getElem?_eq_some_iff.1 hj).1; omega
  rw [hb.cell (ha h0).2]
  exact hcell j r hj i x hi hx
theorem HoldR.cut {k : Nat} {w : World} {a : Option Addr} {c n : Nat} {rs : List (List Bs)} (h : HoldR k w (.slice a n c) rs) (m : Nat) (hm : m ≤ n) : HoldR k w (.slice a m c) (rs.take m) := by
  obtain ⟨a', c', b, o, e, hc, ha, hcell⟩ := h
  simp only [Value.slice.injEq] at e
  obtain ⟨rfl, rfl, rfl⟩ := e
  have hl : (rs.take m).length = m := by rw [List.length_take]; omega
  refine ⟨a, c, b, o, by rw [hl], by omega, fun h0 => ha (by omega), fun j r hj => ?_⟩
  rw [List.getElem?_take] at hj
  split at hj
  · exact hcell j r hj
  · cases hj
def rowF (f : Fld) : List Bs := [f.1, f.2]
def getF (l : List Fld) (n : Bs) : Bs × Bool := match l.find? (fun f => decide (lower f.1 = lower n)) with
  | some f => (f.2, true)
  | none => ([], false)
theorem getF_snd (l : List Fld) (n : Bs) : (getF l n).2 = decide (lower n ∈ l.map fun f => lower f.1) := by
  unfold getF
  cases h : l.find? (fun f => decide (lower f.1 = lower n)) with
  | some f =>
    have h1 := List.find?_some h
    have h2 := List.mem_of_find?_eq_some h
    simp only [decide_eq_true_eq] at h1
    exact (decide_eq_true (List.mem_map.2 ⟨f, h2, h1⟩)).symm
  | none =>
    rw [List.find?_eq_none] at h
    refine (decide_eq_false fun hm => ?_).symm
    obtain ⟨f, hf, e⟩ := List.mem_map.1 hm
    exact h f hf (by simp [e])
theorem getF_no {l : List Fld} {n : Bs} {k : Nat} (h : ∀ (j : Nat) (hj : j < l.length), j < k → lower l[j].1 ≠ lower n) (hk : k = l.length) : getF l n = ([], false) := by
  unfold getF
  rw [List.find?_eq_none.2]
  intro f hf g
  obtain ⟨j, hj, rfl⟩ := List.mem_iff_getElem.1 hf
  exact h j hj (by omega) (by simpa using g)
theorem getF_at {l : List Fld} {n : Bs} {k : Nat} (hk : k < l.length) (h : ∀ (j : Nat) (hj : j < l.length), j < k → lower l[j].1 ≠ lower n) (g : lower l[k].1 = lower n) : getF l n = (l[k].2, true) := by
  have e : l.find? (fun f => decide (lower f.1 = lower n)) = some l[k] := by
    rw [List.find?_eq_some_iff_getElem]
    exact ⟨by simp [g], k, hk, rfl, fun j hj => by simp; exact h j (by omega) hj⟩
  unfold getF; rw [e]
def GetPost (l : List Fld) (n : Bs) (w : World) (e : Ending) (w' : World) : Prop := e = .returned (.tuple #[.string ⟨(getF l n).1.toArray⟩, .bool (getF l n).2]) ∧ w' = w
set_option maxRecDepth 100000 in
set_option maxHeartbeats 4000000 in
theorem get_ref (v : Value) (l : List Fld) (hn : l.length ≤ 10000) (hs : ∀ f ∈ l, f.1.length ≤ 100000) (n : ByteArray) (hns : n.size ≤ 100000) (w : World) (h : HoldR 2 w v (l.map rowF)) :
    Calls Try.prog 24 #[v, .string n] w (GetPost l n.data.toList w) := by
  obtain ⟨a, c, b, o, rfl, hc, ha, hcell⟩ := h
  rw [List.length_map] at hc ha
  rw [List.length_map]
  have HC := Lib.hid (fun (k : Nat) (hk : k < l.length) => And.intro (hcell k (rowF l[k]) (by simp [hk]) 0 l[k].1 (by omega) rfl) (hcell k (rowF l[k]) (by simp [hk]) 1 l[k].2 (by omega) rfl))
  have HS := Lib.hid hs
  have L1 := fun (x : ByteArray) (hx : x.size ≤ 100000) w => lower_ref x hx w
  have L2 := fun w => lower_ref n hns w
  have HP : Hid (∀ e x b, getF l n.data.toList = (x, b) → e = .returned (.tuple #[.string ⟨x.toArray⟩, .bool b]) → GetPost l n.data.toList w e w) := Lib.hid (fun e x b h g => ⟨by rw [h]; exact g, rfl⟩)
  obtain ⟨m, hN⟩ : ∃ m, l.length = m := ⟨_, rfl⟩
  rw [hN] at hc ha hn ⊢
  clear hcell hs
  have HN := Lib.hid hN
  clear hN
  go_enter Try.func24, Try.ntmps24
  go_wp2
  go_loop [6] (fun i => ∃ k : Nat, k ≤ m ∧ i = .int .i64 k ∧ Hid (∀ (j : Nat) (hj : j < l.length), j < k → lower l[j].1 ≠ lower n.data.toList)) (fun i => m - (intOf i).toNat)
  case atStart => exact ⟨0, by omega, rfl, Lib.hid (fun j hj g => by omega)⟩
  case round =>
    obtain ⟨k, hk, rfl, H⟩ := hrel
    by_cases hlt : k < m
    · obtain ⟨rfl, hbw⟩ := ha (by omega)
      have hkl : k < l.length := by rw [HN.out]; exact hlt
      obtain ⟨x, hx⟩ : ∃ x : ByteArray, x.data.toList = l[k].1 := ⟨⟨(l[k].1).toArray⟩, by simp⟩
      obtain ⟨y, hy⟩ : ∃ y : ByteArray, y.data.toList = l[k].2 := ⟨⟨(l[k].2).toArray⟩, by simp⟩
      obtain ⟨c0, c1⟩ := HC.out k hkl
      rw [← strOf hx] at c0
      rw [← strOf hy] at c1
      have D1 := L1 x (by rw [sizeOf, hx]; exact HS.out _ (List.getElem_mem _))
      obtain ⟨X, hX⟩ : ∃ X : ByteArray, X = ⟨(lower x.data.toList).toArray⟩ := ⟨_, rfl⟩
      obtain ⟨N, hNN⟩ : ∃ N : ByteArray, N = ⟨(lower n.data.toList).toArray⟩ := ⟨_, rfl⟩
      rw [← hX] at D1
      have D2 := L2
      rw [← hNN] at D2
      have hq := eqT X N
      have hXl : X.data.toList = lower l[k].1 := by rw [hX, bytesOf, hx]
      have hNl : N.data.toList = lower n.data.toList := by rw [hNN, bytesOf]
      rw [hXl, hNl] at hq
      simp only [Nat.add_zero] at c0
      clear hX hNN hXl hNl L2
      by_cases he : lower l[k].1 = lower n.data.toList
      · rw [decide_eq_true he] at hq
        have HR : Hid (getF l n.data.toList = (y.data.toList, true)) := Lib.hid (by rw [getF_at hkl H.out he, hy])
        clear he hx hy H L1
        go_wp2_with (first | (go_at_call 41; first | ((with_reducible refine (D1 _).mono ?_); rintro e w1 ⟨rfl, rfl⟩) | ((with_reducible refine (D2 _).mono ?_); rintro e w1 ⟨rfl, rfl⟩)))
        go_ret2
        refine HP.out _ _ _ HR.out ?_
        rw [← strOf (x := y) rfl]
        rfl
      · rw [decide_eq_false he] at hq
        have HK : Hid (∀ (j : Nat) (hj : j < l.length), j < k + 1 → lower l[j].1 ≠ lower n.data.toList) := Lib.hid (fun j hj g => by
          by_cases e : j = k
          · subst e; exact he
          · exact H.out j hj (by omega))
        clear he hx hy H L1
        go_wp2_with (first | (go_at_call 41; first | ((with_reducible refine (D1 _).mono ?_); rintro e w1 ⟨rfl, rfl⟩) | ((with_reducible refine (D2 _).mono ?_); rintro e w1 ⟨rfl, rfl⟩)))
        go_round
        case rel => exact ⟨k + 1, by omega, by go_num, HK⟩
        case measure => simp [intOf]; omega
    · obtain rfl : k = m := by omega
      have HR : Hid (getF l n.data.toList = ([], false)) := Lib.hid (getF_no H.out HN.out.symm)
      clear hlt ha H
      go_wp2
      go_ret2
      exact HP.out _ _ _ HR.out rfl
end Go.Proofs.Ytiikdphilbibnaa
