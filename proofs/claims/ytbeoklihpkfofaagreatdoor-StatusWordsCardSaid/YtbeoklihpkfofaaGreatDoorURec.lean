/-
  The program's record of the example's stanza: what is returned; nothing old turns. Condition: LaidU.
-/
import Derived.Test.YtbeoklihpkfofaaGreatDoorUPrint1
import Derived.Test.YtbeoklihpkfofaaGreatDoorSPWrite
import Derived.Test.YtbeoklihpkfofaaGreatDoorSPWords2
import Derived.Test.YtbeoklihpkfofaaGreatDoorQParseA
namespace Go.Proofs.YtbeoklihpkfofaaGreatDoor
open Go.RowKit Go.Shelf
theorem getF_hit {fs : List Fld} {x : Bs} {k : Nat} {f : Fld} (H : hasN x (fs.take k) = false) (hfk : fs[k]? = some f) (hq : sameB f.1 x = true) : getF fs x = (f.2, true) := by
  obtain ⟨hk, e⟩ := List.getElem?_eq_some_iff.1 hfk
  have h1 : fs.find? (fun f => decide (lower f.1 = lower x)) = some f := by
    rw [List.find?_eq_some_iff_getElem]
    refine ⟨hq, k, hk, e, fun j hj => ?_⟩
    have h2 : hasN x (fs.take k) = false := H
    unfold hasN at h2
    rw [List.any_eq_false] at h2
    have := h2 fs[j] (List.mem_of_getElem? (i := j) (by rw [List.getElem?_take, if_pos hj]; exact List.getElem?_eq_getElem (by omega)))
    simpa [sameB] using this
  unfold getF
  rw [h1]
theorem getF_miss {fs : List Fld} {x : Bs} (H : hasN x fs = false) : getF fs x = ([], false) := by
  have h1 : fs.find? (fun f => decide (lower f.1 = lower x)) = none := by
    rw [List.find?_eq_none]
    intro f hf
    unfold hasN at H
    rw [List.any_eq_false] at H
    simpa [sameB] using H f hf
  unfold getF
  rw [h1]
def GetVPost (x : Bs) (fs : List Fld) (w : World) (e : Ending) (w' : World) : Prop := e = .returned (.tuple #[.string ⟨(getF fs x).1.toArray⟩, .bool (getF fs x).2]) ∧ Below w.heap.size w w'
set_option maxRecDepth 100000 in
set_option maxHeartbeats 4000000 in
theorem getV_any (v : Value) (fs : List Fld) (x : ByteArray) (hf : fs.length ≤ 90000) (hfs : ∀ f ∈ fs, f.1.length ≤ 90000 ∧ f.2.length ≤ 90000) (hx : x.size ≤ 90000) (w : World) (h : HoldR 2 w v (fs.map rowF)) :
    Calls Tryz.prog 107 #[v, .string x] w (GetVPost x.data.toList fs w) := by
  have HH := Lib.hid h
  have HS := Lib.hid hfs
  obtain ⟨a, c, b, o, rfl, hc, ha, hcell⟩ := h
  obtain ⟨n, hn⟩ : ∃ n, fs.length = n := ⟨_, rfl⟩
  have HN := Lib.hid hn
  rw [List.length_map, hn] at hc ha ⊢
  rw [List.length_map] at HH
  rw [hn] at hf HH
  clear hcell hfs hn
  have HP : Hid (∀ (T : ByteArray) w' b, getF fs x.data.toList = (T.data.toList, b) → Below w.heap.size w w' → GetVPost x.data.toList fs w (.returned (.tuple #[.string T, .bool b])) w') := Lib.hid (fun T w' b h1 h2 => ⟨by rw [h1, ← strOf (x := T) rfl], h2⟩)
  have SN := fun (y : ByteArray) (hy : y.size ≤ 100000) w => sameName_any y x hy (by omega) w
  go_enter Tryz.func107, Tryz.ntmps107
  go_wp2
  go_loopw [10] (fun i wr => ∃ k : Nat, k ≤ n ∧ i = .int .i64 k ∧ Hid (hasN x.data.toList (fs.take k) = false) ∧ Hid (Below w.heap.size w wr)) (fun i _ => n - (intOf i).toNat)
  case atStart => exact ⟨0, by omega, rfl, Lib.hid rfl, Lib.hid (Below.refl _ _)⟩
  case round =>
    obtain ⟨k, hk, rfl, H, HB⟩ := hrel
    by_cases hlt : k < n
    · obtain ⟨rfl, hbw⟩ := ha (by omega)
      obtain ⟨f, hfk⟩ : ∃ f, fs[k]? = some f := ⟨_, List.getElem?_eq_getElem (by rw [HN.out]; exact hlt)⟩
      have hfm := HS.out f (List.mem_of_getElem? hfk)
      obtain ⟨X, hX⟩ : ∃ X : ByteArray, X.data.toList = f.1 := ⟨⟨f.1.toArray⟩, by simp⟩
      obtain ⟨Y, hY⟩ : ∃ Y : ByteArray, Y.data.toList = f.2 := ⟨⟨f.2.toArray⟩, by simp⟩
      obtain ⟨d0, d1⟩ := rowF_cells (HH.out.on HB.out) hfk hX hY
      have hXs : X.size ≤ 100000 := by rw [sizeOf, hX]; omega
      have S := SN X hXs
      have hst := hasN_take (x := x.data.toList) hfk
      rw [H.out, Bool.false_or, ← hX] at hst
      have hsz := HB.out.size
      have HBX : Hid (Below w.heap.size w (wr.alloc (.cells #[.string X, .string Y] 119))) := Lib.hid (HB.out.alloc hsz _)
      have hsub : hasN x.data.toList (fs.take (k + 1)) = true → hasN x.data.toList fs = true := fun g => by
        unfold hasN at g ⊢
        rw [List.any_eq_true] at g ⊢
        obtain ⟨y, hy, hy2⟩ := g
        exact ⟨y, List.mem_of_mem_take hy, hy2⟩
      obtain ⟨q, hq⟩ : ∃ q, sameB X.data.toList x.data.toList = q := ⟨_, rfl⟩
      have HQQ := Lib.hid hq
      rw [hq] at hst S
      clear hq
      cases q
      · have HK := Lib.hid hst
        clear hst hsub hX hY hfm hfk SN H
        go_wp2_with (go_at_call 152; refine (S _).mono ?_; rintro e w1 ⟨rfl, q, rfl⟩)
        go_roundw
        case rel => exact ⟨k + 1, by omega, by go_num, HK, Lib.hid (belowQ HBX.out q)⟩
        case measure => simp [intOf]; omega
      · have HK : Hid (getF fs x.data.toList = (Y.data.toList, true)) := Lib.hid (by rw [hY]; exact getF_hit H.out hfk (by rw [← hX]; exact HQQ.out))
        clear hst hsub hX hY hfm hfk SN H
        go_wp2_with (go_at_call 152; refine (S _).mono ?_; rintro e w1 ⟨rfl, q, rfl⟩)
        go_ret2
        exact HP.out Y _ true HK.out (belowQ HBX.out q)
    · obtain rfl : k = n := by omega
      have HK : Hid (hasN x.data.toList fs = false) := Lib.hid (by have := H.out; rwa [List.take_of_length_le (by rw [HN.out]; omega)] at this)
      clear hlt SN H
      go_wp2
      go_ret2
      exact HP.out ⟨#[]⟩ _ false (getF_miss HK.out) HB.out
/-- The box of the stanza, and behind it that of the record. -/
structure Rb (w W : World) (v : Value) (cs : Array Value) : Prop where
  h0 : W.heap[w.heap.size]? = some (.cells #[v] 78 (0, 0))
  h1 : W.heap[w.heap.size + 1]? = some (.cells cs 32 (0, 0))
  b : Below w.heap.size w W
theorem Rb.on {w W W' : World} {v : Value} {cs : Array Value} (h : Rb w W v cs) (hb : Below W.heap.size W W') : Rb w W' v cs :=
  ⟨(hb.block _ (lt_heapU h.h0)).trans h.h0, (hb.block _ (lt_heapU h.h1)).trans h.h1, h.b.trans (hb.mono h.b.size)⟩
theorem Rb.new (w : World) (v : Value) (cs : Array Value) : Rb w ((w.alloc (.cells #[v] 78)).alloc (.cells cs 32)) v cs := by
  have a1 := heap_alloc_new w (.cells #[v] 78)
  have b1 := (Below.refl w.heap.size w).alloc (Nat.le_refl _) (.cells #[v] 78)
  have a2 := heap_alloc_new (w.alloc (.cells #[v] 78)) (.cells cs 32)
  have b2 := (Below.refl (w.alloc (.cells #[v] 78)).heap.size (w.alloc (.cells #[v] 78))).alloc (Nat.le_refl _) (.cells cs 32)
  rw [World.size_alloc] at a2
  exact ⟨(b2.block _ (lt_heapU a1)).trans a1, a2, b1.trans (b2.mono b1.size)⟩
set_option maxRecDepth 100000 in
set_option maxHeartbeats 4000000 in
theorem getC (N : ByteArray) (T : Bs) (hN : N.size ≤ 90000) (hT : (getF rowsU N.data.toList).1 = T) {w W : World} {v : Value} {cs : Array Value} (h : Rb w W v cs) (hv : HoldR 2 w v (rowsU.map rowF)) : Calls Tryz.prog 106 #[.string N, .pointer (some ⟨w.heap.size, 0, none⟩)] W fun e w' => e = .returned (.string ⟨T.toArray⟩) ∧ Below W.heap.size W w' := by
  have C := getV_any v rowsU N (by simp) (fun f hf => by simp at hf; rcases hf with rfl | rfl | rfl <;> simp) hN W (hv.on h.b)
  unfold GetVPost at C
  rw [hT] at C
  have c0 := cell_heap (i := 0) h.h0 rfl
  obtain ⟨a, c, b, o, e, hc, ha, hcell⟩ := hv
  subst e
  clear hc ha hcell h hT
  generalize (getF rowsU N.data.toList).2 = q at *
  generalize (rowsU.map rowF).length = n at *
  go_enter Tryz.func106, Tryz.ntmps106
  go_wp2_with (go_at_call 107; (with_reducible refine C.mono ?_); rintro e w1 ⟨rfl, hb⟩; have HB := Lib.hid hb; clear hb)
  go_ret
  exact ⟨rfl, HB.out⟩
theorem pa0 (w : World) (hL : LaidU w) : Calls Tryz.prog 108 #[.string ⟨#[]⟩] w fun e w' => ∃ a c, e = .returned (.tuple #[.slice a 0 c, .int .i64 0]) ∧ Below w.heap.size w w' := by
  have hs : Lib.splitN (ByteArray.mk #[]).data.toList sepA 65 = [[]] := by decide +kernel
  have hg : Lib.splitN ([] : Bs) sepG 65 = [[]] := by decide +kernel
  have C := parseAllQ_any ⟨#[]⟩ (by decide) (fun p hp => by
    rw [hs] at hp
    simp at hp
    subst hp
    exact ⟨by simp, fun q hq => by rw [hg] at hq; simp at hq; subst hq; simp⟩) w hL.q
  rw [show parseA (ByteArray.mk #[]).data.toList = some [] by decide +kernel] at C
  refine C.mono fun e w' h => ?_
  obtain ⟨⟨v, L, he, hl, ho⟩, hb⟩ := h
  have hL0 : L = [] := by simpa [fsts] using hl
  subst hL0
  obtain ⟨a, c, b, o, e', _⟩ := ho.holds.1
  exact ⟨a, c, by rw [he, e']; rfl, hb⟩
theorem pl0 (w : World) (hL : LaidU w) : Calls Tryz.prog 109 #[.string ⟨#[]⟩] w fun e w' => ∃ a c, e = .returned (.tuple #[.slice a 0 c, .int .i64 0]) ∧ Below w.heap.size w w' := by
  have hs : Lib.splitN (ByteArray.mk #[]).data.toList sepA 65 = [[]] := by decide +kernel
  have C := parseListQ_any ⟨#[]⟩ (by decide) (fun p hp => by rw [hs] at hp; simp at hp; subst hp; simp) w hL.q
  rw [show parseQ (ByteArray.mk #[]).data.toList = some [] by decide +kernel] at C
  refine C.mono fun e w' h => ?_
  obtain ⟨⟨v, he, ho⟩, hb⟩ := h
  obtain ⟨a, c, b, o, e', _⟩ := OwnV.holds ho
  exact ⟨a, c, by rw [he, e']; rfl, hb⟩
theorem words0 (w : World) : Calls Tryz.prog 110 #[.string ⟨#[]⟩] w fun e w' => ∃ a c, e = .returned (.slice a 0 c) ∧ Below w.heap.size w w' := by
  refine (pwords_any ⟨#[]⟩ (by decide) w).mono fun e w' h => ?_
  obtain ⟨v, he, ho, hb⟩ := h
  rw [show wordsL (ByteArray.mk #[]).data.toList = [] by decide +kernel] at ho
  obtain ⟨a, c, b, o, e', _⟩ := ho.holds
  exact ⟨a, c, by rw [he, e']; rfl, hb⟩
set_option maxRecDepth 100000 in
set_option maxHeartbeats 4000000 in
theorem confs0 (w : World) (hL : LaidU w) : Calls Tryz.prog 111 #[.string ⟨#[]⟩] w fun e w' => e = .returned (.slice none 0 0) ∧ Below w.heap.size w w' := by
  obtain ⟨m, hm⟩ := hL.p.mx
  have C1 := Tryz.strings_Split ⟨#[]⟩ ⟨#[10]⟩ m w (by decide) hm (by decide)
  rw [show Lib.countB ⟨#[]⟩ ⟨#[10]⟩ = 0 by decide +kernel] at C1
  have hb1 : Below w.heap.size w (w.alloc (.cells ((Lib.splitB ⟨#[10]⟩ 0 0 ⟨#[]⟩).map Value.string).toArray 9)) := (Below.refl _ _).alloc (Nat.le_refl _) _
  generalize w.alloc (.cells ((Lib.splitB ⟨#[10]⟩ 0 0 ⟨#[]⟩).map Value.string).toArray 9) = w1 at *
  have HB := Lib.hid hb1
  clear hL hm hb1
  go_enter Tryz.func111, Tryz.ntmps111
  go_wp2_with (go_at_call 158; (with_reducible refine C1.mono ?_); rintro e w2 ⟨rfl, rfl⟩)
  go_loop [3, 13] (fun u i => u = .slice none 0 0 ∧ i = .int .i64 0) (fun _ _ => 0)
  case atStart => exact ⟨rfl, rfl⟩
  case round =>
    obtain ⟨rfl, rfl⟩ := hrel
    go_wp2
    go_ret
    exact ⟨rfl, HB.out⟩
abbrev nine (W : World) (b : Nat) (u0 u1 u2 u3 u4 u5 u6 u7 u8 : Value) : World := ((((((((W.setCell ⟨b, 0, none⟩ u0).setCell ⟨b, 1, none⟩ u1).setCell ⟨b, 2, none⟩ u2).setCell ⟨b, 3, none⟩ u3).setCell ⟨b, 4, none⟩ u4).setCell ⟨b, 5, none⟩ u5).setCell ⟨b, 6, none⟩ u6).setCell ⟨b, 7, none⟩ u7).setCell ⟨b, 8, none⟩ u8
theorem nine_cells {W : World} {b : Nat} {a0 a1 a2 a3 a4 a5 a6 a7 a8 : Value} {t : TypeId} (u0 u1 u2 u3 u4 u5 u6 u7 u8 : Value) (h : W.heap[b]? = some (.cells #[a0, a1, a2, a3, a4, a5, a6, a7, a8] t (0, 0))) :
    (nine W b u0 u1 u2 u3 u4 u5 u6 u7 u8).cell? ⟨b, 0, none⟩ = some u0 ∧ (nine W b u0 u1 u2 u3 u4 u5 u6 u7 u8).cell? ⟨b, 1, none⟩ = some u1 ∧ (nine W b u0 u1 u2 u3 u4 u5 u6 u7 u8).cell? ⟨b, 2, none⟩ = some u2 ∧ (nine W b u0 u1 u2 u3 u4 u5 u6 u7 u8).cell? ⟨b, 3, none⟩ = some u3 ∧ (nine W b u0 u1 u2 u3 u4 u5 u6 u7 u8).cell? ⟨b, 4, none⟩ = some u4 ∧ (nine W b u0 u1 u2 u3 u4 u5 u6 u7 u8).cell? ⟨b, 5, none⟩ = some u5 ∧ (nine W b u0 u1 u2 u3 u4 u5 u6 u7 u8).cell? ⟨b, 6, none⟩ = some u6 ∧ (nine W b u0 u1 u2 u3 u4 u5 u6 u7 u8).cell? ⟨b, 7, none⟩ = some u7 ∧ (nine W b u0 u1 u2 u3 u4 u5 u6 u7 u8).cell? ⟨b, 8, none⟩ = some u8 := by
  have h0 : (W.setCell ⟨b, 0, none⟩ u0).heap[b]? = some (.cells #[u0, a1, a2, a3, a4, a5, a6, a7, a8] t (0, 0)) := by have := heap_setU (i := 0) u0 h; simpa using this
  have h1 : ((W.setCell ⟨b, 0, none⟩ u0).setCell ⟨b, 1, none⟩ u1).heap[b]? = some (.cells #[u0, u1, a2, a3, a4, a5, a6, a7, a8] t (0, 0)) := by have := heap_setU (i := 1) u1 h0; simpa using this
  have h2 : (((W.setCell ⟨b, 0, none⟩ u0).setCell ⟨b, 1, none⟩ u1).setCell ⟨b, 2, none⟩ u2).heap[b]? = some (.cells #[u0, u1, u2, a3, a4, a5, a6, a7, a8] t (0, 0)) := by have := heap_setU (i := 2) u2 h1; simpa using this
  have h3 : ((((W.setCell ⟨b, 0, none⟩ u0).setCell ⟨b, 1, none⟩ u1).setCell ⟨b, 2, none⟩ u2).setCell ⟨b, 3, none⟩ u3).heap[b]? = some (.cells #[u0, u1, u2, u3, a4, a5, a6, a7, a8] t (0, 0)) := by have := heap_setU (i := 3) u3 h2; simpa using this
  have h4 : (((((W.setCell ⟨b, 0, none⟩ u0).setCell ⟨b, 1, none⟩ u1).setCell ⟨b, 2, none⟩ u2).setCell ⟨b, 3, none⟩ u3).setCell ⟨b, 4, none⟩ u4).heap[b]? = some (.cells #[u0, u1, u2, u3, u4, a5, a6, a7, a8] t (0, 0)) := by have := heap_setU (i := 4) u4 h3; simpa using this
  have h5 : ((((((W.setCell ⟨b, 0, none⟩ u0).setCell ⟨b, 1, none⟩ u1).setCell ⟨b, 2, none⟩ u2).setCell ⟨b, 3, none⟩ u3).setCell ⟨b, 4, none⟩ u4).setCell ⟨b, 5, none⟩ u5).heap[b]? = some (.cells #[u0, u1, u2, u3, u4, u5, a6, a7, a8] t (0, 0)) := by have := heap_setU (i := 5) u5 h4; simpa using this
  have h6 : (((((((W.setCell ⟨b, 0, none⟩ u0).setCell ⟨b, 1, none⟩ u1).setCell ⟨b, 2, none⟩ u2).setCell ⟨b, 3, none⟩ u3).setCell ⟨b, 4, none⟩ u4).setCell ⟨b, 5, none⟩ u5).setCell ⟨b, 6, none⟩ u6).heap[b]? = some (.cells #[u0, u1, u2, u3, u4, u5, u6, a7, a8] t (0, 0)) := by have := heap_setU (i := 6) u6 h5; simpa using this
  have h7 : ((((((((W.setCell ⟨b, 0, none⟩ u0).setCell ⟨b, 1, none⟩ u1).setCell ⟨b, 2, none⟩ u2).setCell ⟨b, 3, none⟩ u3).setCell ⟨b, 4, none⟩ u4).setCell ⟨b, 5, none⟩ u5).setCell ⟨b, 6, none⟩ u6).setCell ⟨b, 7, none⟩ u7).heap[b]? = some (.cells #[u0, u1, u2, u3, u4, u5, u6, u7, a8] t (0, 0)) := by have := heap_setU (i := 7) u7 h6; simpa using this
  have h8 : (((((((((W.setCell ⟨b, 0, none⟩ u0).setCell ⟨b, 1, none⟩ u1).setCell ⟨b, 2, none⟩ u2).setCell ⟨b, 3, none⟩ u3).setCell ⟨b, 4, none⟩ u4).setCell ⟨b, 5, none⟩ u5).setCell ⟨b, 6, none⟩ u6).setCell ⟨b, 7, none⟩ u7).setCell ⟨b, 8, none⟩ u8).heap[b]? = some (.cells #[u0, u1, u2, u3, u4, u5, u6, u7, u8] t (0, 0)) := by have := heap_setU (i := 8) u8 h7; simpa using this
  exact ⟨cell_heap (i := 0) h8 (by simp), cell_heap (i := 1) h8 (by simp), cell_heap (i := 2) h8 (by simp), cell_heap (i := 3) h8 (by simp), cell_heap (i := 4) h8 (by simp), cell_heap (i := 5) h8 (by simp), cell_heap (i := 6) h8 (by simp), cell_heap (i := 7) h8 (by simp), cell_heap (i := 8) h8 (by simp)⟩
theorem nine_below {B : Nat} {w W : World} (h : Below B w W) {b : Nat} (hb : B ≤ b) (u0 u1 u2 u3 u4 u5 u6 u7 u8 : Value) : Below B w (nine W b u0 u1 u2 u3 u4 u5 u6 u7 u8) :=
  ((((((((h.setCell (p := ⟨b, 0, none⟩) hb u0).setCell (p := ⟨b, 1, none⟩) hb u1).setCell (p := ⟨b, 2, none⟩) hb u2).setCell (p := ⟨b, 3, none⟩) hb u3).setCell (p := ⟨b, 4, none⟩) hb u4).setCell (p := ⟨b, 5, none⟩) hb u5).setCell (p := ⟨b, 6, none⟩) hb u6).setCell (p := ⟨b, 7, none⟩) hb u7).setCell (p := ⟨b, 8, none⟩) hb u8
set_option maxRecDepth 100000 in
set_option maxHeartbeats 16000000 in
theorem record1 (v : Value) (w : World) (hL : LaidU w) (hv : HoldR 2 w v (rowsU.map rowF)) : Calls Tryz.prog 62 #[v] w fun e w' => ∃ a3 a4 a5 a7 a8 m3 m4 m5 m7 m8, e = .returned (.agg #[.string ⟨#[97]⟩, .string ⟨#[49]⟩, .int .i64 7, .slice a3 0 m3, .slice a4 0 m4, .slice a5 0 m5, .slice none 0 0, .slice a7 0 m7, .slice a8 0 m8]) ∧ Below w.heap.size w w' := by
  have HL := Lib.hid hL
  have HV := Lib.hid hv
  have hvf : ∃ a n c, v = .slice a n c := by obtain ⟨a, c, b, o, e, _⟩ := hv; exact ⟨_, _, _, e⟩
  obtain ⟨va, vn, vc, rfl⟩ := hvf
  have HR0 := Lib.hid (Rb.new w (.slice va vn vc) #[.string ⟨#[]⟩, .string ⟨#[]⟩, .int .i64 0, .slice none 0 0, .slice none 0 0, .slice none 0 0, .slice none 0 0, .slice none 0 0, .slice none 0 0])
  have ST := fun W (hb : Below w.heap.size w W) => state_any ⟨#[105, 110, 115, 116, 97, 108, 108, 101, 100]⟩ W (HL.out.on hb)
  rw [show stateU (⟨#[105, 110, 115, 116, 97, 108, 108, 101, 100]⟩ : ByteArray).data.toList = 7 by decide +kernel] at ST
  have PA0 := fun W (hb : Below w.heap.size w W) => pa0 W (HL.out.on hb)
  have PL0 := fun W (hb : Below w.heap.size w W) => pl0 W (HL.out.on hb)
  have CF0 := fun W (hb : Below w.heap.size w W) => confs0 W (HL.out.on hb)
  clear hL hv
  go_enter Tryz.func62, Tryz.ntmps62
  go_wp2_with (first
    | (go_at_call 110; (with_reducible refine (words0 _).mono ?_); rintro e w16 ⟨a8, m8, rfl, hb⟩; have HR16 := Lib.hid (HR15.out.on hb); have r0 := cell_heap (i := 0) HR16.out.h1 rfl; have g0 := frozen_of_row _ _ 0 _ _ HR16.out.h1; have r1 := cell_heap (i := 1) HR16.out.h1 rfl; have g1 := frozen_of_row _ _ 1 _ _ HR16.out.h1; have r2 := cell_heap (i := 2) HR16.out.h1 rfl; have g2 := frozen_of_row _ _ 2 _ _ HR16.out.h1; have r3 := cell_heap (i := 3) HR16.out.h1 rfl; have g3 := frozen_of_row _ _ 3 _ _ HR16.out.h1; have r4 := cell_heap (i := 4) HR16.out.h1 rfl; have g4 := frozen_of_row _ _ 4 _ _ HR16.out.h1; have r5 := cell_heap (i := 5) HR16.out.h1 rfl; have g5 := frozen_of_row _ _ 5 _ _ HR16.out.h1; have r6 := cell_heap (i := 6) HR16.out.h1 rfl; have g6 := frozen_of_row _ _ 6 _ _ HR16.out.h1; have r7 := cell_heap (i := 7) HR16.out.h1 rfl; have g7 := frozen_of_row _ _ 7 _ _ HR16.out.h1; have r8 := cell_heap (i := 8) HR16.out.h1 rfl; have g8 := frozen_of_row _ _ 8 _ _ HR16.out.h1; clear hb)
    | (go_at_call 106; (with_reducible refine (getC ⟨#[84, 114, 105, 103, 103, 101, 114, 115, 45, 65, 119, 97, 105, 116, 101, 100]⟩ [] (by decide) (by decide +kernel) HR14.out HV.out).mono ?_); rintro e w15 ⟨rfl, hb⟩; have HR15 := Lib.hid (HR14.out.on hb); clear hb)
    | (go_at_call 110; (with_reducible refine (words0 _).mono ?_); rintro e w14 ⟨a7, m7, rfl, hb⟩; have HR14 := Lib.hid (HR13.out.on hb); clear hb)
    | (go_at_call 106; (with_reducible refine (getC ⟨#[84, 114, 105, 103, 103, 101, 114, 115, 45, 80, 101, 110, 100, 105, 110, 103]⟩ [] (by decide) (by decide +kernel) HR12.out HV.out).mono ?_); rintro e w13 ⟨rfl, hb⟩; have HR13 := Lib.hid (HR12.out.on hb); clear hb)
    | (go_at_call 111; (with_reducible refine (CF0 _ HR11.out.b).mono ?_); rintro e w12 ⟨rfl, hb⟩; have HR12 := Lib.hid (HR11.out.on hb); clear hb)
    | (go_at_call 106; (with_reducible refine (getC ⟨#[67, 111, 110, 102, 102, 105, 108, 101, 115]⟩ [] (by decide) (by decide +kernel) HR10.out HV.out).mono ?_); rintro e w11 ⟨rfl, hb⟩; have HR11 := Lib.hid (HR10.out.on hb); clear hb)
    | (go_at_call 110; (with_reducible refine (words0 _).mono ?_); rintro e w10 ⟨a5, m5, rfl, hb⟩; have HR10 := Lib.hid (HR9.out.on hb); clear hb)
    | (go_at_call 106; (with_reducible refine (getC ⟨#[82, 101, 112, 108, 97, 99, 101, 115]⟩ [] (by decide) (by decide +kernel) HR8.out HV.out).mono ?_); rintro e w9 ⟨rfl, hb⟩; have HR9 := Lib.hid (HR8.out.on hb); clear hb)
    | (go_at_call 11; (with_reducible refine (ST _ HR7.out.b).mono ?_); rintro e w8 ⟨rfl, hb⟩; have HR8 := Lib.hid (HR7.out.on hb); clear hb)
    | (go_at_call 106; (with_reducible refine (getC ⟨#[83, 116, 97, 116, 117, 115]⟩ [105, 110, 115, 116, 97, 108, 108, 101, 100] (by decide) (by decide +kernel) HR6.out HV.out).mono ?_); rintro e w7 ⟨rfl, hb⟩; have HR7 := Lib.hid (HR6.out.on hb); clear hb)
    | (go_at_call 106; (with_reducible refine (getC ⟨#[86, 101, 114, 115, 105, 111, 110]⟩ [49] (by decide) (by decide +kernel) HR5.out HV.out).mono ?_); rintro e w6 ⟨rfl, hb⟩; have HR6 := Lib.hid (HR5.out.on hb); clear hb)
    | (go_at_call 106; (with_reducible refine (getC ⟨#[80, 97, 99, 107, 97, 103, 101]⟩ [97] (by decide) (by decide +kernel) HR4.out HV.out).mono ?_); rintro e w5 ⟨rfl, hb⟩; have HR5 := Lib.hid (HR4.out.on hb); clear hb)
    | (go_at_call 109; (with_reducible refine (PL0 _ HR3.out.b).mono ?_); rintro e w4 ⟨a4, m4, rfl, hb⟩; have HR4 := Lib.hid (HR3.out.on hb); clear hb)
    | (go_at_call 106; (with_reducible refine (getC ⟨#[67, 111, 110, 102, 108, 105, 99, 116, 115]⟩ [] (by decide) (by decide +kernel) HR2.out HV.out).mono ?_); rintro e w3 ⟨rfl, hb⟩; have HR3 := Lib.hid (HR2.out.on hb); clear hb)
    | (go_at_call 108; (with_reducible refine (PA0 _ HR1.out.b).mono ?_); rintro e w2 ⟨a3, m3, rfl, hb⟩; have HR2 := Lib.hid (HR1.out.on hb); clear hb)
    | (go_at_call 106; (with_reducible refine (getC ⟨#[68, 101, 112, 101, 110, 100, 115]⟩ [] (by decide) (by decide +kernel) HR0.out HV.out).mono ?_); rintro e w1 ⟨rfl, hb⟩; have HR1 := Lib.hid (HR0.out.on hb); clear hb))
  obtain ⟨k0, k1, k2, k3, k4, k5, k6, k7, k8⟩ := nine_cells (.string ⟨#[97]⟩) (.string ⟨#[49]⟩) (.int .i64 7) (.slice a3 0 m3) (.slice a4 0 m4) (.slice a5 0 m5) (.slice none 0 0) (.slice a7 0 m7) (.slice a8 0 m8) HR16.out.h1
  have HBX := nine_below HR16.out.b (b := w.heap.size + 1) (by omega) (.string ⟨#[97]⟩) (.string ⟨#[49]⟩) (.int .i64 7) (.slice a3 0 m3) (.slice a4 0 m4) (.slice a5 0 m5) (.slice none 0 0) (.slice a7 0 m7) (.slice a8 0 m8)
  exact bodyPost_ret (v := .agg #[.string ⟨#[97]⟩, .string ⟨#[49]⟩, .int .i64 7, .slice a3 0 m3, .slice a4 0 m4, .slice a5 0 m5, .slice none 0 0, .slice a7 0 m7, .slice a8 0 m8]) (by simp [results, Tryz.results62, go_sem, k0, k1, k2, k3, k4, k5, k6, k7, k8]) rfl ⟨a3, a4, a5, a7, a8, m3, m4, m5, m7, m8, rfl, HBX⟩
end Go.Proofs.YtbeoklihpkfofaaGreatDoor
