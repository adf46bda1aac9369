/-
  check.namesOf: the names of the records that a function says yes to; nothing old turns.
-/
import Derived.Test.YtkcamfcjkjiijaaGreatDoorGTHold
import Derived.Test.YtkcamfcjkjiijaaGreatDoorGGParseF
import Derived.BigRegion
import Derived.Test.YtkcamfcjkjiijaaGreatDoorGEcMiss
import Derived.Test.YtkcamfcjkjiijaaGreatDoorGQLacks
import Derived.Deep.RegionHeld3
import Derived.Deep.AppendLies
import Derived.Deep.RegionLaw
namespace Go.Proofs.YtkcamfcjkjiijaaGreatDoor
open Go.RowKit Go.Shelf
attribute [local go_sem] Oper.semAt_some
def idxSxT (ls : List Bs) (x : Bs) : Int := match ls.findIdx? (fun y => decide (y = x)) with
  | some k => (k : Int)
  | none => -1
theorem idxS_mem (ls : List Bs) (x : Bs) : decide (idxSxT ls x ≥ 0) = decide (x ∈ ls) := by
  unfold idxSxT
  cases h : ls.findIdx? (fun y => decide (y = x)) with
  | none =>
    have : x ∉ ls := fun g => by have := List.findIdx?_eq_none_iff.1 h x g; simp at this
    rw [decide_eq_false this]; rfl
  | some k =>
    obtain ⟨hk, h1, -⟩ := List.findIdx?_eq_some_iff_getElem.1 h
    have : x ∈ ls := by
      have e : ls[k] = x := by simpa using h1
      rw [← e]; exact List.getElem_mem _
    rw [decide_eq_true this]
    show decide ((k : Int) ≥ 0) = true
    exact decide_eq_true (by omega)
theorem idxS_hitxT {ls : List Bs} {x : Bs} {k : Nat} (hx : ls[k]? = some x) (hb : ∀ (j : Nat) y, j < k → ls[j]? = some y → y ≠ x) : idxSxT ls x = k := by
  unfold idxSxT
  have : ls.findIdx? (fun y => decide (y = x)) = some k := by
    rw [List.findIdx?_eq_some_iff_getElem]
    obtain ⟨hk, e⟩ := List.getElem?_eq_some_iff.1 hx
    exact ⟨hk, by simp [e], fun j hj => by have := hb j _ hj (List.getElem?_eq_getElem (by omega)); simpa using this⟩
  rw [this]
theorem idxS_missxT {ls : List Bs} {x : Bs} (hb : ∀ (j : Nat) y, ls[j]? = some y → y ≠ x) : idxSxT ls x = -1 := by
  unfold idxSxT
  have : ls.findIdx? (fun y => decide (y = x)) = none := by
    rw [List.findIdx?_eq_none_iff]
    intro y hy
    obtain ⟨j, hj⟩ := List.mem_iff_getElem?.1 hy
    simpa using hb j y hj
  rw [this]
set_option maxRecDepth 100000 in
set_option maxHeartbeats 4000000 in
theorem index_any (v : Value) (ls : List Bs) (hl : ls.length ≤ 90000) (x : ByteArray) (w : World) (h : HoldT w v ls) : Calls Tryz.prog 79 #[v, .string x] w fun e w' => e = .returned (.int .i64 (idxSxT ls x.data.toList)) ∧ w = w' := by
  obtain ⟨a, c, b, o, rfl, hc, ha, hcell⟩ := h
  have HC := Lib.hid hcell
  obtain ⟨Z, HZ⟩ : ∃ Z, Hid (idxSxT ls x.data.toList = Z) := ⟨_, rfl⟩
  rw [HZ.out]
  obtain ⟨n, hN⟩ : ∃ n, ls.length = n := ⟨_, rfl⟩
  rw [hN] at hc ha hl ⊢
  have HN := Lib.hid hN
  clear hcell hN
  go_enter Tryz.func79, Tryz.ntmps79
  go_wp2
  go_loop [8] (fun i => ∃ k : Nat, k ≤ n ∧ i = .int .i64 k ∧ Hid (∀ (j : Nat) y, j < k → ls[j]? = some y → y ≠ x.data.toList)) (fun i => n - (intOf i).toNat)
  case atStart => exact ⟨0, by omega, rfl, Lib.hid (fun j y hj => by omega)⟩
  case round =>
    obtain ⟨k, hk, rfl, H⟩ := hrel
    by_cases hlt : k < n
    · obtain ⟨rfl, hbw⟩ := ha (by omega)
      obtain ⟨y, hy⟩ : ∃ y, ls[k]? = some y := ⟨_, List.getElem?_eq_getElem (by rw [HN.out]; exact hlt)⟩
      have c0 := HC.out k y hy
      have hq := eqT x ⟨y.toArray⟩
      rw [bytesOf] at hq
      by_cases he : x.data.toList = y
      · rw [decide_eq_true he] at hq
        have HF : Hid ((k : Int) = Z) := Lib.hid (by rw [← HZ.out, idxS_hitxT (by rw [hy, he]) H.out])
        clear he hy H HC
        generalize (⟨y.toArray⟩ : ByteArray) = Y at *
        go_wp2
        go_ret
        exact ⟨reti HF.out, rfl⟩
      · rw [decide_eq_false he] at hq
        have HK : Hid (∀ (j : Nat) u, j < k + 1 → ls[j]? = some u → u ≠ x.data.toList) := Lib.hid (fun j u hj hu => by
          by_cases e : j = k
          · subst e; rw [hy] at hu; cases hu; exact fun g => he g.symm
          · exact H.out j u (by omega) hu)
        clear he hy H HC
        generalize (⟨y.toArray⟩ : ByteArray) = Y at *
        go_wp2
        go_round
        case rel => exact ⟨k + 1, by omega, by go_num, HK⟩
        case measure => simp [intOf]; omega
    · obtain rfl : k = n := by omega
      have HF : Hid ((-1 : Int) = Z) := Lib.hid (by rw [← HZ.out, idxS_missxT (fun j y hy => H.out j y (by have := (List.getElem?_eq_some_iff.1 hy).1; rw [HN.out] at this; exact this) hy)])
      clear hlt H HC
      go_wp2
      go_ret
      exact ⟨reti HF.out, rfl⟩
set_option maxRecDepth 100000 in
theorem contains_any (v : Value) (ls : List Bs) (hl : ls.length ≤ 90000) (x : ByteArray) (w : World) (h : HoldT w v ls) : Calls Tryz.prog 53 #[v, .string x] w fun e w' => e = .returned (.bool (decide (x.data.toList ∈ ls))) ∧ w = w' := by
  have I := index_any v ls hl x w h
  have hm := idxS_mem ls x.data.toList
  generalize idxSxT ls x.data.toList = z at *
  have HM := Lib.hid hm
  clear hm h
  go_enter Tryz.func53, Tryz.ntmps53
  go_wp2_with (go_at_call 79; refine I.mono ?_; rintro e w1 ⟨rfl, rfl⟩)
  go_ret
  exact ⟨retb HM.out, rfl⟩
-- The owners' names.
/-- What lies below, and the iterator's own boxes. -/
def KpO (n0 : Nat) (A B : World) : Prop := MidKept 0 n0 A B ∧ MidKept (n0 + 1) (n0 + 3) A B
theorem KpO.refl (n0 : Nat) (A : World) : KpO n0 A A := ⟨MidKept.refl _ _ _, MidKept.refl _ _ _⟩
theorem KpO.trans {n0 : Nat} {A B C : World} (h : KpO n0 A B) (g : KpO n0 B C) : KpO n0 A C := ⟨h.1.trans g.1, h.2.trans g.2⟩
theorem KpO.alloc {n0 : Nat} (W : World) (o : Obj) (h : n0 + 3 ≤ W.heap.size) : KpO n0 W (W.alloc o) := ⟨fun k _ b => heap_alloc_old W o (by omega), fun k _ b => heap_alloc_old W o (by omega)⟩
end Go.Proofs.YtkcamfcjkjiijaaGreatDoor
namespace Go.Proofs.YtkcamfcjkjiijaaGreatDoor
open Go.RowKit Go.Shelf
attribute [local go_sem] Oper.semAt_some
end Go.Proofs.YtkcamfcjkjiijaaGreatDoor
namespace Go.Proofs.YtkcamfcjkjiijaaGreatDoor
open Go.RowKit
theorem HoldT.form2 {w : World} {v : Value} {l : List Bs} (h : HoldT w v l) : ∃ a n c, v = .slice a n c := by
  obtain ⟨a, c, b, o, rfl, _⟩ := h
  exact ⟨_, _, _, rfl⟩
set_option maxRecDepth 100000 in
set_option maxHeartbeats 4000000 in
theorem has13_any (v : Value) (ls : List Bs) (hl : ls.length ≤ 90000) (x : ByteArray) (w : World) (h : HoldT w v ls) :
    Calls Tryz.prog 31 #[v, .string x] w fun e w' => e = .returned (.bool (decide (x.data.toList ∈ ls))) ∧ w = w' := by
  obtain ⟨a, c, b, o, rfl, hc, ha, hcell⟩ := h
  have HC := Lib.hid hcell
  obtain ⟨n, hN⟩ : ∃ n, ls.length = n := ⟨_, rfl⟩
  rw [hN] at hc ha hl ⊢
  have HN := Lib.hid hN
  obtain ⟨Z, HZ⟩ : ∃ Z, Hid (decide (x.data.toList ∈ ls) = Z) := ⟨_, rfl⟩
  rw [HZ.out]
  clear hcell hN
  go_enter Tryz.func31, Tryz.ntmps31
  go_wp2
  go_loop [5] (fun i => ∃ k : Nat, k ≤ n ∧ i = .int .i64 k ∧ Hid (∀ (j : Nat) y, j < k → ls[j]? = some y → y ≠ x.data.toList)) (fun i => n - (intOf i).toNat)
  case atStart => exact ⟨0, Nat.zero_le _, rfl, Lib.hid (fun j y hj => by omega)⟩
  case round =>
    obtain ⟨k, hk, rfl, H⟩ := hrel
    by_cases hlt : k < n
    · obtain ⟨rfl, hbw⟩ := ha (by omega)
      obtain ⟨y, hy⟩ : ∃ y, ls[k]? = some y := ⟨_, List.getElem?_eq_getElem (by rw [HN.out]; exact hlt)⟩
      have c0 := HC.out k y hy
      have hq := eqT ⟨y.toArray⟩ x
      rw [bytesOf] at hq
      by_cases he : y = x.data.toList
      · rw [decide_eq_true he] at hq
        have HF : Hid (true = Z) := Lib.hid (by rw [← HZ.out, decide_eq_true (by rw [← he]; exact List.mem_of_getElem? hy)])
        clear he hy H HC
        generalize (⟨y.toArray⟩ : ByteArray) = Y at *
        go_wp2
        go_ret
        exact ⟨retb HF.out, rfl⟩
      · rw [decide_eq_false he] at hq
        have HK : Hid (∀ (j : Nat) u, j < k + 1 → ls[j]? = some u → u ≠ x.data.toList) := Lib.hid (fun j u hj hu => by
          by_cases e : j = k
          · subst e; rw [hy] at hu; cases hu; exact he
          · exact H.out j u (by omega) hu)
        clear he hy H HC
        generalize (⟨y.toArray⟩ : ByteArray) = Y at *
        go_wp2
        go_round
        case rel => exact ⟨k + 1, by omega, by go_num, HK⟩
        case measure => simp [intOf]; omega
    · obtain rfl : k = n := by omega
      have HF : Hid (false = Z) := Lib.hid (by rw [← HZ.out, decide_eq_false (fun g => by
        obtain ⟨j, hj⟩ := List.mem_iff_getElem?.1 g
        exact H.out j _ (by have := (List.getElem?_eq_some_iff.1 hj).1; rw [HN.out] at this; exact this) hj rfl)])
      clear hlt H HC
      go_wp2
      go_ret
      exact ⟨retb HF.out, rfl⟩
def minusS (l m : List Bs) : List Bs := l.filter fun x => !decide (x ∈ m)
theorem minus_yes {l m : List Bs} {k : Nat} {x : Bs} (hx : l[k]? = some x) (h : x ∉ m) : minusS (l.take (k + 1)) m = minusS (l.take k) m ++ [x] := by
  unfold minusS
  rw [List.take_add_one, hx, List.filter_append]
  simp [h]
theorem minus_no {l m : List Bs} {k : Nat} {x : Bs} (hx : l[k]? = some x) (h : x ∈ m) : minusS (l.take (k + 1)) m = minusS (l.take k) m := by
  unfold minusS
  rw [List.take_add_one, hx, List.filter_append]
  simp [h]
theorem minus_len (l m : List Bs) : (minusS l m).length ≤ l.length := List.length_filter_le _ _
theorem OwnT.belowA {B : Nat} {w0 w w' : World} {o : Obj} {base : Nat} {v : Value} {ls : List Bs} (h : Below B w0 w) (hown : OwnT w base v ls) (hg : (w.alloc o).grownBy w' v.ownBlock) (hB : B ≤ base) (hBw : B ≤ w.heap.size) : Below B w0 w' :=
  (h.alloc hBw o).grown hg (by simp; omega) (fun k hk => by have := (World.ownsRow.lt hown k hk).1; omega)
end Go.Proofs.YtkcamfcjkjiijaaGreatDoor
namespace Go.Proofs.YtkcamfcjkjiijaaGreatDoor
open Go.RowKit Go.Shelf
def namesU (l : List Uv) (p : Uv → Bool) : List Bs := (l.filter p).map fun x => x.nm
theorem names_take {l : List Uv} {p : Uv → Bool} {k : Nat} {x : Uv} (h : l[k]? = some x) : namesU (l.take (k + 1)) p = namesU (l.take k) p ++ (if p x = true then [x.nm] else []) := by
  unfold namesU
  rw [List.take_add_one, h, List.filter_append, List.map_append]
  congr 1
  by_cases g : p x = true <;> simp [g]
theorem names_len (l : List Uv) (p : Uv → Bool) : (namesU l p).length ≤ l.length := by
  unfold namesU; rw [List.length_map]; exact List.length_filter_le _ _
def KeepU (l : List Uv) (g : Nat) (lb : Array Value) (p : Uv → Bool) (w : World) : Prop :=
  ∀ W x, x ∈ l → Below w.heap.size w W → Calls Tryz.prog g (#[agZU x] ++ lb) W fun e w' => e = .returned (.bool (p x)) ∧ Below W.heap.size W w'
set_option maxRecDepth 100000 in
set_option maxHeartbeats 8000000 in
theorem namesOf_any (g : Nat) (lb : Array Value) (eg : ∀ args w, (callFunc g args).run Tryz.prog w = .ok (.enter g args) w) (p : Uv → Bool) (v : Value) (l : List Uv) (hl : l.length ≤ 90000) (w : World) (h : HoldU w v l) (hp : KeepU l g lb p w) :
    Calls Tryz.prog 40 #[v, .func (.func g) #[] lb] w fun e w' => ∃ r, e = .returned r ∧ OwnT w' w.heap.size r (namesU l p) ∧ Below w.heap.size w w' := by
  have HIN := Lib.hid h.2
  obtain ⟨a, c, b, o, rfl, hc, ha, hcell⟩ := h.parts
  obtain ⟨i0, hi, hz0, hz1, hz2'⟩ := info_parts infoT
  have HC := Lib.hid hcell
  have HP := Lib.hid hp
  obtain ⟨n, hN⟩ : ∃ n, l.length = n := ⟨_, rfl⟩
  rw [hN] at hc ha hl ⊢
  have HN := Lib.hid hN
  clear hcell hN h hp
  go_enter Tryz.func40, Tryz.ntmps40
  go_wp2
  go_loopw [5, 10] (fun u i wr => ∃ (k : Nat), k ≤ n ∧ i = .int .i64 k ∧ Hid (OwnT wr w.heap.size u (namesU (l.take k) p)) ∧ Hid (Below w.heap.size w wr)) (fun _ i _ => n - (intOf i).toNat)
  case atStart => exact ⟨0, by omega, rfl, Lib.hid (by rw [List.take_zero]; exact World.ownsRow_nil _ _ _ _), Lib.hid (Below.refl _ _)⟩
  case round =>
    obtain ⟨k, hk, rfl, HO, HB⟩ := hrel
    have hsz := HB.out.size
    by_cases hlt : k < n
    · obtain ⟨rfl, hbw⟩ := ha (by omega)
      obtain ⟨x, hx⟩ : ∃ x, l[k]? = some x := ⟨_, List.getElem?_eq_getElem (by rw [HN.out]; exact hlt)⟩
      have hm := List.mem_of_getElem? hx
      have htk := names_take (p := p) hx
      have hlen : (namesU (l.take k) p).length ≤ k := Nat.le_trans (names_len _ _) (by rw [List.length_take]; omega)
      obtain ⟨x0, x1, x2, x3, x4, x5, x6, x7, x8⟩ := HC.out k _ hx
      rw [← HB.out.cell (p := ⟨b, o + k * 9, none⟩) hbw] at x0
      rw [← HB.out.cell (p := ⟨b, o + k * 9 + 1, none⟩) hbw] at x1
      rw [← HB.out.cell (p := ⟨b, o + k * 9 + 2, none⟩) hbw] at x2
      rw [← HB.out.cell (p := ⟨b, o + k * 9 + 3, none⟩) hbw] at x3
      rw [← HB.out.cell (p := ⟨b, o + k * 9 + 4, none⟩) hbw] at x4
      rw [← HB.out.cell (p := ⟨b, o + k * 9 + 5, none⟩) hbw] at x5
      rw [← HB.out.cell (p := ⟨b, o + k * 9 + 6, none⟩) hbw] at x6
      rw [← HB.out.cell (p := ⟨b, o + k * 9 + 7, none⟩) hbw] at x7
      rw [← HB.out.cell (p := ⟨b, o + k * 9 + 8, none⟩) hbw] at x8
      have B2 := HB.out.alloc hsz (.cells #[.string (⟨x.nm.toArray⟩ : ByteArray), .string (⟨x.vr.toArray⟩ : ByteArray), .int .i64 x.st, x.dv, x.cv, x.rv, x.fv, x.pv, x.av] 71)
      have b2 := (Below.refl wr.heap.size wr).alloc (Nat.le_refl _) (.cells #[.string (⟨x.nm.toArray⟩ : ByteArray), .string (⟨x.vr.toArray⟩ : ByteArray), .int .i64 x.st, x.dv, x.cv, x.rv, x.fv, x.pv, x.av] 71)
      have hcall := HP.out _ x hm B2
      obtain ⟨y0, y1, y2, y3, y4, y5, y6, y7, y8⟩ := boxV9 wr (.string (⟨x.nm.toArray⟩ : ByteArray)) (.string (⟨x.vr.toArray⟩ : ByteArray)) (.int .i64 x.st) x.dv x.cv x.rv x.fv x.pv x.av 71
      obtain ⟨a3, n3, m3, q3⟩ := formU3 (HIN.out x hm)
      obtain ⟨a4, n4, m4, q4⟩ := formU4 (HIN.out x hm)
      obtain ⟨a5, n5, m5, q5⟩ := formU5 (HIN.out x hm)
      obtain ⟨a6, n6, m6, q6⟩ := formU6 (HIN.out x hm)
      obtain ⟨a7, n7, m7, q7⟩ := formU7 (HIN.out x hm)
      obtain ⟨a8, n8, m8, q8⟩ := formU8 (HIN.out x hm)
      unfold agZU at hcall
      simp only [q3, q4, q5, q6, q7, q8] at x3 x4 x5 x6 x7 x8 y0 hcall B2 b2
      have HXX : Hid ((⟨x.nm.toArray⟩ : ByteArray).data.toList = x.nm) := Lib.hid (by simp)
      have HO1 := Lib.hid (HO.out)
      obtain ⟨T, hT⟩ : ∃ T, namesU (l.take k) p = T := ⟨_, rfl⟩
      rw [hT] at htk hlen HO1
      have HTK := Lib.hid htk
      obtain ⟨z, hz⟩ : ∃ z, x.st = z := ⟨_, rfl⟩
      rw [hz] at x2 y0 hcall B2 b2
      obtain ⟨q, hq⟩ : ∃ q, p x = q := ⟨_, rfl⟩
      rw [hq] at hcall HTK
      generalize (⟨x.nm.toArray⟩ : ByteArray) = X0 at *
      generalize (⟨x.vr.toArray⟩ : ByteArray) = X1 at *
      have HB2 := Lib.hid B2
      have Hb2 := Lib.hid b2
      have HY := Lib.hid y0
      have HCA := Lib.hid hcall
      clear hx hm hT htk HO q3 q4 q5 q6 q7 q8 B2 b2 hz hq y0 y1 y2 y3 y4 y5 y6 y7 y8 hcall
      have hcall := HCA.out
      cases q
      · have HT2 : Hid (namesU (l.take (k + 1)) p = T) := Lib.hid (by rw [HTK.out]; simp)
        go_wp2_with (go_at_fn g; refine hcall.mono ?_; rintro e w1 ⟨rfl, hb1⟩; have HB1 := Lib.hid (HB2.out.trans (hb1.mono HB2.out.size)); have HO1b := Lib.hid ((HO1.out.on Hb2.out).on hb1); clear hb1 hcall HCA)
        go_roundw
        case rel => exact ⟨k + 1, by omega, by go_num, by rw [HT2.out]; exact HO1b, HB1⟩
        case measure => simp [intOf]; omega
      · have HT2 : Hid (namesU (l.take (k + 1)) p = T ++ [x.nm]) := Lib.hid (by rw [HTK.out]; simp)
        go_wp2_with (first
          | (go_at_fn g; refine hcall.mono ?_; rintro e w1 ⟨rfl, hb1⟩; have HB1 := Lib.hid (HB2.out.trans (hb1.mono HB2.out.size)); have HO1b := Lib.hid ((HO1.out.on Hb2.out).on hb1); have hsz1 := HB1.out.size; have y0 := (hb1.cell (p := ⟨wr.heap.size, 0, none⟩) (by simp)).trans HY.out; clear hb1 hcall HCA)
          | (at_builtin; refine wpList_append_own _ rfl _ _ 33 rfl w.heap.size 9 i0 _ 1 16 Tryz.underlying33 hi hz0 hz1 hz2' rfl (by decide) _ _ _ rfl (World.ownsRow.alloc HO1b.out _) ⟨w1.heap.size, 0, none⟩ 1 1 [.string X0] rfl rfl ?c1 ?c2 ?c3 ?c4 ?c5 ?_))
        case c1 =>
          intro j u hj
          match j, hj with
          | 0, hj => simp at hj; subst hj; simp [Addr.add]
        case c2 => intro u hu; simp at hu; subst hu; rfl
        case c3 => unfold maxLen; omega
        case c4 => omega
        case c5 => simp; omega
        intro v' w4 hown' hgrow _
        have HO4 : Hid (OwnT w4 w.heap.size v' (namesU (l.take (k + 1)) p)) := Lib.hid (by rw [HT2.out]; exact OwnT.app HXX.out (by simpa using hown'))
        have HB4 : Hid (Below w.heap.size w w4) := Lib.hid (OwnT.belowA HB1.out HO1b.out hgrow (Nat.le_refl _) hsz1)
        clear hown' hgrow
        go_wp2
        go_roundw
        case rel => exact ⟨k + 1, by omega, by go_num, HO4, HB4⟩
        case measure => simp [intOf]; omega
    · obtain rfl : k = n := by omega
      have HFE : Hid (namesU (l.take k) p = namesU l p) := Lib.hid (by rw [List.take_of_length_le (by rw [HN.out]; omega)])
      clear hlt
      go_wp2
      go_ret
      exact ⟨_, rfl, by have := HO.out; rw [HFE.out] at this; exact this, HB.out⟩
end Go.Proofs.YtkcamfcjkjiijaaGreatDoor
