/-
  Parts of the program's Right of a record, at any record: its version, its state, its relations, what it replaces: what each returns; nothing old turns. Condition: LaidU.
-/
import Derived.Test.YtpkdnohaefkfgaaGreatDoorGZHold
import Derived.Test.YtpkdnohaefkfgaaGreatDoorGShelf
import Derived.Test.YtpkdnohaefkfgaaGreatDoorGUTrig
import Derived.Test.YtpkdnohaefkfgaaGreatDoorGQLacks
import Derived.Test.YtpkdnohaefkfgaaGreatDoorGUKeyF
import Derived.Test.YtpkdnohaefkfgaaGreatDoorGBTexts
import Derived.Test.YtpkdnohaefkfgaaGreatDoorGVPParse
import Derived.Test.YtpkdnohaefkfgaaGreatDoorGBAll
namespace Go.Proofs.YtpkdnohaefkfgaaGreatDoor
open Go.RowKit
def PredT (l : List Bs) (g : Nat) (lb : Array Value) (p : Bs → Bool) (w : World) : Prop :=
  ∀ W x, x ∈ l → Below w.heap.size w W → Calls Tryz.prog g (#[.string (⟨x.toArray⟩ : ByteArray)] ++ lb) W fun e w' => e = .returned (.bool (p x)) ∧ Below W.heap.size W w'
def idxT (l : List (Bs)) (p : Bs → Bool) : Int := match l.findIdx? p with
  | some k => (k : Int)
  | none => -1
theorem idxT_hit {l : List (Bs)} {p : Bs → Bool} {k : Nat} {x : Bs} (hx : l[k]? = some x) (hp : p x = true) (hb : ∀ (j : Nat) y, j < k → l[j]? = some y → p y = false) : l.findIdx? p = some k := by
  rw [List.findIdx?_eq_some_iff_getElem]
  obtain ⟨hk, e⟩ := List.getElem?_eq_some_iff.1 hx
  exact ⟨hk, by rw [e]; exact hp, fun j hj => by rw [hb j _ hj (List.getElem?_eq_getElem (by omega))]; simp⟩
theorem idxT_miss {l : List (Bs)} {p : Bs → Bool} (hb : ∀ (j : Nat) y, l[j]? = some y → p y = false) : l.findIdx? p = none := by
  rw [List.findIdx?_eq_none_iff]
  intro y hy
  obtain ⟨j, hj⟩ := List.mem_iff_getElem?.1 hy
  exact hb j y hj
set_option maxRecDepth 100000 in
set_option maxHeartbeats 4000000 in
theorem idxT_any (g : Nat) (lb : Array Value) (eg : ∀ args w, (callFunc g args).run Tryz.prog w = .ok (.enter g args) w) (p : Bs → Bool) (v : Value) (l : List (Bs)) (hl : l.length ≤ 90000) (w : World) (h : HoldT w v l) (hp : PredT l g lb p w) :
    Calls Tryz.prog 91 #[v, .func (.func g) #[] lb] w fun e w' => e = .returned (.int .i64 (idxT l p)) ∧ Below w.heap.size w w' := by
  obtain ⟨a, c, b, o, rfl, hc, ha, hcell⟩ := h
  have HC := Lib.hid hcell
  obtain ⟨Z, HZ⟩ : ∃ Z, Hid (idxT l p = Z) := ⟨_, rfl⟩
  rw [HZ.out]
  have HP := Lib.hid hp
  obtain ⟨n, hN⟩ : ∃ n, l.length = n := ⟨_, rfl⟩
  rw [hN] at hc ha hl ⊢
  have HN := Lib.hid hN
  clear hcell hp hN
  go_enter Tryz.func91, Tryz.ntmps91
  go_wp2
  go_loopw [8] (fun i wr => ∃ k : Nat, k ≤ n ∧ i = .int .i64 k ∧ Hid (∀ (j : Nat) y, j < k → l[j]? = some y → p y = false) ∧ Hid (Below w.heap.size w wr)) (fun i _ => n - (intOf i).toNat)
  case atStart => exact ⟨0, by omega, rfl, Lib.hid (fun j y hj => by omega), Lib.hid (Below.refl _ _)⟩
  case round =>
    obtain ⟨k, hk, rfl, H, HB⟩ := hrel
    by_cases hlt : k < n
    · obtain ⟨rfl, hbw⟩ := ha (by omega)
      obtain ⟨a0, hx⟩ : ∃ x, l[k]? = some x := ⟨_, List.getElem?_eq_getElem (by rw [HN.out]; exact hlt)⟩
      have c0 := HC.out k a0 hx
      rw [← HB.out.cell (p := ⟨b, o + k, none⟩) hbw] at c0
      have hcall := HP.out wr a0 (List.mem_of_getElem? hx) HB.out
      have HX := Lib.hid hx
      clear hx
      cases hq : p a0
      · rw [hq] at hcall
        have HK : Hid (∀ (j : Nat) y, j < k + 1 → l[j]? = some y → p y = false) := Lib.hid (fun j y hj hy => by
          by_cases e : j = k
          · subst e
            rw [HX.out] at hy; cases hy
            exact hq
          · exact H.out j y (by omega) hy)
        clear hq H
        generalize (⟨a0.toArray⟩ : ByteArray) = X0 at *
        go_wp2_with (go_at_fn g; refine hcall.mono ?_; rintro e w1 ⟨rfl, hb1⟩; have HB1 := Lib.hid (HB.out.trans (hb1.mono HB.out.size)); clear hb1)
        go_roundw
        case rel => exact ⟨k + 1, by omega, by go_num, HK, HB1⟩
        case measure => simp [intOf]; omega
      · rw [hq] at hcall
        have HF : Hid ((k : Int) = Z) := Lib.hid (by rw [← HZ.out, idxT, idxT_hit HX.out hq H.out])
        clear hq H
        generalize (⟨a0.toArray⟩ : ByteArray) = X0 at *
        go_wp2_with (go_at_fn g; refine hcall.mono ?_; rintro e w1 ⟨rfl, hb1⟩; have HB1 := Lib.hid (HB.out.trans (hb1.mono HB.out.size)); clear hb1)
        go_ret
        exact ⟨reti HF.out, HB1.out⟩
    · obtain rfl : k = n := by omega
      have HF : Hid ((-1 : Int) = Z) := Lib.hid (by rw [← HZ.out, idxT, idxT_miss (fun j y hy => H.out j y (by have := (List.getElem?_eq_some_iff.1 hy).1; rw [HN.out] at this; exact this) hy)])
      clear hlt H
      go_wp2
      go_ret
      exact ⟨reti HF.out, HB.out⟩
theorem idxT_neg {l : List Bs} {p : Bs → Bool} : (0 ≤ idxT l p) = (l.any p = true) := by
  unfold idxT
  cases h : l.findIdx? p with
  | none =>
    rw [List.findIdx?_eq_none_iff] at h
    have : l.any p = false := by rw [List.any_eq_false]; intro x hx; rw [h x hx]; simp
    rw [this]; simp
  | some k =>
    obtain ⟨hk, hp, _⟩ := List.findIdx?_eq_some_iff_getElem.1 h
    have : l.any p = true := List.any_eq_true.2 ⟨_, List.getElem_mem hk, hp⟩
    rw [this]; simp
set_option maxHeartbeats 4000000 in
theorem contT_any (g : Nat) (lb : Array Value) (eg : ∀ args w, (callFunc g args).run Tryz.prog w = .ok (.enter g args) w) (p : Bs → Bool) (v : Value) (l : List Bs) (hl : l.length ≤ 90000) (w : World) (h : HoldT w v l) (hp : PredT l g lb p w) :
    Calls Tryz.prog 71 #[v, .func (.func g) #[] lb] w fun e w' => e = .returned (.bool (l.any p)) ∧ Below w.heap.size w w' := by
  have C := idxT_any g lb eg p v l hl w h hp
  obtain ⟨a, c, b, o, rfl, -⟩ := h
  have HN := Lib.hid (idxT_neg (l := l) (p := p))
  generalize idxT l p = z at *
  generalize hq : l.any p = q at *
  have hz : decide (0 ≤ z) = q := by
    have := HN.out
    cases q
    · rw [decide_eq_false_iff_not, this]; simp
    · rw [decide_eq_true_iff, this]
  generalize l.length = n at *
  clear hp hl hq
  cases q
  all_goals
    go_enter Tryz.func71, Tryz.ntmps71
    go_wp2_with (go_at_call 91; (with_reducible refine C.mono ?_); rintro e w1 ⟨rfl, hb⟩; have HB := Lib.hid hb; clear hb)
    go_ret
    exact ⟨rfl, HB.out⟩
end Go.Proofs.YtpkdnohaefkfgaaGreatDoor
namespace Go.Proofs.YtpkdnohaefkfgaaGreatDoor
open Go.RowKit
/-- The words of the states. -/
def wordsU : List Bs := [[], [99, 111, 110, 102, 105, 103, 45, 102, 105, 108, 101, 115], [104, 97, 108, 102, 45, 105, 110, 115, 116, 97, 108, 108, 101, 100], [117, 110, 112, 97, 99, 107, 101, 100], [104, 97, 108, 102, 45, 99, 111, 110, 102, 105, 103, 117, 114, 101, 100], [116, 114, 105, 103, 103, 101, 114, 115, 45, 97, 119, 97, 105, 116, 101, 100], [116, 114, 105, 103, 103, 101, 114, 115, 45, 112, 101, 110, 100, 105, 110, 103], [105, 110, 115, 116, 97, 108, 108, 101, 100]]
/-- What the program lays, of which status speaks. -/
structure LaidU (w : World) : Prop where
  q : LaidQ w
  p : LaidP w
  ws : ∀ (k : Nat) (x : Bs), wordsU[k]? = some x → w.cell? ⟨0, k, none⟩ = some (.string (bsT x))
theorem LaidU.on {w w' : World} (h : LaidU w) (hb : Below w.heap.size w w') : LaidU w' :=
  ⟨h.q.on hb, h.p.on hb, fun k x hx => (hb.cell (World.block_lt_of_cell? w _ (h.ws k x hx))).trans (h.ws k x hx)⟩
def wordU (z : Int) : Bs := if z < 0 then [] else match wordsU[z.toNat]? with
  | some x => x
  | none => []
theorem word_out {z : Int} (h : z < 0 ∨ 8 ≤ z) : wordU z = [] := by
  unfold wordU
  rcases h with h | h
  · rw [if_pos h]
  · rw [if_neg (by omega), List.getElem?_eq_none (by show 8 ≤ _; omega)]
set_option maxRecDepth 100000 in
set_option maxHeartbeats 4000000 in
theorem word_any (z : Int) (w : World) (hL : LaidU w) : Calls Tryz.prog 40 #[.int .i64 z] w fun e w' => e = .returned (.string (bsT (wordU z))) ∧ Below w.heap.size w w' := by
  by_cases hz : z < 0 ∨ 8 ≤ z
  · rw [word_out hz]
    clear hL
    rcases hz with hz | hz
    all_goals
      go_enter Tryz.func40, Tryz.ntmps40
      go_wp2
      go_ret
      exact ⟨rfl, Below.refl _ _⟩
  · have h8 : z = 0 ∨ z = 1 ∨ z = 2 ∨ z = 3 ∨ z = 4 ∨ z = 5 ∨ z = 6 ∨ z = 7 := by omega
    have c0 : w.cell? ⟨0, 0, none⟩ = some (.string (⟨#[]⟩ : ByteArray)) := hL.ws 0 _ rfl
    have c1 : w.cell? ⟨0, 1, none⟩ = some (.string (⟨#[99, 111, 110, 102, 105, 103, 45, 102, 105, 108, 101, 115]⟩ : ByteArray)) := hL.ws 1 _ rfl
    have c2 : w.cell? ⟨0, 2, none⟩ = some (.string (⟨#[104, 97, 108, 102, 45, 105, 110, 115, 116, 97, 108, 108, 101, 100]⟩ : ByteArray)) := hL.ws 2 _ rfl
    have c3 : w.cell? ⟨0, 3, none⟩ = some (.string (⟨#[117, 110, 112, 97, 99, 107, 101, 100]⟩ : ByteArray)) := hL.ws 3 _ rfl
    have c4 : w.cell? ⟨0, 4, none⟩ = some (.string (⟨#[104, 97, 108, 102, 45, 99, 111, 110, 102, 105, 103, 117, 114, 101, 100]⟩ : ByteArray)) := hL.ws 4 _ rfl
    have c5 : w.cell? ⟨0, 5, none⟩ = some (.string (⟨#[116, 114, 105, 103, 103, 101, 114, 115, 45, 97, 119, 97, 105, 116, 101, 100]⟩ : ByteArray)) := hL.ws 5 _ rfl
    have c6 : w.cell? ⟨0, 6, none⟩ = some (.string (⟨#[116, 114, 105, 103, 103, 101, 114, 115, 45, 112, 101, 110, 100, 105, 110, 103]⟩ : ByteArray)) := hL.ws 6 _ rfl
    have c7 : w.cell? ⟨0, 7, none⟩ = some (.string (⟨#[105, 110, 115, 116, 97, 108, 108, 101, 100]⟩ : ByteArray)) := hL.ws 7 _ rfl
    clear hL hz
    rcases h8 with rfl | rfl | rfl | rfl | rfl | rfl | rfl | rfl
    all_goals
      go_enter Tryz.func40, Tryz.ntmps40
      go_wp2
      go_ret
      exact ⟨rfl, Below.refl _ _⟩
end Go.Proofs.YtpkdnohaefkfgaaGreatDoor
namespace Go.Proofs.YtpkdnohaefkfgaaGreatDoor
open Go.RowKit Go.Shelf
set_option maxRecDepth 100000 in
set_option maxHeartbeats 4000000 in
theorem settled_any (X0 X1 : ByteArray) (z : Int) (a3 a4 a5 a6 a7 a8 : Option Addr) (n3 n4 n5 n6 n7 n8 m3 m4 m5 m6 m7 m8 : Nat) (w : World) : Calls Tryz.prog 39 #[.agg #[.string X0, .string X1, .int .i64 z, .slice a3 n3 m3, .slice a4 n4 m4, .slice a5 n5 m5, .slice a6 n6 m6, .slice a7 n7 m7, .slice a8 n8 m8]] w fun e w' => e = .returned (.int .i64 (if 0 < n8 then 5 else if 0 < n7 then 6 else 7)) ∧ Below w.heap.size w w' := by
  obtain ⟨x0, x1, x2, x3, x4, x5, x6, x7, x8⟩ := boxV9 w (.string X0) (.string X1) (.int .i64 z) (.slice a3 n3 m3) (.slice a4 n4 m4) (.slice a5 n5 m5) (.slice a6 n6 m6) (.slice a7 n7 m7) (.slice a8 n8 m8) 37
  have B0 := (Below.refl w.heap.size w).alloc (Nat.le_refl _) (.cells #[.string X0, .string X1, .int .i64 z, .slice a3 n3 m3, .slice a4 n4 m4, .slice a5 n5 m5, .slice a6 n6 m6, .slice a7 n7 m7, .slice a8 n8 m8] 37)
  by_cases h8 : 0 < n8
  · rw [if_pos h8]
    go_enter Tryz.func39, Tryz.ntmps39
    go_wp2
    go_ret
    exact ⟨rfl, B0⟩
  · rw [if_neg h8]
    by_cases h7 : 0 < n7
    · rw [if_pos h7]
      go_enter Tryz.func39, Tryz.ntmps39
      go_wp2
      go_ret
      exact ⟨rfl, B0⟩
    · rw [if_neg h7]
      go_enter Tryz.func39, Tryz.ntmps39
      go_wp2
      go_ret
      exact ⟨rfl, B0⟩
end Go.Proofs.YtpkdnohaefkfgaaGreatDoor
namespace Go.Proofs.YtpkdnohaefkfgaaGreatDoor
open Go.RowKit Go.Shelf
set_option maxHeartbeats 4000000 in
theorem rightVerU_any (v : ByteArray) (hv : v.size ≤ maxLen) (w : World) (h : LaidV w) : Calls Tryz.prog 25 #[.string v] w fun e w' => e = .returned (.bool (decide ((parseE v.data.toList).2 = 0))) ∧ Below w.heap.size w w' := by
  have PV := parseBig_any v hv w h
  unfold ParsePost parseV verV at PV
  obtain ⟨k, hk⟩ : ∃ k : Int, (parseE v.data.toList).2 = k := ⟨_, rfl⟩
  obtain ⟨z, hz⟩ : ∃ z : Int, (parseE v.data.toList).1.1 = z := ⟨_, rfl⟩
  obtain ⟨U, hU⟩ : ∃ U : ByteArray, (⟨((parseE v.data.toList).1.2.1).toArray⟩ : ByteArray) = U := ⟨_, rfl⟩
  obtain ⟨V, hV⟩ : ∃ V : ByteArray, (⟨((parseE v.data.toList).1.2.2).toArray⟩ : ByteArray) = V := ⟨_, rfl⟩
  simp only [hk, hz, hU, hV] at PV ⊢
  have hkd : Hid (decide (k = 0) = (k == 0)) := Lib.hid rfl
  clear hk hz hU hV h
  go_enter Tryz.func25, Tryz.ntmps25
  go_wp2_with (go_at_call 38; (with_reducible refine PV.mono ?_); rintro e w2 ⟨rfl, hb⟩; have HB := Lib.hid (hb.alloc hb.size (.cells #[.int .i64 z, .string U, .string V] 64)); clear hb)
  go_ret
  exact ⟨retb hkd.out.symm, HB.out⟩
/-- What a record's state is by its triggers. -/
def setU (n7 n8 : Nat) : Int := if 0 < n8 then 5 else if 0 < n7 then 6 else 7
def stateOkU (z : Int) (n7 n8 : Nat) : Bool := if z = 5 ∨ z = 6 then decide (setU n7 n8 = z) else decide (wordU z ≠ []) && decide (setU n7 n8 = 7)
set_option maxRecDepth 100000 in
set_option maxHeartbeats 4000000 in
theorem rightRelsU_any (X0 X1 : ByteArray) (z : Int) (a3 a4 a5 a6 a7 a8 : Option Addr) (n3 n4 n5 n6 n7 n8 m3 m4 m5 m6 m7 m8 : Nat) (dp : List Gv) (cn : List Rl) (hd : dp.length ≤ 500) (hdb : BigG dp) (hc : cn.length ≤ 90000) (hcb : BigQ cn) (w : World) (hh : HoldGs w (.slice a3 n3 m3) dp) (hq : HoldQ w (.slice a4 n4 m4) cn) (hL : LaidU w) : Calls Tryz.prog 27 #[.agg #[.string X0, .string X1, .int .i64 z, .slice a3 n3 m3, .slice a4 n4 m4, .slice a5 n5 m5, .slice a6 n6 m6, .slice a7 n7 m7, .slice a8 n8 m8]] w fun e w' => e = .returned (.bool (decide ((allE (fsts dp)).2 = 0) && decide ((listE cn).2 = 0))) ∧ Below w.heap.size w w' := by
  have HL := Lib.hid hL
  have C1 := fun W (hb : Below w.heap.size w W) => allBig_any (.slice a3 n3 m3) dp hd hdb W (hh.on hb) (HL.out.on hb).q.v
  have C2 := fun W (hb : Below w.heap.size w W) => listBig_any (.slice a4 n4 m4) cn hc hcb W (HoldV.on hq hb) (HL.out.on hb).q.v
  unfold TwoP at C1 C2
  generalize (allE (fsts dp)).2 = y1 at *
  generalize (listE cn).2 = y2 at *
  generalize bsT (allE (fsts dp)).1 = T1 at *
  generalize bsT (listE cn).1 = T2 at *
  clear hL hh hq hd hdb hc hcb
  obtain ⟨x0, x1, x2, x3, x4, x5, x6, x7, x8⟩ := boxV9 w (.string X0) (.string X1) (.int .i64 z) (.slice a3 n3 m3) (.slice a4 n4 m4) (.slice a5 n5 m5) (.slice a6 n6 m6) (.slice a7 n7 m7) (.slice a8 n8 m8) 37
  have B0 := (Below.refl w.heap.size w).alloc (Nat.le_refl _) (.cells #[.string X0, .string X1, .int .i64 z, .slice a3 n3 m3, .slice a4 n4 m4, .slice a5 n5 m5, .slice a6 n6 m6, .slice a7 n7 m7, .slice a8 n8 m8] 37)
  have HB0 := Lib.hid B0
  have h1 : decide (y1 = 0) = (y1 == 0) := rfl
  have h2 : decide (y2 = 0) = (y2 == 0) := rfl
  rw [h1, h2]
  clear h1 h2
  generalize hq1 : (y1 == 0) = b1
  generalize hq2 : (y2 == 0) = b2
  cases b1 <;> cases b2
  all_goals
    go_enter Tryz.func27, Tryz.ntmps27
    go_wp2_with (first
      | (go_at_call 41; (with_reducible refine (C1 _ HB0.out).mono ?_); rintro e w1 ⟨rfl, hb⟩; have HB1 := Lib.hid (HB0.out.trans (hb.mono HB0.out.size)); rw [← hb.cell (p := ⟨w.heap.size, 4, none⟩) (by simp)] at x4; clear hb)
      | (go_at_call 42; (with_reducible refine (C2 _ HB1.out).mono ?_); rintro e w2 ⟨rfl, hb⟩; have HB2 := Lib.hid (HB1.out.trans (hb.mono HB1.out.size)); clear hb))
    go_ret
    exact ⟨rfl, HB2.out⟩
set_option maxRecDepth 100000 in
set_option maxHeartbeats 4000000 in
theorem notName_any (s : ByteArray) (hs : s.size ≤ maxLen) (w : World) : Calls Tryz.prog 72 #[.string s] w fun e w' => e = .returned (.bool (!nameB s.data.toList)) ∧ Below w.heap.size w w' := by
  have N := fun W => nameBig_any s hs W
  generalize nameB s.data.toList = q at *
  go_enter Tryz.func72, Tryz.ntmps72
  go_wp2_with (go_at_call 24; (with_reducible refine (N _).mono ?_); rintro e w1 ⟨rfl, rfl⟩)
  go_ret
  exact ⟨rfl, Below.refl _ _⟩
set_option maxRecDepth 100000 in
set_option maxHeartbeats 4000000 in
theorem rightRepU_any (v : Value) (l : List Bs) (hl : l.length ≤ 90000) (hb : ∀ x ∈ l, x.length ≤ maxLen) (w : World) (h : HoldT w v l) : Calls Tryz.prog 43 #[v] w fun e w' => e = .returned (.bool (decide (l.length ≤ 64) && l.all nameB)) ∧ Below w.heap.size w w' := by
  have C := contT_any 72 #[] (enters_of Tryz.func72 (by kernel_rfl) rfl) (fun x => !nameB x) v l hl w h (fun W x hx hW => by
    have := notName_any (bsT x) (by rw [sizeOf, bytesOf]; exact hb x hx) W
    rw [bytesOf] at this
    exact this)
  have HA : l.all nameB = !(l.any fun x => !nameB x) := by rw [List.not_any_eq_all_not]; simp
  rw [HA]
  clear HA
  obtain ⟨a, c, b, o, rfl, -⟩ := h
  generalize (l.any fun x => !nameB x) = q at *
  generalize l.length = n at *
  clear hb
  have e : decide (n ≤ 64) = decide ((n : Int) ≤ 64) := by congr 1; apply propext; omega
  rw [e]
  by_cases h64 : (n : Int) ≤ 64
  · rw [decide_eq_true h64]
    go_enter Tryz.func43, Tryz.ntmps43
    go_wp2_with (go_at_call 71; (with_reducible refine C.mono ?_); rintro e w1 ⟨rfl, hb⟩; have HB := Lib.hid hb; clear hb)
    go_ret
    exact ⟨rfl, HB.out⟩
  · rw [decide_eq_false h64]
    go_enter Tryz.func43, Tryz.ntmps43
    go_wp2
    go_ret
    exact ⟨rfl, Below.refl _ _⟩
end Go.Proofs.YtpkdnohaefkfgaaGreatDoor
