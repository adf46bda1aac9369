/-
  Fired triggers: slices.IndexFunc with whatever predicate, ContainsFunc, keyed.Check, the program's CheckFired: what each returns; nothing old turns. Condition of CheckFired: LaidP.
-/
import Derived.Test.YtceohgjfjndcmaaGreatDoorGNames
import Derived.Test.YtceohgjfjndcmaaGreatDoorBoxV
import Derived.Deep.RegionHeld3
namespace Go.Proofs.YtceohgjfjndcmaaGreatDoor
open Go.RowKit
theorem HoldT.form3 {w : World} {v : Value} {l : List Bs} (h : HoldT w v l) : ∃ a n c, v = .slice a n c := by
  obtain ⟨a, c, b, o, rfl, _⟩ := h; exact ⟨a, _, c, rfl⟩
def SmallF (L : List Fp) : Prop := ∀ p ∈ L, p.1.1.length ≤ 4000 ∧ p.1.2.length ≤ 90000 ∧ SmallT p.1.2
def idxF (l : List Fp) (p : Fp → Bool) : Int := match l.findIdx? p with
  | some k => (k : Int)
  | none => -1
theorem idxF_hit {l : List Fp} {p : Fp → Bool} {k : Nat} {x : Fp} (hx : l[k]? = some x) (hp : p x = true) (hb : ∀ (j : Nat) y, j < k → l[j]? = some y → p y = false) : idxF l p = k := by
  unfold idxF
  have : l.findIdx? p = some k := by
    rw [List.findIdx?_eq_some_iff_getElem]
    obtain ⟨hk, e⟩ := List.getElem?_eq_some_iff.1 hx
    exact ⟨hk, by rw [e]; exact hp, fun j hj => by rw [hb j _ hj (List.getElem?_eq_getElem (by omega))]; simp⟩
  rw [this]
theorem idxF_miss {l : List Fp} {p : Fp → Bool} (hb : ∀ (j : Nat) y, l[j]? = some y → p y = false) : idxF l p = -1 := by
  unfold idxF
  have : l.findIdx? p = none := by
    rw [List.findIdx?_eq_none_iff]
    intro y hy
    obtain ⟨j, hj⟩ := List.mem_iff_getElem?.1 hy
    exact hb j y hj
  rw [this]
def trigIs (k : Bs) (x : Fp) : Bool := decide (x.1.1 = k)
def PredF (g : Nat) (lb : Array Value) (l : List Fp) (p : Fp → Bool) (w : World) : Prop :=
  ∀ W x, Below w.heap.size w W → x ∈ l → Calls Tryz.prog g (#[aggF x] ++ lb) W fun e w' => e = .returned (.bool (p x)) ∧ Below W.heap.size W w'
set_option maxRecDepth 100000 in
set_option maxHeartbeats 4000000 in
theorem idx_fr (g : Nat) (lb : Array Value) (eg : ∀ args w, (callFunc g args).run Tryz.prog w = .ok (.enter g args) w) (p : Fp → Bool) (v : Value) (l : List Fp) (hl : l.length ≤ 90000) (w : World) (h : HoldF w v l) (hp : PredF g lb l p w) :
    Calls Tryz.prog 77 #[v, .func (.func g) #[] lb] w fun e w' => e = .returned (.int .i64 (idxF l p)) ∧ Below w.heap.size w w' := by
  have hin := h.1
  obtain ⟨a, c, b, o, rfl, hc, ha, hcell⟩ := h.parts
  have HC := Lib.hid hcell
  have HI := Lib.hid hin
  obtain ⟨Z, HZ⟩ : ∃ Z, Hid (idxF l p = Z) := ⟨_, rfl⟩
  rw [HZ.out]
  have HP := Lib.hid hp
  obtain ⟨n, hN⟩ : ∃ n, l.length = n := ⟨_, rfl⟩
  rw [hN] at hc ha hl ⊢
  have HN := Lib.hid hN
  clear hcell hp hN hin h
  go_enter Tryz.func77, Tryz.ntmps77
  go_wp2
  go_loopw [8] (fun i wr => ∃ k : Nat, k ≤ n ∧ i = .int .i64 k ∧ Hid (∀ (j : Nat) y, j < k → l[j]? = some y → p y = false) ∧ Hid (Below w.heap.size w wr)) (fun i _ => n - (intOf i).toNat)
  case atStart => exact ⟨0, by omega, rfl, Lib.hid (fun j y hj => by omega), Lib.hid (Below.refl _ _)⟩
  case round =>
    obtain ⟨k, hk, rfl, H, HB⟩ := hrel
    by_cases hlt : k < n
    · obtain ⟨rfl, hbw⟩ := ha (by omega)
      obtain ⟨x, hx⟩ : ∃ x, l[k]? = some x := ⟨_, List.getElem?_eq_getElem (by rw [HN.out]; exact hlt)⟩
      obtain ⟨c0, c1⟩ := HC.out k x hx
      rw [← HB.out.cell (p := ⟨b, o + k * 2, none⟩) hbw] at c0
      rw [← HB.out.cell (p := ⟨b, o + k * 2 + 1, none⟩) hbw] at c1
      have hcall := HP.out wr x HB.out (List.mem_of_getElem? hx)
      obtain ⟨ua, un, uc, hu⟩ := HoldT.form3 (HI.out x (List.mem_of_getElem? hx))
      unfold aggF at hcall
      rw [hu] at hcall c1
      have HX := Lib.hid hx
      clear hx hu
      cases hq : p x
      · rw [hq] at hcall
        have HK : Hid (∀ (j : Nat) y, j < k + 1 → l[j]? = some y → p y = false) := Lib.hid (fun j y hj hy => by
          by_cases e : j = k
          · subst e
            rw [HX.out] at hy; cases hy
            exact hq
          · exact H.out j y (by omega) hy)
        clear hq H
        go_wp2_with (go_at_fn g; refine hcall.mono ?_; rintro e w1 ⟨rfl, hb1⟩; have HB1 := Lib.hid (HB.out.trans (hb1.mono HB.out.size)); clear hb1)
        go_roundw
        case rel => exact ⟨k + 1, by omega, by go_num, HK, HB1⟩
        case measure => simp [intOf]; omega
      · rw [hq] at hcall
        have HF : Hid ((k : Int) = Z) := Lib.hid (by rw [← HZ.out, idxF_hit HX.out hq H.out])
        clear hq H
        go_wp2_with (go_at_fn g; refine hcall.mono ?_; rintro e w1 ⟨rfl, hb1⟩; have HB1 := Lib.hid (HB.out.trans (hb1.mono HB.out.size)); clear hb1)
        go_ret
        exact ⟨reti HF.out, HB1.out⟩
    · obtain rfl : k = n := by omega
      have HF : Hid ((-1 : Int) = Z) := Lib.hid (by rw [← HZ.out, idxF_miss (fun j y hy => H.out j y (by have := (List.getElem?_eq_some_iff.1 hy).1; rw [HN.out] at this; exact this) hy)])
      clear hlt H
      go_wp2
      go_ret
      exact ⟨reti HF.out, HB.out⟩
theorem crowded_any (X : ByteArray) (a : Option Addr) (n c : Nat) (hn : n ≤ 90000) (w : World) : Calls Tryz.prog 44 #[.agg #[.string X, .slice a n c]] w fun e w' => e = .returned (.bool (decide (64 < n))) ∧ Below w.heap.size w w' := by
  obtain ⟨x0, x1⟩ := boxV2 w (.string X) (.slice a n c) 74
  have B0 := Lib.hid ((Below.refl w.heap.size w).alloc (Nat.le_refl _) (.cells #[.string X, .slice a n c] 74))
  have hd : decide ((64 : Int) < (n : Int)) = decide (64 < n) := by by_cases g : 64 < n <;> simp [g] <;> omega
  generalize decide (64 < n) = q at *
  go_enter Tryz.func44, Tryz.ntmps44
  go_wp2
  go_ret
  exact ⟨rfl, B0.out⟩
theorem triggerOf_any (X : ByteArray) (u : Value) (w : World) : Calls Tryz.prog 46 #[.agg #[.string X, u]] w fun e w' => e = .returned (.string X) ∧ Below w.heap.size w w' := by
  obtain ⟨x0, x1⟩ := boxV2 w (.string X) u 74
  have B0 := Lib.hid ((Below.refl w.heap.size w).alloc (Nat.le_refl _) (.cells #[.string X, u] 74))
  go_enter Tryz.func46, Tryz.ntmps46
  go_wp2
  go_ret
  exact ⟨rfl, B0.out⟩
def crowdB (p : Fp) : Bool := decide (64 < p.1.2.length)
open Classical in
theorem crowd_idx (L : List Fp) : (0 ≤ idxF L crowdB ∧ CrowdF (L.map (·.1))) ∨ (idxF L crowdB = -1 ∧ ¬ CrowdF (L.map (·.1))) := by
  unfold idxF
  cases h : L.findIdx? crowdB with
  | none =>
    refine .inr ⟨rfl, ?_⟩
    rintro ⟨x, hx, hc⟩
    obtain ⟨p, hp, rfl⟩ := List.mem_map.1 hx
    have := List.findIdx?_eq_none_iff.1 h p hp
    unfold crowdB at this
    rw [decide_eq_true hc] at this; cases this
  | some k =>
    obtain ⟨hk, h1, _⟩ := List.findIdx?_eq_some_iff_getElem.1 h
    refine .inl ⟨Int.natCast_nonneg k, L[k].1, List.mem_map.2 ⟨L[k], List.getElem_mem hk, rfl⟩, of_decide_eq_true h1⟩
set_option maxRecDepth 100000 in
theorem contains_any (v : Value) (L : List Fp) (hl : L.length ≤ 90000) (hs : SmallF L) (w : World) (h : HoldF w v L) : ∃ q : Bool, (q = true → CrowdF (L.map (·.1))) ∧ (q = false → ¬ CrowdF (L.map (·.1))) ∧
    Calls Tryz.prog 43 #[v, .func (.func 44) #[] #[]] w fun e w' => e = .returned (.bool q) ∧ Below w.heap.size w w' := by
  have I := idx_fr 44 #[] (enters_of Tryz.func44 (by kernel_rfl) rfl) crowdB v L hl w h (fun W x hb hx => by
    obtain ⟨a, c, e⟩ := HoldT.form (h.1 x hx)
    have := crowded_any (bsT x.1.1) a x.1.2.length c (hs x hx).2.1 W
    rw [← e] at this; exact this)
  obtain ⟨a, c, b, o, rfl, -⟩ := h.parts
  have hways := crowd_idx L
  generalize idxF L crowdB = z at *
  clear hl hs h
  generalize L.length = n at *
  rcases hways with ⟨h1, h2⟩ | ⟨h1, h2⟩
  · refine ⟨true, fun _ => h2, (fun g => by cases g), ?_⟩
    clear h2
    go_enter Tryz.func43, Tryz.ntmps43
    go_wp2_with (go_at_call 77; refine I.mono ?_; rintro e w1 ⟨rfl, hb⟩; have HB := Lib.hid hb; clear hb)
    go_ret
    exact ⟨rfl, HB.out⟩
  · refine ⟨false, (fun g => by cases g), fun _ => h2, ?_⟩
    clear h2
    have h1 : ¬ 0 ≤ z := by omega
    go_enter Tryz.func43, Tryz.ntmps43
    go_wp2_with (go_at_call 77; refine I.mono ?_; rintro e w1 ⟨rfl, hb⟩; have HB := Lib.hid hb; clear hb)
    go_ret
    exact ⟨rfl, HB.out⟩
set_option maxRecDepth 100000 in
set_option maxHeartbeats 4000000 in
theorem rightF_any (X : ByteArray) (hX : X.size ≤ 4000) (u : Value) (ps : List Bs) (hl : ps.length ≤ 90000) (hs : SmallT ps) (w : World) (hL : LaidP w) (h : HoldT w u ps) :
    Calls Tryz.prog 47 #[.agg #[.string X, u]] w fun e w' => e = .returned (.bool (rightF (X.data.toList, ps))) ∧ Below w.heap.size w w' := by
  have B0 := (Below.refl w.heap.size w).alloc (Nat.le_refl _) (.cells #[.string X, u] 74)
  have HB0 := Lib.hid B0
  obtain ⟨x0, x1⟩ := boxV2 w (.string X) u 74
  have l0 := World.block_lt_of_cell? _ _ x0
  have HXX := Lib.hid (fun W (hb : Below (w.alloc (.cells #[.string X, u] 74)).heap.size (w.alloc (.cells #[.string X, u] 74)) W) => (hb.cell (p := ⟨w.heap.size, 1, none⟩) l0).trans x1)
  have TR := trig_any X hX _ (hL.on B0)
  have KC := fun W (hb : Below w.heap.size w W) => kchkN_any u ps hl hs W (h.on hb)
  unfold itF nmF at KC
  obtain ⟨R, HR⟩ : ∃ R, Hid (rightF (X.data.toList, ps) = R) := ⟨_, rfl⟩
  rw [HR.out]
  unfold rightF at HR
  dsimp only at HR
  clear B0 h hL hs l0 x1
  cases hn : trigB X.data.toList
  · have HF : Hid (false = R) := Lib.hid (by rw [← HR.out, hn, Bool.false_and])
    simp only [hn] at TR
    clear hn HR KC
    go_enter Tryz.func47, Tryz.ntmps47
    go_wp2_with (go_at_call 68; refine TR.mono ?_; rintro e w1 ⟨rfl, hb⟩; have HB1 := Lib.hid (HB0.out.trans (hb.mono HB0.out.size)); clear hb)
    go_ret
    exact ⟨retb HF.out, HB1.out⟩
  · have HF : Hid (decide (chkG nameB ps = 0) = R) := Lib.hid (by rw [← HR.out, hn, Bool.true_and])
    simp only [hn] at TR
    have hz := chkG_ways nameB ps
    clear hn HR
    generalize chkG nameB ps = z at *
    rcases hz with rfl | rfl | rfl
    all_goals
      go_enter Tryz.func47, Tryz.ntmps47
      go_wp2_with (first
        | (go_at_call 68; refine TR.mono ?_; rintro e w1 ⟨rfl, hb⟩; have HB1 := Lib.hid (HB0.out.trans (hb.mono HB0.out.size)); have y1 := HXX.out _ hb; have KC1 := KC _ HB1.out; clear hb)
        | (go_at_call 78; refine KC1.mono ?_; rintro e w2 ⟨rfl, rfl⟩))
      go_ret
      exact ⟨retb HF.out, HB1.out⟩
end Go.Proofs.YtceohgjfjndcmaaGreatDoor
