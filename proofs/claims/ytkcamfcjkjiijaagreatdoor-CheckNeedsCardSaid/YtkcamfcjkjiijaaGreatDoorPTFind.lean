/-
  slices.IndexFunc over lists with whatever predicate; the program's Find, the reference's: what each returns; nothing old turns.
-/
import Derived.Test.YtkcamfcjkjiijaaGreatDoorPGParseF
import Derived.Deep.RegionHeld3
import Derived.Test.YtkcamfcjkjiijaaGreatDoorPDPrint
namespace Go.Proofs.YtkcamfcjkjiijaaGreatDoor
open Go.RowKit
def FewI (l : List It) : Prop := l.length ≤ 70 ∧ ∀ x ∈ l, x.1.length ≤ 300 ∧ x.2.1.length ≤ 300
open Classical in
noncomputable def fewI (l : List It) : Bool := decide (FewI l)
open Classical in
theorem fewI_yes {l : List It} (h : FewI l) : fewI l = true := by unfold fewI; exact decide_eq_true h
open Classical in
theorem fewI_no {l : List It} (h : ¬ FewI l) : fewI l = false := by unfold fewI; exact decide_eq_false h
def FewPostI (l : List It) (w : World) (e : Ending) (w' : World) : Prop := e = .returned (.bool (fewI l)) ∧ w = w'
set_option maxRecDepth 100000 in
set_option maxHeartbeats 8000000 in
theorem fewI_any (v : Value) (l : List It) (w : World) (hb : l.length ≤ maxLen) (hsz : ∀ x ∈ l, x.1.length ≤ maxLen ∧ x.2.1.length ≤ maxLen) (h : HoldI w v l) : Calls Tryz.prog 35 #[v] w (FewPostI l w) := by
  obtain ⟨a, c, b, o, rfl, hc, ha, hcell⟩ := h.parts
  have HC := Lib.hid hcell
  have HSZ := Lib.hid hsz
  have HF : Hid (¬ FewI l → FewPostI l w (.returned (.bool false)) w) := Lib.hid (fun g => ⟨by rw [fewI_no g], rfl⟩)
  have HT : Hid (FewI l → FewPostI l w (.returned (.bool true)) w) := Lib.hid (fun g => ⟨by rw [fewI_yes g], rfl⟩)
  obtain ⟨n, hN⟩ : ∃ n, l.length = n := ⟨_, rfl⟩
  rw [hN] at hc ha hb ⊢
  have HN := Lib.hid hN
  unfold maxLen at hb
  clear hcell hN h hsz
  by_cases h70 : 70 < n
  · have HF2 := Lib.hid (HF.out (fun g => by have := g.1; rw [HN.out] at this; omega))
    go_enter Tryz.func35, Tryz.ntmps35
    go_wp2
    go_ret
    exact HF2.out
  go_enter Tryz.func35, Tryz.ntmps35
  go_wp2
  go_loop [3] (fun i => ∃ k : Nat, k ≤ n ∧ i = .int .i64 k ∧ Hid (∀ (j : Nat) y, j < k → l[j]? = some y → y.1.length ≤ 300 ∧ y.2.1.length ≤ 300)) (fun i => n - (intOf i).toNat)
  case atStart => exact ⟨0, by omega, rfl, Lib.hid (fun j y hj => by omega)⟩
  case round =>
    obtain ⟨k, hk, rfl, H⟩ := hrel
    by_cases hlt : k < n
    · obtain ⟨rfl, hbw⟩ := ha (by omega)
      obtain ⟨x, hx⟩ : ∃ x, l[k]? = some x := ⟨_, List.getElem?_eq_getElem (by rw [HN.out]; exact hlt)⟩
      obtain ⟨c0, c1, c2⟩ := HC.out k x hx
      have hz := HSZ.out x (List.mem_of_getElem? hx)
      unfold maxLen at hz
      obtain ⟨X, hX⟩ : ∃ X, bsT x.1 = X := ⟨_, rfl⟩
      obtain ⟨Y, hY⟩ : ∃ Y, bsT x.2.1 = Y := ⟨_, rfl⟩
      have sX : X.size = x.1.length := by rw [← hX, sizeOf, bytesOf]
      have sY : Y.size = x.2.1.length := by rw [← hY, sizeOf, bytesOf]
      rw [hX] at c0
      rw [hY] at c1
      have HK : Hid (X.size ≤ 300 → Y.size ≤ 300 → ∀ (j : Nat) y, j < k + 1 → l[j]? = some y → y.1.length ≤ 300 ∧ y.2.1.length ≤ 300) := Lib.hid (fun g1 g2 j y hj hy => by
        by_cases e : j = k
        · subst e; rw [hx] at hy; cases hy; omega
        · exact H.out j y (by omega) hy)
      have HNO : Hid (¬ (X.size ≤ 300 ∧ Y.size ≤ 300) → FewPostI l w (.returned (.bool false)) w) := Lib.hid (fun g => HF.out (fun q => g (by have := q.2 x (List.mem_of_getElem? hx); omega)))
      have zX : X.size ≤ 9223372036854775807 := by omega
      have zY : Y.size ≤ 9223372036854775807 := by omega
      clear hX hY sX sY hz hx H
      by_cases g1 : 300 < X.size
      · have HN2 := Lib.hid (HNO.out (by omega))
        clear HNO HK
        go_wp2
        go_ret
        exact HN2.out
      by_cases g2 : 300 < Y.size
      · have HN2 := Lib.hid (HNO.out (by omega))
        clear HNO HK
        go_wp2
        go_ret
        exact HN2.out
      have HK2 := Lib.hid (HK.out (by omega) (by omega))
      clear HK HNO
      go_wp2
      go_round
      case rel => exact ⟨k + 1, by omega, by go_num, HK2⟩
      case measure => simp [intOf]; omega
    · obtain rfl : k = n := by omega
      have HR := Lib.hid (HT.out ⟨by rw [HN.out]; omega, fun y hy => by
        obtain ⟨j, hj⟩ := List.mem_iff_getElem?.1 hy
        exact H.out j y (by have := (List.getElem?_eq_some_iff.1 hj).1; rw [HN.out] at this; exact this) hj⟩)
      clear hlt H HT
      go_wp2
      go_ret
      exact HR.out
def tp (ps : List Bs) : Nat := (ps.map fun s => 1 + min s.length 3000).sum
theorem sum_take_le : ∀ (l : List Nat) (t : Nat), (l.take t).sum ≤ l.sum
  | [], t => by simp
  | a :: l, 0 => by simp
  | a :: l, t + 1 => by have := sum_take_le l t; simp; omega
set_option maxRecDepth 100000 in
set_option maxHeartbeats 4000000 in
theorem same2_ref (u v : Value) (l : List Bs) (hl : l.length ≤ 90000) (w : World) (h1 : HoldT w u l) (h2 : HoldT w v l) : Calls Tryz.prog 16 #[u, v] w fun e w' => e = .returned (.bool true) ∧ ∃ q, w' = w.drewN q := by
  obtain ⟨a1, c1, b1, o1, rfl, hc1, ha1, hl1⟩ := h1
  obtain ⟨a2, c2, b2, o2, rfl, hc2, ha2, hl2⟩ := h2
  have H1 := Lib.hid hl1
  have H2 := Lib.hid hl2
  obtain ⟨n, hN⟩ : ∃ n, l.length = n := ⟨_, rfl⟩
  rw [hN] at hc1 ha1 hc2 ha2 hl ⊢
  have HN := Lib.hid hN
  clear hl1 hl2 hN
  go_enter Tryz.func16, Tryz.ntmps16
  go_wp2
  go_loopw [5] (fun i wr => ∃ k : Nat, k ≤ n ∧ i = .int .i64 k ∧ Hid (∃ q, wr = w.drewN q)) (fun i _ => n - (intOf i).toNat)
  case atStart => exact ⟨0, by omega, rfl, Lib.hid ⟨0, rfl⟩⟩
  case round =>
    obtain ⟨k, hk, rfl, HQ⟩ := hrel
    by_cases hlt : k < n
    · obtain ⟨rfl, hbw1⟩ := ha1 (by omega)
      obtain ⟨rfl, hbw2⟩ := ha2 (by omega)
      obtain ⟨x, hx⟩ : ∃ x, l[k]? = some x := ⟨_, List.getElem?_eq_getElem (by rw [HN.out]; exact hlt)⟩
      obtain ⟨q, hw⟩ := HQ.out
      have d0 := H1.out k x hx
      have f0 := H2.out k x hx
      rw [← World.cell?_drewN w q] at d0 f0
      rw [← hw] at d0 f0
      have HMM : Hid (∀ m', ∃ q, wr.drewN m' = w.drewN q) := Lib.hid (fun m' => ⟨q + m', by rw [hw, World.drewN_drewN]⟩)
      generalize (⟨x.toArray⟩ : ByteArray) = X at *
      have q0 := eqT X X
      rw [decide_eq_true rfl] at q0
      clear hx hw HQ
      go_wp2
      go_quiet (fail)
      go_wp2
      go_roundw
      case rel => exact ⟨k + 1, by omega, by go_num, Lib.hid (HMM.out _)⟩
      case measure => simp [intOf]; omega
    · obtain rfl : k = n := by omega
      clear hlt
      go_wp2
      go_ret
      exact ⟨rfl, HQ.out⟩
theorem same2_below (u v : Value) (l : List Bs) (hl : l.length ≤ 90000) (w : World) (h1 : HoldT w u l) (h2 : HoldT w v l) : Calls Tryz.prog 16 #[u, v] w fun e w' => e = .returned (.bool true) ∧ Below w.heap.size w w' := (same2_ref u v l hl w h1 h2).mono (fun e w' ⟨he, q, hq⟩ => ⟨he, by rw [hq]; exact belowQ (Below.refl _ _) q⟩)
end Go.Proofs.YtkcamfcjkjiijaaGreatDoor
namespace Go.Proofs.YtkcamfcjkjiijaaGreatDoor
open Go.RowKit
theorem two_on {wr V V' : World} {b1 o1 b2 o2 : Nat} {x1 y1 x2 y2 : Value} (h : V.cell? ⟨b1, o1, none⟩ = some x1 ∧ V.cell? ⟨b1, o1 + 1, none⟩ = some y1 ∧ V.cell? ⟨b2, o2, none⟩ = some x2 ∧ V.cell? ⟨b2, o2 + 1, none⟩ = some y2 ∧ Below wr.heap.size wr V) (hb : Below V.heap.size V V') :
    V'.cell? ⟨b1, o1, none⟩ = some x1 ∧ V'.cell? ⟨b1, o1 + 1, none⟩ = some y1 ∧ V'.cell? ⟨b2, o2, none⟩ = some x2 ∧ V'.cell? ⟨b2, o2 + 1, none⟩ = some y2 ∧ Below wr.heap.size wr V' := by
  obtain ⟨h1, h2, h3, h4, h5⟩ := h
  exact ⟨(hb.cell (World.block_lt_of_cell? V _ h1)).trans h1, (hb.cell (World.block_lt_of_cell? V _ h2)).trans h2, (hb.cell (World.block_lt_of_cell? V _ h3)).trans h3, (hb.cell (World.block_lt_of_cell? V _ h4)).trans h4, h5.trans (hb.mono h5.size)⟩
theorem two_dr {wr V : World} {b1 o1 b2 o2 : Nat} {x1 y1 x2 y2 : Value} (h : V.cell? ⟨b1, o1, none⟩ = some x1 ∧ V.cell? ⟨b1, o1 + 1, none⟩ = some y1 ∧ V.cell? ⟨b2, o2, none⟩ = some x2 ∧ V.cell? ⟨b2, o2 + 1, none⟩ = some y2 ∧ Below wr.heap.size wr V) :
    V.drew.cell? ⟨b1, o1, none⟩ = some x1 ∧ V.drew.cell? ⟨b1, o1 + 1, none⟩ = some y1 ∧ V.drew.cell? ⟨b2, o2, none⟩ = some x2 ∧ V.drew.cell? ⟨b2, o2 + 1, none⟩ = some y2 ∧ Below wr.heap.size wr V.drew := two_on h (Below.refl _ _).drew
theorem two_be {wr V : World} {b1 o1 b2 o2 : Nat} {x1 y1 x2 y2 : Value} (h : V.cell? ⟨b1, o1, none⟩ = some x1 ∧ V.cell? ⟨b1, o1 + 1, none⟩ = some y1 ∧ V.cell? ⟨b2, o2, none⟩ = some x2 ∧ V.cell? ⟨b2, o2 + 1, none⟩ = some y2 ∧ Below wr.heap.size wr V) : Below wr.heap.size wr V := h.2.2.2.2
set_option maxRecDepth 100000 in
set_option maxHeartbeats 8000000 in
theorem same13_ref (u v : Value) (L M : List Lp) (hLM : L.map (·.1) = M.map (·.1)) (hl : L.length ≤ 90000) (hp : ∀ p ∈ L, p.1.2.length ≤ 90000) (w : World) (h1 : HoldL w u L) (h2 : HoldL w v M) : Calls Tryz.prog 25 #[u, v] w fun e w' => e = .returned (.bool true) ∧ Below w.heap.size w w' := by
  have hlm : M.length = L.length := by have := congrArg List.length hLM; simpa using this.symm
  obtain ⟨i1, a1, c1, b1, o1, rfl, hc1, ha1, hl1⟩ := h1
  obtain ⟨i2, a2, c2, b2, o2, rfl, hc2, ha2, hl2⟩ := h2
  have H1 := Lib.hid hl1
  have H2 := Lib.hid hl2
  have HI1 := Lib.hid i1
  have HI2 := Lib.hid i2
  have HPL := Lib.hid hp
  have HLM : Hid (∀ (k : Nat) p r, L[k]? = some p → M[k]? = some r → r.1 = p.1) := Lib.hid (fun k p r hp hr => by
    have := congrArg (fun l => l[k]?) hLM
    simp only [List.getElem?_map, hp, hr, Option.map_some, Option.some.injEq] at this
    exact this.symm)
  obtain ⟨n, hN⟩ : ∃ n, L.length = n := ⟨_, rfl⟩
  rw [hlm] at hc2 ha2 ⊢
  rw [hN] at hc1 ha1 hc2 ha2 hl hlm ⊢
  have HN := Lib.hid hN
  have HM := Lib.hid hlm
  clear hl1 hl2 hN hlm hLM hp i1 i2
  go_enter Tryz.func25, Tryz.ntmps25
  go_wp2
  go_loopw [5] (fun i wr => ∃ k : Nat, k ≤ n ∧ i = .int .i64 k ∧ Hid (Below w.heap.size w wr)) (fun i _ => n - (intOf i).toNat)
  case atStart => exact ⟨0, by omega, rfl, Lib.hid (Below.refl _ _)⟩
  case round =>
    obtain ⟨k, hk, rfl, HB⟩ := hrel
    have hsz := HB.out.size
    by_cases hlt : k < n
    · obtain ⟨rfl, hbw1⟩ := ha1 (by omega)
      obtain ⟨rfl, hbw2⟩ := ha2 (by omega)
      obtain ⟨p, hp⟩ : ∃ x, L[k]? = some x := ⟨_, List.getElem?_eq_getElem (by rw [HN.out]; exact hlt)⟩
      obtain ⟨r, hr⟩ : ∃ x, M[k]? = some x := ⟨_, List.getElem?_eq_getElem (by rw [HM.out]; exact hlt)⟩
      have he := HLM.out k p r hp hr
      obtain ⟨d0, d1⟩ := H1.out k p hp
      obtain ⟨f0, f1⟩ := H2.out k r hr
      rw [← HB.out.cell (p := ⟨b1, o1 + k * 2, none⟩) hbw1] at d0
      rw [← HB.out.cell (p := ⟨b1, o1 + k * 2 + 1, none⟩) hbw1] at d1
      rw [← HB.out.cell (p := ⟨b2, o2 + k * 2, none⟩) hbw2] at f0
      rw [← HB.out.cell (p := ⟨b2, o2 + k * 2 + 1, none⟩) hbw2] at f1
      have SA := fun V (hb : Below wr.heap.size wr V) => same2_below p.2 r.2 p.1.2 (HPL.out p (List.mem_of_getElem? hp)) V ((HI1.out p (List.mem_of_getElem? hp)).on (HB.out.trans (hb.mono hsz))) (by have := (HI2.out r (List.mem_of_getElem? hr)).on (HB.out.trans (hb.mono hsz)); rwa [he] at this)
      rw [he] at f0
      generalize bsT p.1.1 = X at *
      generalize p.2 = y1 at *
      generalize r.2 = y2 at *
      have q0 := eqT X X
      rw [decide_eq_true rfl] at q0
      clear hp hr he HLM HPL H1 H2 HI1 HI2 hbw1 hbw2
      have hs := And.intro d0 (And.intro d1 (And.intro f0 (And.intro f1 (Below.refl wr.heap.size wr))))
      have hB := Below.refl wr.heap.size wr
      go_wp2
      go_region_held3 (fun V => V.cell? ⟨b1, o1 + k * 2, none⟩ = some (.string X) ∧ V.cell? ⟨b1, o1 + k * 2 + 1, none⟩ = some y1 ∧ V.cell? ⟨b2, o2 + k * 2, none⟩ = some (.string X) ∧ V.cell? ⟨b2, o2 + k * 2 + 1, none⟩ = some y2 ∧ Below wr.heap.size wr V)
        (first | assumption | exact hs | exact two_dr hs | exact two_on (by assumption) (by assumption))
        ((go_at_call 16; (with_reducible refine (SA _ (two_be (b1 := b1) (o1 := o1 + k * 2) (b2 := b2) (o2 := o2 + k * 2) (x1 := .string X) (y1 := y1) (x2 := .string X) (y2 := y2) (by assumption))).mono ?_); rintro e w3 ⟨rfl, hb⟩))
      all_goals
        rename_i hHeld
        have HB3 := Lib.hid (HB.out.trans ((two_be hHeld).mono hsz))
        clear hHeld
        go_wp2
        go_roundw
        case rel => exact ⟨k + 1, by omega, by go_num, HB3⟩
        case measure => simp [intOf]; omega
    · obtain rfl : k = n := by omega
      clear hlt
      go_wp2
      go_ret
      exact ⟨rfl, HB.out⟩
end Go.Proofs.YtkcamfcjkjiijaaGreatDoor
namespace Go.Proofs.YtkcamfcjkjiijaaGreatDoor
open Go.RowKit
theorem HoldT.formxT {w : World} {v : Value} {l : List Bs} (h : HoldT w v l) : ∃ a n c, v = .slice a n c := by
  obtain ⟨a, c, b, o, rfl, _⟩ := h
  exact ⟨_, _, _, rfl⟩
end Go.Proofs.YtkcamfcjkjiijaaGreatDoor
namespace Go.Proofs.YtkcamfcjkjiijaaGreatDoor
open Go.RowKit
def idxGxT (l : List Lp) (p : Lp → Bool) : Int := match l.findIdx? p with
  | some k => (k : Int)
  | none => -1
theorem idxG_hitxT {l : List Lp} {p : Lp → Bool} {k : Nat} {x : Lp} (hx : l[k]? = some x) (hp : p x = true) (hb : ∀ (j : Nat) y, j < k → l[j]? = some y → p y = false) : idxGxT l p = k := by
  unfold idxGxT
  have : l.findIdx? p = some k := by
    rw [List.findIdx?_eq_some_iff_getElem]
    obtain ⟨hk, e⟩ := List.getElem?_eq_some_iff.1 hx
    exact ⟨hk, by rw [e]; exact hp, fun j hj => by rw [hb j _ hj (List.getElem?_eq_getElem (by omega))]; simp⟩
  rw [this]
theorem idxG_missxT {l : List Lp} {p : Lp → Bool} (hb : ∀ (j : Nat) y, l[j]? = some y → p y = false) : idxGxT l p = -1 := by
  unfold idxGxT
  have : l.findIdx? p = none := by
    rw [List.findIdx?_eq_none_iff]
    intro y hy
    obtain ⟨j, hj⟩ := List.mem_iff_getElem?.1 hy
    exact hb j y hj
  rw [this]
def nameIs (k : Bs) (x : Lp) : Bool := decide (x.1.1 = k)
def PredL (g : Nat) (lb : Array Value) (l : List Lp) (p : Lp → Bool) (w : World) : Prop :=
  ∀ W x, Below w.heap.size w W → x ∈ l → Calls Tryz.prog g (#[aggT x] ++ lb) W fun e w' => e = .returned (.bool (p x)) ∧ Below W.heap.size W w'
set_option maxRecDepth 100000 in
set_option maxHeartbeats 4000000 in
theorem idx_ls (g : Nat) (lb : Array Value) (eg : ∀ args w, (callFunc g args).run Tryz.prog w = .ok (.enter g args) w) (p : Lp → Bool) (v : Value) (l : List Lp) (hl : l.length ≤ 90000) (w : World) (h : HoldL w v l) (hp : PredL g lb l p w) :
    Calls Tryz.prog 77 #[v, .func (.func g) #[] lb] w fun e w' => e = .returned (.int .i64 (idxGxT l p)) ∧ Below w.heap.size w w' := by
  obtain ⟨hin, a, c, b, o, rfl, hc, ha, hcell⟩ := h
  have HC := Lib.hid hcell
  have HI := Lib.hid hin
  obtain ⟨Z, HZ⟩ : ∃ Z, Hid (idxGxT l p = Z) := ⟨_, rfl⟩
  rw [HZ.out]
  have HP := Lib.hid hp
  obtain ⟨n, hN⟩ : ∃ n, l.length = n := ⟨_, rfl⟩
  rw [hN] at hc ha hl ⊢
  have HN := Lib.hid hN
  clear hcell hp hN hin
  go_enter Tryz.func77, Tryz.ntmps77
  go_wp2
  go_loopw [8] (fun i wr => ∃ k : Nat, k ≤ n ∧ i = .int .i64 k ∧ Hid (∀ (j : Nat) y, j < k → l[j]? = some y → p y = false) ∧ Hid (Below w.heap.size w wr)) (fun i _ => n - (intOf i).toNat)
  case atStart => exact ⟨0, by omega, rfl, Lib.hid (fun j y hj => by omega), Lib.hid (Below.refl _ _)⟩
  case round =>
    obtain ⟨k, hk, rfl, H, HB⟩ := hrel
    by_cases hlt : k < n
    · obtain ⟨rfl, hbw⟩ := ha (by omega)
      obtain ⟨x, hx⟩ : ∃ x, l[k]? = some x := ⟨_, List.getElem?_eq_getElem (by rw [HN.out]; exact hlt)⟩
      obtain ⟨c0, c1⟩ := HC.out k x hx
      rw [← HB.out.cell (p := ⟨b, o + k * 2, none⟩) hbw] at c0
      rw [← HB.out.cell (p := ⟨b, o + k * 2 + 1, none⟩) hbw] at c1
      have hcall := HP.out wr x HB.out (List.mem_of_getElem? hx)
      obtain ⟨ua, un, uc, hu⟩ := HoldT.formxT (HI.out x (List.mem_of_getElem? hx))
      unfold aggT at hcall
      rw [hu] at hcall c1
      have HX := Lib.hid hx
      clear hx hu
      cases hq : p x
      · rw [hq] at hcall
        have HK : Hid (∀ (j : Nat) y, j < k + 1 → l[j]? = some y → p y = false) := Lib.hid (fun j y hj hy => by
          by_cases e : j = k
          · subst e
            rw [HX.out] at hy; cases hy
            exact hq
          · exact H.out j y (by omega) hy)
        clear hq H
        go_wp2_with (go_at_fn g; refine hcall.mono ?_; rintro e w1 ⟨rfl, hb1⟩; have HB1 := Lib.hid (HB.out.trans (hb1.mono HB.out.size)); clear hb1)
        go_roundw
        case rel => exact ⟨k + 1, by omega, by go_num, HK, HB1⟩
        case measure => simp [intOf]; omega
      · rw [hq] at hcall
        have HF : Hid ((k : Int) = Z) := Lib.hid (by rw [← HZ.out, idxG_hitxT HX.out hq H.out])
        clear hq H
        go_wp2_with (go_at_fn g; refine hcall.mono ?_; rintro e w1 ⟨rfl, hb1⟩; have HB1 := Lib.hid (HB.out.trans (hb1.mono HB.out.size)); clear hb1)
        go_ret
        exact ⟨reti HF.out, HB1.out⟩
    · obtain rfl : k = n := by omega
      have HF : Hid ((-1 : Int) = Z) := Lib.hid (by rw [← HZ.out, idxG_missxT (fun j y hy => H.out j y (by have := (List.getElem?_eq_some_iff.1 hy).1; rw [HN.out] at this; exact this) hy)])
      clear hlt H
      go_wp2
      go_ret
      exact ⟨reti HF.out, HB.out⟩
abbrev FindT (w : World) (B1 B2 b0 : Nat) (k : ByteArray) (x y : Value) (W : World) : Prop :=
  W.cell? ⟨b0, 0, none⟩ = some x ∧ W.cell? ⟨b0, 1, none⟩ = some y ∧ W.cell? ⟨B1, 0, none⟩ = some (.func (.func 60) #[] #[]) ∧ W.cell? ⟨B2, 0, none⟩ = some (.string k) ∧ Below w.heap.size w W
theorem FindT.on {w : World} {B1 B2 b0 : Nat} {k : ByteArray} {x y : Value} {W W1 : World} (h : FindT w B1 B2 b0 k x y W) (hb : Below W.heap.size W W1) : FindT w B1 B2 b0 k x y W1 := by
  obtain ⟨x0, x1, h2, h3, h4⟩ := h
  exact ⟨(hb.cell (World.block_lt_of_cell? W _ x0)).trans x0, (hb.cell (World.block_lt_of_cell? W _ x1)).trans x1, (hb.cell (World.block_lt_of_cell? W _ h2)).trans h2, (hb.cell (World.block_lt_of_cell? W _ h3)).trans h3, h4.trans (hb.mono h4.size)⟩
theorem FindT.dr {w : World} {B1 B2 b0 : Nat} {k : ByteArray} {x y : Value} {W : World} (h : FindT w B1 B2 b0 k x y W) : FindT w B1 B2 b0 k x y W.drew := h.on (Below.refl _ _).drew
set_option maxRecDepth 100000 in
set_option maxHeartbeats 4000000 in
theorem findpL_any (B1 B2 : Nat) (k : ByteArray) (x : Lp) (ua : Option Addr) (un uc : Nat) (hu : x.2 = .slice ua un uc) (W : World) (h1 : W.cell? ⟨B1, 0, none⟩ = some (.func (.func 60) #[] #[])) (h2 : W.cell? ⟨B2, 0, none⟩ = some (.string k)) :
    Calls Tryz.prog 100 #[aggT x, .pointer (some ⟨B1, 0, none⟩), .pointer (some ⟨B2, 0, none⟩)] W fun e w' => e = .returned (.bool (nameIs k.data.toList x)) ∧ Below W.heap.size W w' := by
  have hq := eqT (bsT x.1.1) k
  rw [bytesOf] at hq
  unfold nameIs aggT
  rw [hu]
  have PA := fun w => nameOf_any (bsT x.1.1) (.slice ua un uc) w
  generalize decide (x.1.1 = k.data.toList) = q at *
  generalize bsT x.1.1 = X at *
  clear hu
  have l1 := World.block_lt_of_cell? W _ h1
  have l2 := World.block_lt_of_cell? W _ h2
  have B0 := (Below.refl W.heap.size W).alloc (Nat.le_refl _) (.cells #[.string X, .slice ua un uc] 63)
  obtain ⟨x0, x1⟩ := box2 W (.string X) (.slice ua un uc) 63
  have HS := Lib.hid (show FindT W B1 B2 W.heap.size k (.string X) (.slice ua un uc) _ from ⟨x0, x1, (B0.cell l1).trans h1, (B0.cell l2).trans h2, B0⟩)
  clear x0 x1
  go_enter Tryz.func100, Tryz.ntmps100
  go_wp2
  generalize W.alloc (.cells #[.string X, .slice ua un uc] 63) = W2 at *
  generalize hb0 : W.heap.size = b0 at *
  have hs := HS.out
  obtain ⟨x0, x1, k1, k2, hB⟩ := HS.out
  clear hb0 B0 h1 h2
  go_region_held3 (fun V => V.cell? ⟨b0, 0, none⟩ = some (.string X) ∧ V.cell? ⟨b0, 1, none⟩ = some (.slice ua un uc) ∧ V.cell? ⟨B1, 0, none⟩ = some (.func (.func 60) #[] #[]) ∧ V.cell? ⟨B2, 0, none⟩ = some (.string k) ∧ Below W.heap.size W V)
    (first | assumption | exact hs | exact FindT.dr hs | exact FindT.on (by assumption) (by assumption))
    ((go_at_call 60; refine (PA _).mono ?_; rintro e w3 ⟨rfl, hb⟩))
  all_goals
    rename_i hHeld
    have HW3 := Lib.hid hHeld.2.2.2.2
    clear hHeld
    go_wp2
    go_ret
    exact ⟨rfl, HW3.out⟩
set_option maxRecDepth 100000 in
set_option maxHeartbeats 4000000 in
theorem kfindL_any (v : Value) (l : List Lp) (hl : l.length ≤ 90000) (k : ByteArray) (w : World) (h : HoldL w v l) :
    Calls Tryz.prog 82 #[v, nmFxT, .string k] w fun e w' => e = .returned (.int .i64 (idxGxT l (nameIs k.data.toList))) ∧ Below w.heap.size w w' := by
  have B2 := ((Below.refl w.heap.size w).alloc (Nat.le_refl _) (.cells #[nmFxT] 94)).alloc (by simp) (.cells #[.string k] 9)
  have q1 := (Boxed.new w 94 nmFxT).alloc (.cells #[.string k] 9)
  have q2 := Boxed.new (w.alloc (.cells #[nmFxT] 94)) 9 (.string k)
  rw [World.size_alloc] at q2
  have I := idx_ls 100 #[.pointer (some ⟨w.heap.size, 0, none⟩), .pointer (some ⟨w.heap.size + 1, 0, none⟩)] (enters_of Tryz.func100 (by kernel_rfl) rfl) (nameIs k.data.toList) v l hl _ (h.on B2)
    (fun W x hb hx => by
      obtain ⟨ua, un, uc, hu⟩ := HoldT.formxT (h.1 x hx)
      exact findpL_any _ _ k x ua un uc hu W ((hb.cell q1.lt).trans q1.cell) ((hb.cell q2.lt).trans q2.cell))
  have HB2 := Lib.hid B2
  clear B2 q1 q2
  unfold nmFxT at I ⊢
  generalize idxGxT l (nameIs k.data.toList) = z at *
  go_enter Tryz.func82, Tryz.ntmps82
  go_wp2_with (go_at_call 77; refine I.mono ?_; rintro e w1 ⟨rfl, hb⟩; have HB := Lib.hid (HB2.out.trans (hb.mono HB2.out.size)); clear hb)
  go_ret
  exact ⟨rfl, HB.out⟩
theorem find13_any (v : Value) (l : List Lp) (hl : l.length ≤ 90000) (k : ByteArray) (w : World) (h : HoldL w v l) :
    Calls Tryz.prog 57 #[v, .string k] w fun e w' => e = .returned (.int .i64 (idxGxT l (nameIs k.data.toList))) ∧ Below w.heap.size w w' := by
  have I := kfindL_any v l hl k w h
  unfold nmFxT at I
  generalize idxGxT l (nameIs k.data.toList) = z at *
  go_enter Tryz.func57, Tryz.ntmps57
  go_wp2_with (go_at_call 82; refine I.mono ?_; rintro e w1 ⟨rfl, hb⟩; have HB := Lib.hid hb; clear hb)
  go_ret
  exact ⟨rfl, HB.out⟩
set_option maxRecDepth 100000 in
set_option maxHeartbeats 4000000 in
theorem find13_ref (v : Value) (l : List Lp) (hl : l.length ≤ 90000) (p : ByteArray) (w : World) (h : HoldL w v l) : Calls Tryz.prog 58 #[v, .string p] w fun e w' => e = .returned (.int .i64 (idxGxT l (nameIs p.data.toList))) ∧ w = w' := by
  obtain ⟨-, a, c, b, o, rfl, hc, ha, hcell⟩ := h
  have HC := Lib.hid hcell
  obtain ⟨Z, HZ⟩ : ∃ Z, Hid (idxGxT l (nameIs p.data.toList) = Z) := ⟨_, rfl⟩
  rw [HZ.out]
  obtain ⟨n, hN⟩ : ∃ n, l.length = n := ⟨_, rfl⟩
  rw [hN] at hc ha hl ⊢
  have HN := Lib.hid hN
  clear hcell hN
  go_enter Tryz.func58, Tryz.ntmps58
  go_wp2
  go_loop [5] (fun i => ∃ k : Nat, k ≤ n ∧ i = .int .i64 k ∧ Hid (∀ (j : Nat) y, j < k → l[j]? = some y → nameIs p.data.toList y = false)) (fun i => n - (intOf i).toNat)
  case atStart => exact ⟨0, by omega, rfl, Lib.hid (fun j y hj => by omega)⟩
  case round =>
    obtain ⟨k, hk, rfl, H⟩ := hrel
    by_cases hlt : k < n
    · obtain ⟨rfl, hbw⟩ := ha (by omega)
      obtain ⟨x, hx⟩ : ∃ x, l[k]? = some x := ⟨_, List.getElem?_eq_getElem (by rw [HN.out]; exact hlt)⟩
      obtain ⟨c0, -⟩ := HC.out k x hx
      have hq := eqT (bsT x.1.1) p
      rw [bytesOf] at hq
      by_cases he : x.1.1 = p.data.toList
      · rw [decide_eq_true he] at hq
        have HF : Hid ((k : Int) = Z) := Lib.hid (by rw [← HZ.out, idxG_hitxT hx (by unfold nameIs; exact decide_eq_true he) H.out])
        clear he hx H HC
        generalize bsT x.1.1 = X at *
        go_wp2
        go_ret
        exact ⟨reti HF.out, rfl⟩
      · rw [decide_eq_false he] at hq
        have HK : Hid (∀ (j : Nat) y, j < k + 1 → l[j]? = some y → nameIs p.data.toList y = false) := Lib.hid (fun j y hj hy => by
          by_cases e : j = k
          · subst e; rw [hx] at hy; cases hy; unfold nameIs; exact decide_eq_false he
          · exact H.out j y (by omega) hy)
        clear he hx H HC
        generalize bsT x.1.1 = X at *
        go_wp2
        go_round
        case rel => exact ⟨k + 1, by omega, by go_num, HK⟩
        case measure => simp [intOf]; omega
    · obtain rfl : k = n := by omega
      have HF : Hid ((-1 : Int) = Z) := Lib.hid (by rw [← HZ.out, idxG_missxT (fun j y hy => H.out j y (by have := (List.getElem?_eq_some_iff.1 hy).1; rw [HN.out] at this; exact this) hy)])
      clear hlt H HC
      go_wp2
      go_ret
      exact ⟨reti HF.out, rfl⟩
end Go.Proofs.YtkcamfcjkjiijaaGreatDoor
