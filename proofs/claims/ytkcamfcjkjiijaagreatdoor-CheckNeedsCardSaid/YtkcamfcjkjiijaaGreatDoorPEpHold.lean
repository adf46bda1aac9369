/-
  A package, and a state, in memory: what they hold; how that is carried.
-/
import Derived.Test.YtkcamfcjkjiijaaGreatDoorPZFew
import Derived.Test.YtkcamfcjkjiijaaGreatDoorPOdMath
import Derived.Test.YtkcamfcjkjiijaaGreatDoorPDPrint
import Derived.Test.YtkcamfcjkjiijaaGreatDoorPDTrue
namespace Go.Proofs.YtkcamfcjkjiijaaGreatDoor
open Go.RowKit
/-- A command, and the slice values of its slaves and paths. -/
structure Kv where
  kd : Int
  nm : Bs
  pt : Bs
  ds : Bs
  mm : Int
  uu : Int
  gg : Int
  pr : Int
  fl : Bool
  fo : Bool
  sl : List Sv
  ps : List Bs
  sv : Value
  pv : Value
abbrev cellsK (x : Kv) : Array Value := #[.int .i64 x.kd, .string (⟨x.nm.toArray⟩ : ByteArray), .string (⟨x.pt.toArray⟩ : ByteArray), .string (⟨x.ds.toArray⟩ : ByteArray), .int .i64 x.mm, .int .i64 x.uu, .int .i64 x.gg, .int .i64 x.pr, .bool x.fl, .bool x.fo, x.sv, x.pv]
abbrev InK (w : World) (x : Kv) : Prop := HoldS w x.sv x.sl ∧ HoldT w x.pv x.ps
theorem InK.on {w w' : World} {x : Kv} (h : InK w x) (hb : Below w.heap.size w w') : InK w' x := ⟨HoldV.on h.1 hb, h.2.on hb⟩
structure SmK (x : Kv) : Prop where
  nm : x.nm.length ≤ 4000
  pt : x.pt.length ≤ 4000
  ds : x.ds.length ≤ 4000
  sl : x.sl.length ≤ 500
  ps : x.ps.length ≤ 500
  ss : ∀ s ∈ x.sl, s.1.length ≤ 4000 ∧ s.2.length ≤ 4000
  qs : ∀ q ∈ x.ps, q.length ≤ 4000
theorem boxK (W : World) (cs : Array Value) (t : TypeId) (i : Nat) (v : Value) (h : cs[i]? = some v) : (W.alloc (.cells cs t)).cell? ⟨W.heap.size, i, none⟩ = some v := by
  rw [World.cell?_alloc_new]; exact h
def CelK (x : Kv) (b : Nat) (W : World) : Prop := W.cell? ⟨b, 0, none⟩ = some (.int .i64 x.kd) ∧ W.cell? ⟨b, 1, none⟩ = some (.string (⟨x.nm.toArray⟩ : ByteArray)) ∧ W.cell? ⟨b, 2, none⟩ = some (.string (⟨x.pt.toArray⟩ : ByteArray)) ∧ W.cell? ⟨b, 3, none⟩ = some (.string (⟨x.ds.toArray⟩ : ByteArray)) ∧ W.cell? ⟨b, 4, none⟩ = some (.int .i64 x.mm) ∧ W.cell? ⟨b, 5, none⟩ = some (.int .i64 x.uu) ∧ W.cell? ⟨b, 6, none⟩ = some (.int .i64 x.gg) ∧ W.cell? ⟨b, 7, none⟩ = some (.int .i64 x.pr) ∧ W.cell? ⟨b, 8, none⟩ = some (.bool x.fl) ∧ W.cell? ⟨b, 9, none⟩ = some (.bool x.fo) ∧ W.cell? ⟨b, 10, none⟩ = some x.sv ∧ W.cell? ⟨b, 11, none⟩ = some x.pv
theorem celK (x : Kv) (w W : World) (hW : Below (w.alloc (.cells (cellsK x) 109)).heap.size (w.alloc (.cells (cellsK x) 109)) W) : CelK x w.heap.size W := by
  have k := fun i v h => (hW.cell (World.block_lt_of_cell? _ _ (boxK w (cellsK x) 109 i v h))).trans (boxK w (cellsK x) 109 i v h)
  exact ⟨k 0 _ rfl, k 1 _ rfl, k 2 _ rfl, k 3 _ rfl, k 4 _ rfl, k 5 _ rfl, k 6 _ rfl, k 7 _ rfl, k 8 _ rfl, k 9 _ rfl, k 10 _ rfl, k 11 _ rfl⟩
structure FitK (x : Kv) : Prop where
  nm : x.nm.length ≤ maxLen
  pt : x.pt.length ≤ maxLen
  ds : x.ds.length ≤ maxLen
  sl : x.sl.length ≤ maxLen
  ps : x.ps.length ≤ maxLen
  ss : ∀ s ∈ x.sl, FitS s
  qs : ∀ q ∈ x.ps, q.length ≤ maxLen
theorem holdOne (k : Nat) (W : World) (r : Rw) (t : TypeId) : HoldV k (W.alloc (.cells r.toArray t)) (.slice (some ⟨W.heap.size, 0, none⟩) 1 1) [r] := by
  refine ⟨some ⟨W.heap.size, 0, none⟩, 1, W.heap.size, 0, rfl, Nat.le_refl _, fun _ => ⟨rfl, by simp⟩, fun j q hj i y hi hy => ?_⟩
  match j, hj with
  | 0, hj =>
    simp at hj; subst hj
    rw [World.cell?_alloc_new]
    show r.toArray[0 + 0 * k + i]? = some y
    simpa using hy
abbrev chK (x : Kv) (v : Value) : Av := ⟨x.nm, x.ds, false, x.pt, x.sl, [(([], 0, x.ps), x.pv)], x.sv, v⟩
abbrev w3K (x : Kv) (W : World) : World := W.alloc (.cells (cellsK x) 109)
abbrev w4K (x : Kv) (W : World) : World := (w3K x W).alloc (.cells #[.string ⟨#[]⟩, .int .i64 0, x.pv] 112)
abbrev w5K (x : Kv) (W : World) : World := (w4K x W).alloc (.cells #[.string (⟨x.nm.toArray⟩ : ByteArray), .string (⟨x.ds.toArray⟩ : ByteArray), .bool false, .string (⟨x.pt.toArray⟩ : ByteArray), x.sv, .slice (some ⟨(w3K x W).heap.size, 0, none⟩) 1 1] 115)
theorem w5K_below (x : Kv) (W : World) : Below W.heap.size W (w5K x W) := (((Below.refl W.heap.size W).alloc (Nat.le_refl _) _).alloc (by simp) _).alloc (by simp; omega) _
theorem one_few (x : Kv) (hf : FitK x) (W : World) (hh : InK W x) : Calls Tryz.prog 68 #[.slice (some ⟨(w4K x W).heap.size, 0, none⟩) 1 1] (w5K x W) fun e w' => ∃ fb : Bool, e = .returned (.bool fb) ∧ (fb = true → SmK x) ∧ Below (w5K x W).heap.size (w5K x W) w' := by
  have hin := hh.on (w5K_below x W)
  have hC : HoldC (w5K x W) (.slice (some ⟨(w3K x W).heap.size, 0, none⟩) 1 1) [(([], 0, x.ps), x.pv)] := by
    refine ⟨?_, fun y hy => by rw [List.mem_singleton] at hy; subst hy; exact hin.2⟩
    have h0 := holdOne 3 (w3K x W) [.string ⟨#[]⟩, .int .i64 0, x.pv] 112
    exact HoldV.on h0 ((Below.refl _ _).alloc (Nat.le_refl _) _)
  have hA : HoldA (w5K x W) (.slice (some ⟨(w4K x W).heap.size, 0, none⟩) 1 1) [chK x (.slice (some ⟨(w3K x W).heap.size, 0, none⟩) 1 1)] := by
    refine ⟨?_, fun y hy => by rw [List.mem_singleton] at hy; subst hy; exact ⟨hin.1, hC⟩⟩
    exact holdOne 6 (w4K x W) [.string (⟨x.nm.toArray⟩ : ByteArray), .string (⟨x.ds.toArray⟩ : ByteArray), .bool false, .string (⟨x.pt.toArray⟩ : ByteArray), x.sv, .slice (some ⟨(w3K x W).heap.size, 0, none⟩) 1 1] 115
  have F := fewA_any _ _ (by unfold maxLen; simp) (fun y hy => by
    rw [List.mem_singleton] at hy; subst hy
    exact ⟨hf.nm, hf.ds, hf.pt, hf.sl, by unfold maxLen; simp, hf.ss, fun c hc => by
      rw [List.mem_singleton] at hc; subst hc
      exact ⟨by unfold maxLen; simp, hf.ps, hf.qs⟩⟩) _ hA
  refine F.mono fun e w' ⟨fb, h1, h2, h3⟩ => ⟨fb, h1, fun g => ?_, h3⟩
  have o := (h2 g).2 _ (List.mem_singleton_self _)
  have oc := o.cs _ (List.mem_singleton_self _)
  have := o.nm; have := o.lk; have := o.cr; have := o.sl; have := oc.2.1
  dsimp only at *
  exact ⟨by omega, by omega, by omega, by omega, by omega, fun s hs => by have := o.ss s hs; unfold FewS at this; omega, fun q hq => by have := oc.2.2 q hq; omega⟩
end Go.Proofs.YtkcamfcjkjiijaaGreatDoor
namespace Go.Proofs.YtkcamfcjkjiijaaGreatDoor
open Go.RowKit
abbrev HoldAc (w : World) (v : Value) (l : List Kv) : Prop := HoldV 12 w v (l.map fun x => (cellsK x).toList) ∧ ∀ x ∈ l, InK w x
theorem HoldAc.on {w w' : World} {v : Value} {l : List Kv} (h : HoldAc w v l) (hb : Below w.heap.size w w') : HoldAc w' v l := ⟨HoldV.on h.1 hb, fun x hx => (h.2 x hx).on hb⟩
def CelKo (x : Kv) (b o : Nat) (W : World) : Prop := ∀ (i : Nat) u, (cellsK x)[i]? = some u → W.cell? ⟨b, o + i, none⟩ = some u
theorem HoldAc.parts {w : World} {v : Value} {l : List Kv} (h : HoldAc w v l) : ∃ (a : Option Addr) (c b o : Nat), v = .slice a l.length c ∧ l.length ≤ c ∧ (0 < l.length → a = some ⟨b, o, none⟩ ∧ b < w.heap.size) ∧ ∀ (j : Nat) x, l[j]? = some x → CelKo x b (o + j * 12) w := by
  obtain ⟨⟨a, c, b, o, e, hc, ha, hcell⟩, -⟩ := h
  rw [List.length_map] at e hc ha
  refine ⟨a, c, b, o, e, hc, ha, fun j x hx i u hu => ?_⟩
  refine hcell j ((cellsK x).toList) (by rw [List.getElem?_map, hx]; rfl) i u ?_ (by rw [Array.getElem?_toList]; exact hu)
  have := (Array.getElem?_eq_some_iff.1 hu).1
  simpa using this
set_option maxRecDepth 100000 in
set_option maxHeartbeats 8000000 in
theorem fewActsL_any (v : Value) (l : List Kv) (m : Nat) (hm : m ≤ 100) (hl : l.length ≤ maxLen) (hf : ∀ x ∈ l, FitK x) (w : World) (h : HoldAc w v l) : Calls Tryz.prog 36 #[v, .int .i64 m] w fun e w' => (∃ fb : Bool, e = .returned (.bool fb) ∧ (fb = true → l.length ≤ m ∧ ∀ x ∈ l, SmK x)) ∧ Below w.heap.size w w' := by
  have FA := Lib.hid (fun x (hx : x ∈ l) wr (hw : Below w.heap.size w wr) => one_few x (hf x hx) wr ((h.2 x hx).on hw))
  have HIN := Lib.hid h.2
  obtain ⟨a, c, b, o, rfl, hcc, ha, hcell⟩ := h.parts
  have HC := Lib.hid hcell
  have HX := Lib.hid (fun x wr => celK x wr (w3K x wr) (Below.refl _ _))
  have HB5 := Lib.hid (fun x wr => w5K_below x wr)
  have HNO : Hid (∀ w', Below w.heap.size w w' → (∃ fb : Bool, Ending.returned (.bool false) = .returned (.bool fb) ∧ (fb = true → l.length ≤ m ∧ ∀ x ∈ l, SmK x)) ∧ Below w.heap.size w w') := Lib.hid (fun w' hb => ⟨⟨false, rfl, fun e => by cases e⟩, hb⟩)
  have HYES : Hid (l.length ≤ m → (∀ x ∈ l, SmK x) → ∀ w', Below w.heap.size w w' → (∃ fb : Bool, Ending.returned (.bool true) = .returned (.bool fb) ∧ (fb = true → l.length ≤ m ∧ ∀ x ∈ l, SmK x)) ∧ Below w.heap.size w w') := Lib.hid (fun g1 g2 w' hb => ⟨⟨true, rfl, fun _ => ⟨g1, g2⟩⟩, hb⟩)
  obtain ⟨POST, hPO⟩ : ∃ P : Ending → World → Prop, (fun e w' => (∃ fb : Bool, e = .returned (.bool fb) ∧ (fb = true → l.length ≤ m ∧ ∀ x ∈ l, SmK x)) ∧ Below w.heap.size w w') = P := ⟨_, rfl⟩
  have HNO2 : Hid (∀ w', Below w.heap.size w w' → POST (.returned (.bool false)) w') := Lib.hid (fun w' hb => by rw [← hPO]; exact HNO.out w' hb)
  have HYES2 : Hid (l.length ≤ m → (∀ x ∈ l, SmK x) → ∀ w', Below w.heap.size w w' → POST (.returned (.bool true)) w') := Lib.hid (fun g1 g2 w' hb => by rw [← hPO]; exact HYES.out g1 g2 w' hb)
  rw [hPO]
  obtain ⟨n, hN⟩ : ∃ n, l.length = n := ⟨_, rfl⟩
  rw [hN] at hcc ha hl HYES2 ⊢
  have HN := Lib.hid hN
  clear hcell hN h hf HNO HYES hPO
  by_cases hlong : m < n
  · go_enter Tryz.func36, Tryz.ntmps36
    go_wp2
    first | (go_ret; exact HNO2.out _ (Below.refl _ _)) | exact HNO2.out _ (Below.refl _ _)
  have hnm : n ≤ m := by omega
  go_enter Tryz.func36, Tryz.ntmps36
  go_wp2
  go_loopw [5] (fun i wr => ∃ k : Nat, k ≤ n ∧ i = .int .i64 k ∧ Hid (∀ (j : Nat) x, j < k → l[j]? = some x → SmK x) ∧ Hid (Below w.heap.size w wr)) (fun i _ => n - (intOf i).toNat)
  case atStart => exact ⟨0, by omega, rfl, Lib.hid (fun j x h => by omega), Lib.hid (Below.refl _ _)⟩
  case round =>
    obtain ⟨k, hk, rfl, HK, HB⟩ := hrel
    by_cases hlt : k < n
    · obtain ⟨rfl, hbw⟩ := ha (by omega)
      obtain ⟨x, hx⟩ : ∃ x, l[k]? = some x := ⟨_, List.getElem?_eq_getElem (by rw [HN.out]; exact hlt)⟩
      have hmx := List.mem_of_getElem? hx
      have hcel := HC.out k x hx
      have c0 := fun i u hu => (HB.out.cell (p := ⟨b, o + k * 12 + i, none⟩) hbw).trans (hcel i u hu)
      have x0 := HX.out x wr
      have F1 := FA.out x hmx wr HB.out
      have HB2 := Lib.hid (HB.out.trans ((HB5.out x wr).mono HB.out.size))
      have hin := HIN.out x hmx
      have HK2 : Hid (SmK x → ∀ (j : Nat) y, j < k + 1 → l[j]? = some y → SmK y) := Lib.hid (fun g j y hj hy => by
        by_cases e : j = k
        · subst e; rw [hx] at hy; cases hy; exact g
        · exact HK.out j y (by omega) hy)
      obtain ⟨SM, hSM⟩ : ∃ SM : Prop, SmK x = SM := ⟨_, rfl⟩
      rw [hSM] at HK2
      simp only [hSM] at F1
      clear hSM hx hmx hcel HK FA HX HB5 HIN HC
      have c00 := c0 0 _ rfl; have c01 := c0 1 _ rfl; have c02 := c0 2 _ rfl; have c03 := c0 3 _ rfl; have c04 := c0 4 _ rfl; have c05 := c0 5 _ rfl; have c06 := c0 6 _ rfl; have c07 := c0 7 _ rfl; have c08 := c0 8 _ rfl; have c09 := c0 9 _ rfl; have c10 := c0 10 _ rfl; have c11 := c0 11 _ rfl
      clear c0
      rw [Nat.add_zero] at c00
      obtain ⟨kd, nm, pt, ds, mm, uu, gg, pr, fl, fo, sl, ps, sv, pv⟩ := x
      obtain ⟨sa, sc, -, -, hsv, -⟩ := HoldS.parts hin.1
      obtain ⟨pa, pc, -, -, hpv, -⟩ := hin.2
      dsimp only at hsv hpv
      subst hsv
      subst hpv
      unfold CelK at x0
      unfold w5K w4K w3K cellsK at *
      dsimp only at *
      clear hin
      generalize sl.length = ns at *
      generalize ps.length = np at *
      generalize (⟨nm.toArray⟩ : ByteArray) = N at *
      generalize (⟨pt.toArray⟩ : ByteArray) = P at *
      generalize (⟨ds.toArray⟩ : ByteArray) = T at *
      obtain ⟨x0, x1, x2, x3, x4, x5, x6, x7, x8, x9, x10, x11⟩ := x0
      simp only [World.size_alloc] at F1 HB2
      go_wp2_with (go_at_call 68; (with_reducible refine F1.mono ?_); rintro e w6 ⟨fb, rfl, h1, h2⟩; have H1 := Lib.hid h1; have HB3 := Lib.hid (HB2.out.trans (h2.mono (show w.heap.size ≤ _ from by have := HB.out.size; omega))); clear h1 h2; cases fb)
      · first | (go_ret; exact HNO2.out _ HB3.out) | exact HNO2.out _ HB3.out
      · go_roundw
        case rel => exact ⟨k + 1, by omega, by go_num, Lib.hid (HK2.out (H1.out trivial)), HB3⟩
        case measure => simp [intOf]; omega
    · obtain rfl : k = n := by omega
      have HP := Lib.hid (HYES2.out hnm (fun x hx => by
        obtain ⟨j, hj, rfl⟩ := List.mem_iff_getElem.1 hx
        exact HK.out j _ (by rw [HN.out] at hj; exact hj) (List.getElem?_eq_getElem hj)) _ HB.out)
      clear FA HX HC HK HB5 HNO2 HYES2
      go_wp2
      first | (go_ret; exact HP.out) | exact HP.out
end Go.Proofs.YtkcamfcjkjiijaaGreatDoor
namespace Go.Proofs.YtkcamfcjkjiijaaGreatDoor
open Go.RowKit
/-- A record as it comes in. -/
structure FitU (x : Uv) : Prop where
  nm : x.nm.length ≤ maxLen
  vr : x.vr.length ≤ maxLen
  dn : x.dp.length ≤ maxLen
  dp : ∀ g ∈ x.dp, BigQ g.1 ∧ g.1.length ≤ maxLen
  cl : x.cn.length ≤ maxLen
  cq : BigQ x.cn
  rl : x.rp.length ≤ maxLen
  rp : ∀ s ∈ x.rp, s.length ≤ maxLen
  fl : x.cf.length ≤ maxLen
  cf : ∀ c ∈ x.cf, c.1.length ≤ maxLen ∧ c.2.length ≤ maxLen
  pl : x.pd.length ≤ maxLen
  pd : ∀ s ∈ x.pd, s.length ≤ maxLen
  al : x.aw.length ≤ maxLen
  aw : ∀ s ∈ x.aw, s.length ≤ maxLen
/-- A record that is small. -/
structure FewR (x : Uv) : Prop where
  nm : x.nm.length ≤ 4000
  vr : x.vr.length ≤ 4000
  dn : x.dp.length ≤ 70
  dp : ∀ g ∈ x.dp, g.1.length ≤ 70
  dt : (allE (fsts x.dp)).1.length ≤ 4000
  cl : x.cn.length ≤ 70
  cq : ∀ r ∈ x.cn, r.1.length ≤ 4000 ∧ r.2.2.length ≤ 4000
  rl : x.rp.length ≤ 70
  rp : ∀ s ∈ x.rp, s.length ≤ 4000
  fl : x.cf.length ≤ 70
  cf : ∀ c ∈ x.cf, c.1.length ≤ 4000 ∧ c.2.length ≤ 4000
  pl : x.pd.length ≤ 70
  pd : ∀ s ∈ x.pd, s.length ≤ 4000
  al : x.aw.length ≤ 70
  aw : ∀ s ∈ x.aw, s.length ≤ 4000
def FewU (l : List Uv) : Prop := l.length ≤ 70 ∧ ∀ x ∈ l, FewR x
/-- What the law's Few has looked at, up to a place. -/
structure UptoU (x : Uv) (k : Nat) : Prop where
  dp : ∀ (j : Nat) g, j < k → x.dp[j]? = some g → g.1.length ≤ 70
  cq : ∀ (j : Nat) r, j < k → x.cn[j]? = some r → r.1.length ≤ 4000 ∧ r.2.2.length ≤ 4000
  rp : ∀ (j : Nat) s, j < k → x.rp[j]? = some s → s.length ≤ 4000
  cf : ∀ (j : Nat) c, j < k → x.cf[j]? = some c → c.1.length ≤ 4000 ∧ c.2.length ≤ 4000
  pd : ∀ (j : Nat) s, j < k → x.pd[j]? = some s → s.length ≤ 4000
  aw : ∀ (j : Nat) s, j < k → x.aw[j]? = some s → s.length ≤ 4000
theorem UptoU.zero (x : Uv) : UptoU x 0 := ⟨fun j _ h => by omega, fun j _ h => by omega, fun j _ h => by omega, fun j _ h => by omega, fun j _ h => by omega, fun j _ h => by omega⟩
theorem upto_next {α : Type} {l : List α} {P : α → Prop} {k : Nat} (h : ∀ (j : Nat) a, j < k → l[j]? = some a → P a) (hk : ∀ a, l[k]? = some a → P a) : ∀ (j : Nat) a, j < k + 1 → l[j]? = some a → P a := fun j a hj ha => by
  by_cases e : j = k
  · subst e; exact hk a ha
  · exact h j a (by omega) ha
theorem UptoU.next {x : Uv} {k : Nat} (h : UptoU x k) (h1 : ∀ g, x.dp[k]? = some g → g.1.length ≤ 70) (h2 : ∀ r, x.cn[k]? = some r → r.1.length ≤ 4000 ∧ r.2.2.length ≤ 4000) (h3 : ∀ s, x.rp[k]? = some s → s.length ≤ 4000) (h4 : ∀ c, x.cf[k]? = some c → c.1.length ≤ 4000 ∧ c.2.length ≤ 4000) (h5 : ∀ s, x.pd[k]? = some s → s.length ≤ 4000) (h6 : ∀ s, x.aw[k]? = some s → s.length ≤ 4000) : UptoU x (k + 1) :=
  ⟨upto_next h.dp h1, upto_next h.cq h2, upto_next h.rp h3, upto_next h.cf h4, upto_next h.pd h5, upto_next h.aw h6⟩
theorem upto_all {α : Type} {l : List α} {P : α → Prop} {k : Nat} (h : ∀ (j : Nat) a, j < k → l[j]? = some a → P a) (hk : l.length ≤ k) : ∀ a ∈ l, P a := fun a ha => by
  obtain ⟨i, hi⟩ := List.mem_iff_getElem?.1 ha
  exact h i a (by have := (List.getElem?_eq_some_iff.1 hi).1; omega) hi
theorem UptoU.few {x : Uv} (h : UptoU x 70) (h0 : x.nm.length ≤ 4000) (h1 : x.vr.length ≤ 4000) (hd : (allE (fsts x.dp)).1.length ≤ 4000) (h3 : x.dp.length ≤ 70) (h4 : x.cn.length ≤ 70) (h5 : x.rp.length ≤ 70) (h6 : x.cf.length ≤ 70) (h7 : x.pd.length ≤ 70) (h8 : x.aw.length ≤ 70) : FewR x :=
  ⟨h0, h1, h3, upto_all h.dp h3, hd, h4, upto_all h.cq h4, h5, upto_all h.rp h5, h6, upto_all h.cf h6, h7, upto_all h.pd h7, h8, upto_all h.aw h8⟩
end Go.Proofs.YtkcamfcjkjiijaaGreatDoor
namespace Go.Proofs.YtkcamfcjkjiijaaGreatDoor
open Go.RowKit Go.Shelf
/-- A package's file. -/
structure Fv where
  pt : Bs
  kd : Int
  mm : Int
  uu : Int
  gg : Int
  tx : Bs
  cf : Bool
instance : Inhabited Fv := ⟨⟨[], 0, 0, 0, 0, [], false⟩⟩
abbrev cellsFv (x : Fv) : Rw := [.string (⟨x.pt.toArray⟩ : ByteArray), .int .i64 x.kd, .int .i64 x.mm, .int .i64 x.uu, .int .i64 x.gg, .string (⟨x.tx.toArray⟩ : ByteArray), .bool x.cf]
abbrev HoldFv (w : World) (v : Value) (l : List Fv) : Prop := HoldV 7 w v (l.map cellsFv)
/-- A package, with the values of its lists. -/
structure Pv where
  nm : Bs
  vr : Bs
  dp : List Gv
  cn : List Rl
  rp : List Bs
  fl : List Fv
  it : List It
  s0 : List Kv
  s1 : List Kv
  s2 : List Kv
  s3 : List Kv
  dv : Value
  cv : Value
  rv : Value
  fv : Value
  iv : Value
  v0 : Value
  v1 : Value
  v2 : Value
  v3 : Value
abbrev cellsP (x : Pv) : Rw := [.string (⟨x.nm.toArray⟩ : ByteArray), .string (⟨x.vr.toArray⟩ : ByteArray), x.dv, x.cv, x.rv, x.fv, x.iv, x.v0, x.v1, x.v2, x.v3]
abbrev agP (x : Pv) : Value := .agg #[.string (⟨x.nm.toArray⟩ : ByteArray), .string (⟨x.vr.toArray⟩ : ByteArray), x.dv, x.cv, x.rv, x.fv, x.iv, x.v0, x.v1, x.v2, x.v3]
structure InP (w : World) (x : Pv) : Prop where
  dp : HoldGs w x.dv x.dp
  cn : HoldQ w x.cv x.cn
  rp : HoldT w x.rv x.rp
  fl : HoldFv w x.fv x.fl
  it : HoldI w x.iv x.it
  s0 : HoldAc w x.v0 x.s0
  s1 : HoldAc w x.v1 x.s1
  s2 : HoldAc w x.v2 x.s2
  s3 : HoldAc w x.v3 x.s3
theorem InP.on {w w' : World} {x : Pv} (h : InP w x) (hb : Below w.heap.size w w') : InP w' x := ⟨h.dp.on hb, HoldV.on h.cn hb, h.rp.on hb, HoldV.on h.fl hb, HoldV.on h.it hb, h.s0.on hb, h.s1.on hb, h.s2.on hb, h.s3.on hb⟩
structure FitP (x : Pv) : Prop where
  nm : x.nm.length ≤ maxLen
  vr : x.vr.length ≤ maxLen
  dn : x.dp.length ≤ maxLen
  dp : ∀ g ∈ x.dp, BigQ g.1 ∧ g.1.length ≤ maxLen
  cl : x.cn.length ≤ maxLen
  cq : BigQ x.cn
  rl : x.rp.length ≤ maxLen
  rp : ∀ s ∈ x.rp, s.length ≤ maxLen
  fn : x.fl.length ≤ maxLen
  fl : ∀ f ∈ x.fl, f.pt.length ≤ maxLen ∧ f.tx.length ≤ maxLen
  il : x.it.length ≤ maxLen
  it : ∀ i ∈ x.it, i.1.length ≤ maxLen ∧ i.2.1.length ≤ maxLen
  n0 : x.s0.length ≤ maxLen
  s0 : ∀ k ∈ x.s0, FitK k
  n1 : x.s1.length ≤ maxLen
  s1 : ∀ k ∈ x.s1, FitK k
  n2 : x.s2.length ≤ maxLen
  s2 : ∀ k ∈ x.s2, FitK k
  n3 : x.s3.length ≤ maxLen
  s3 : ∀ k ∈ x.s3, FitK k
/-- A state: its records, diversions and lists, and the values of all its slices. -/
structure Stv where
  rs : List Uv
  ds : List Dv
  ls : List Lp
  rv : Value
  dv : Value
  ov : Value
  av : Value
  iv : Value
  fv : Value
  lv : Value
abbrev agS (x : Stv) : Value := .agg #[x.rv, x.dv, x.ov, x.av, x.iv, x.fv, x.lv]
structure InSt (w : World) (x : Stv) : Prop where
  rs : HoldU w x.rv x.rs
  ds : HoldD w x.dv x.ds
  ls : HoldL w x.lv x.ls
  ov : ∃ a n c, x.ov = .slice a n c
  av : ∃ a n c, x.av = .slice a n c
  iv : ∃ a n c, x.iv = .slice a n c
  fv : ∃ a n c, x.fv = .slice a n c
structure FitSt (x : Stv) : Prop where
  rn : x.rs.length ≤ maxLen
  rs : ∀ r ∈ x.rs, FitU r
  dn : x.ds.length ≤ maxLen
  ds : ∀ d ∈ x.ds, d.1.length ≤ maxLen ∧ d.2.1.length ≤ maxLen ∧ d.2.2.length ≤ maxLen
  ln : x.ls.length ≤ maxLen
  ls : ∀ p ∈ x.ls, p.1.1.length ≤ maxLen ∧ p.1.2.length ≤ maxLen ∧ ∀ q ∈ p.1.2, q.length ≤ maxLen
end Go.Proofs.YtkcamfcjkjiijaaGreatDoor
