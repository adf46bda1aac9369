/-
  cellarerlaw19's FewActs of any list of commands: it tells something; where it tells true they are few and small; nothing old turns.
-/
import Derived.Test.YtkcamfcjkjiijaaGreatDoorGZFew
namespace Go.Proofs.YtkcamfcjkjiijaaGreatDoor
open Go.RowKit
/-- A command, and the slice values of its slaves and paths. -/
structure Kv where
  kd : Int
  nm : Bs
  pt : Bs
  ds : Bs
  mm : Int
  uu : Int
  gg : Int
  pr : Int
  fl : Bool
  fo : Bool
  sl : List Sv
  ps : List Bs
  sv : Value
  pv : Value
abbrev cellsK (x : Kv) : Array Value := #[.int .i64 x.kd, .string (⟨x.nm.toArray⟩ : ByteArray), .string (⟨x.pt.toArray⟩ : ByteArray), .string (⟨x.ds.toArray⟩ : ByteArray), .int .i64 x.mm, .int .i64 x.uu, .int .i64 x.gg, .int .i64 x.pr, .bool x.fl, .bool x.fo, x.sv, x.pv]
abbrev InK (w : World) (x : Kv) : Prop := HoldS w x.sv x.sl ∧ HoldT w x.pv x.ps
theorem InK.on {w w' : World} {x : Kv} (h : InK w x) (hb : Below w.heap.size w w') : InK w' x := ⟨HoldV.on h.1 hb, h.2.on hb⟩
structure SmK (x : Kv) : Prop where
  nm : x.nm.length ≤ 4000
  pt : x.pt.length ≤ 4000
  ds : x.ds.length ≤ 4000
  sl : x.sl.length ≤ 500
  ps : x.ps.length ≤ 500
  ss : ∀ s ∈ x.sl, s.1.length ≤ 4000 ∧ s.2.length ≤ 4000
  qs : ∀ q ∈ x.ps, q.length ≤ 4000
theorem boxK (W : World) (cs : Array Value) (t : TypeId) (i : Nat) (v : Value) (h : cs[i]? = some v) : (W.alloc (.cells cs t)).cell? ⟨W.heap.size, i, none⟩ = some v := by
  rw [World.cell?_alloc_new]; exact h
def CelK (x : Kv) (b : Nat) (W : World) : Prop := W.cell? ⟨b, 0, none⟩ = some (.int .i64 x.kd) ∧ W.cell? ⟨b, 1, none⟩ = some (.string (⟨x.nm.toArray⟩ : ByteArray)) ∧ W.cell? ⟨b, 2, none⟩ = some (.string (⟨x.pt.toArray⟩ : ByteArray)) ∧ W.cell? ⟨b, 3, none⟩ = some (.string (⟨x.ds.toArray⟩ : ByteArray)) ∧ W.cell? ⟨b, 4, none⟩ = some (.int .i64 x.mm) ∧ W.cell? ⟨b, 5, none⟩ = some (.int .i64 x.uu) ∧ W.cell? ⟨b, 6, none⟩ = some (.int .i64 x.gg) ∧ W.cell? ⟨b, 7, none⟩ = some (.int .i64 x.pr) ∧ W.cell? ⟨b, 8, none⟩ = some (.bool x.fl) ∧ W.cell? ⟨b, 9, none⟩ = some (.bool x.fo) ∧ W.cell? ⟨b, 10, none⟩ = some x.sv ∧ W.cell? ⟨b, 11, none⟩ = some x.pv
theorem celK (x : Kv) (w W : World) (hW : Below (w.alloc (.cells (cellsK x) 109)).heap.size (w.alloc (.cells (cellsK x) 109)) W) : CelK x w.heap.size W := by
  have k := fun i v h => (hW.cell (World.block_lt_of_cell? _ _ (boxK w (cellsK x) 109 i v h))).trans (boxK w (cellsK x) 109 i v h)
  exact ⟨k 0 _ rfl, k 1 _ rfl, k 2 _ rfl, k 3 _ rfl, k 4 _ rfl, k 5 _ rfl, k 6 _ rfl, k 7 _ rfl, k 8 _ rfl, k 9 _ rfl, k 10 _ rfl, k 11 _ rfl⟩
structure FitK (x : Kv) : Prop where
  nm : x.nm.length ≤ maxLen
  pt : x.pt.length ≤ maxLen
  ds : x.ds.length ≤ maxLen
  sl : x.sl.length ≤ maxLen
  ps : x.ps.length ≤ maxLen
  ss : ∀ s ∈ x.sl, FitS s
  qs : ∀ q ∈ x.ps, q.length ≤ maxLen
theorem holdOne (k : Nat) (W : World) (r : Rw) (t : TypeId) : HoldV k (W.alloc (.cells r.toArray t)) (.slice (some ⟨W.heap.size, 0, none⟩) 1 1) [r] := by
  refine ⟨some ⟨W.heap.size, 0, none⟩, 1, W.heap.size, 0, rfl, Nat.le_refl _, fun _ => ⟨rfl, by simp⟩, fun j q hj i y hi hy => ?_⟩
  match j, hj with
  | 0, hj =>
    simp at hj; subst hj
    rw [World.cell?_alloc_new]
    show r.toArray[0 + 0 * k + i]? = some y
    simpa using hy
abbrev chK (x : Kv) (v : Value) : Av := ⟨x.nm, x.ds, false, x.pt, x.sl, [(([], 0, x.ps), x.pv)], x.sv, v⟩
abbrev w3K (x : Kv) (W : World) : World := W.alloc (.cells (cellsK x) 109)
abbrev w4K (x : Kv) (W : World) : World := (w3K x W).alloc (.cells #[.string ⟨#[]⟩, .int .i64 0, x.pv] 112)
abbrev w5K (x : Kv) (W : World) : World := (w4K x W).alloc (.cells #[.string (⟨x.nm.toArray⟩ : ByteArray), .string (⟨x.ds.toArray⟩ : ByteArray), .bool false, .string (⟨x.pt.toArray⟩ : ByteArray), x.sv, .slice (some ⟨(w3K x W).heap.size, 0, none⟩) 1 1] 115)
theorem w5K_below (x : Kv) (W : World) : Below W.heap.size W (w5K x W) := (((Below.refl W.heap.size W).alloc (Nat.le_refl _) _).alloc (by simp) _).alloc (by simp; omega) _
theorem one_few (x : Kv) (hf : FitK x) (W : World) (hh : InK W x) : Calls Tryz.prog 68 #[.slice (some ⟨(w4K x W).heap.size, 0, none⟩) 1 1] (w5K x W) fun e w' => ∃ fb : Bool, e = .returned (.bool fb) ∧ (fb = true → SmK x) ∧ Below (w5K x W).heap.size (w5K x W) w' := by
  have hin := hh.on (w5K_below x W)
  have hC : HoldC (w5K x W) (.slice (some ⟨(w3K x W).heap.size, 0, none⟩) 1 1) [(([], 0, x.ps), x.pv)] := by
    refine ⟨?_, fun y hy => by rw [List.mem_singleton] at hy; subst hy; exact hin.2⟩
    have h0 := holdOne 3 (w3K x W) [.string ⟨#[]⟩, .int .i64 0, x.pv] 112
    exact HoldV.on h0 ((Below.refl _ _).alloc (Nat.le_refl _) _)
  have hA : HoldA (w5K x W) (.slice (some ⟨(w4K x W).heap.size, 0, none⟩) 1 1) [chK x (.slice (some ⟨(w3K x W).heap.size, 0, none⟩) 1 1)] := by
    refine ⟨?_, fun y hy => by rw [List.mem_singleton] at hy; subst hy; exact ⟨hin.1, hC⟩⟩
    exact holdOne 6 (w4K x W) [.string (⟨x.nm.toArray⟩ : ByteArray), .string (⟨x.ds.toArray⟩ : ByteArray), .bool false, .string (⟨x.pt.toArray⟩ : ByteArray), x.sv, .slice (some ⟨(w3K x W).heap.size, 0, none⟩) 1 1] 115
  have F := fewA_any _ _ (by unfold maxLen; simp) (fun y hy => by
    rw [List.mem_singleton] at hy; subst hy
    exact ⟨hf.nm, hf.ds, hf.pt, hf.sl, by unfold maxLen; simp, hf.ss, fun c hc => by
      rw [List.mem_singleton] at hc; subst hc
      exact ⟨by unfold maxLen; simp, hf.ps, hf.qs⟩⟩) _ hA
  refine F.mono fun e w' ⟨fb, h1, h2, h3⟩ => ⟨fb, h1, fun g => ?_, h3⟩
  have o := (h2 g).2 _ (List.mem_singleton_self _)
  have oc := o.cs _ (List.mem_singleton_self _)
  have := o.nm; have := o.lk; have := o.cr; have := o.sl; have := oc.2.1
  dsimp only at *
  exact ⟨by omega, by omega, by omega, by omega, by omega, fun s hs => by have := o.ss s hs; unfold FewS at this; omega, fun q hq => by have := oc.2.2 q hq; omega⟩
end Go.Proofs.YtkcamfcjkjiijaaGreatDoor
namespace Go.Proofs.YtkcamfcjkjiijaaGreatDoor
open Go.RowKit
abbrev HoldAc (w : World) (v : Value) (l : List Kv) : Prop := HoldV 12 w v (l.map fun x => (cellsK x).toList) ∧ ∀ x ∈ l, InK w x
theorem HoldAc.on {w w' : World} {v : Value} {l : List Kv} (h : HoldAc w v l) (hb : Below w.heap.size w w') : HoldAc w' v l := ⟨HoldV.on h.1 hb, fun x hx => (h.2 x hx).on hb⟩
def CelKo (x : Kv) (b o : Nat) (W : World) : Prop := ∀ (i : Nat) u, (cellsK x)[i]? = some u → W.cell? ⟨b, o + i, none⟩ = some u
theorem HoldAc.parts {w : World} {v : Value} {l : List Kv} (h : HoldAc w v l) : ∃ (a : Option Addr) (c b o : Nat), v = .slice a l.length c ∧ l.length ≤ c ∧ (0 < l.length → a = some ⟨b, o, none⟩ ∧ b < w.heap.size) ∧ ∀ (j : Nat) x, l[j]? = some x → CelKo x b (o + j * 12) w := by
  obtain ⟨⟨a, c, b, o, e, hc, ha, hcell⟩, -⟩ := h
  rw [List.length_map] at e hc ha
  refine ⟨a, c, b, o, e, hc, ha, fun j x hx i u hu => ?_⟩
  refine hcell j ((cellsK x).toList) (by rw [List.getElem?_map, hx]; rfl) i u ?_ (by rw [Array.getElem?_toList]; exact hu)
  have := (Array.getElem?_eq_some_iff.1 hu).1
  simpa using this
set_option maxRecDepth 100000 in
set_option maxHeartbeats 8000000 in
theorem fewActsL_any (v : Value) (l : List Kv) (m : Nat) (hm : m ≤ 100) (hl : l.length ≤ maxLen) (hf : ∀ x ∈ l, FitK x) (w : World) (h : HoldAc w v l) : Calls Tryz.prog 36 #[v, .int .i64 m] w fun e w' => (∃ fb : Bool, e = .returned (.bool fb) ∧ (fb = true → l.length ≤ m ∧ ∀ x ∈ l, SmK x)) ∧ Below w.heap.size w w' := by
  have FA := Lib.hid (fun x (hx : x ∈ l) wr (hw : Below w.heap.size w wr) => one_few x (hf x hx) wr ((h.2 x hx).on hw))
  have HIN := Lib.hid h.2
  obtain ⟨a, c, b, o, rfl, hcc, ha, hcell⟩ := h.parts
  have HC := Lib.hid hcell
  have HX := Lib.hid (fun x wr => celK x wr (w3K x wr) (Below.refl _ _))
  have HB5 := Lib.hid (fun x wr => w5K_below x wr)
  have HNO : Hid (∀ w', Below w.heap.size w w' → (∃ fb : Bool, Ending.returned (.bool false) = .returned (.bool fb) ∧ (fb = true → l.length ≤ m ∧ ∀ x ∈ l, SmK x)) ∧ Below w.heap.size w w') := Lib.hid (fun w' hb => ⟨⟨false, rfl, fun e => by cases e⟩, hb⟩)
  have HYES : Hid (l.length ≤ m → (∀ x ∈ l, SmK x) → ∀ w', Below w.heap.size w w' → (∃ fb : Bool, Ending.returned (.bool true) = .returned (.bool fb) ∧ (fb = true → l.length ≤ m ∧ ∀ x ∈ l, SmK x)) ∧ Below w.heap.size w w') := Lib.hid (fun g1 g2 w' hb => ⟨⟨true, rfl, fun _ => ⟨g1, g2⟩⟩, hb⟩)
  obtain ⟨POST, hPO⟩ : ∃ P : Ending → World → Prop, (fun e w' => (∃ fb : Bool, e = .returned (.bool fb) ∧ (fb = true → l.length ≤ m ∧ ∀ x ∈ l, SmK x)) ∧ Below w.heap.size w w') = P := ⟨_, rfl⟩
  have HNO2 : Hid (∀ w', Below w.heap.size w w' → POST (.returned (.bool false)) w') := Lib.hid (fun w' hb => by rw [← hPO]; exact HNO.out w' hb)
  have HYES2 : Hid (l.length ≤ m → (∀ x ∈ l, SmK x) → ∀ w', Below w.heap.size w w' → POST (.returned (.bool true)) w') := Lib.hid (fun g1 g2 w' hb => by rw [← hPO]; exact HYES.out g1 g2 w' hb)
  rw [hPO]
  obtain ⟨n, hN⟩ : ∃ n, l.length = n := ⟨_, rfl⟩
  rw [hN] at hcc ha hl HYES2 ⊢
  have HN := Lib.hid hN
  clear hcell hN h hf HNO HYES hPO
  by_cases hlong : m < n
  · go_enter Tryz.func36, Tryz.ntmps36
    go_wp2
    first | (go_ret; exact HNO2.out _ (Below.refl _ _)) | exact HNO2.out _ (Below.refl _ _)
  have hnm : n ≤ m := by omega
  go_enter Tryz.func36, Tryz.ntmps36
  go_wp2
  go_loopw [5] (fun i wr => ∃ k : Nat, k ≤ n ∧ i = .int .i64 k ∧ Hid (∀ (j : Nat) x, j < k → l[j]? = some x → SmK x) ∧ Hid (Below w.heap.size w wr)) (fun i _ => n - (intOf i).toNat)
  case atStart => exact ⟨0, by omega, rfl, Lib.hid (fun j x h => by omega), Lib.hid (Below.refl _ _)⟩
  case round =>
    obtain ⟨k, hk, rfl, HK, HB⟩ := hrel
    by_cases hlt : k < n
    · obtain ⟨rfl, hbw⟩ := ha (by omega)
      obtain ⟨x, hx⟩ : ∃ x, l[k]? = some x := ⟨_, List.getElem?_eq_getElem (by rw [HN.out]; exact hlt)⟩
      have hmx := List.mem_of_getElem? hx
      have hcel := HC.out k x hx
      have c0 := fun i u hu => (HB.out.cell (p := ⟨b, o + k * 12 + i, none⟩) hbw).trans (hcel i u hu)
      have x0 := HX.out x wr
      have F1 := FA.out x hmx wr HB.out
      have HB2 := Lib.hid (HB.out.trans ((HB5.out x wr).mono HB.out.size))
      have hin := HIN.out x hmx
      have HK2 : Hid (SmK x → ∀ (j : Nat) y, j < k + 1 → l[j]? = some y → SmK y) := Lib.hid (fun g j y hj hy => by
        by_cases e : j = k
        · subst e; rw [hx] at hy; cases hy; exact g
        · exact HK.out j y (by omega) hy)
      obtain ⟨SM, hSM⟩ : ∃ SM : Prop, SmK x = SM := ⟨_, rfl⟩
      rw [hSM] at HK2
      simp only [hSM] at F1
      clear hSM hx hmx hcel HK FA HX HB5 HIN HC
      have c00 := c0 0 _ rfl; have c01 := c0 1 _ rfl; have c02 := c0 2 _ rfl; have c03 := c0 3 _ rfl; have c04 := c0 4 _ rfl; have c05 := c0 5 _ rfl; have c06 := c0 6 _ rfl; have c07 := c0 7 _ rfl; have c08 := c0 8 _ rfl; have c09 := c0 9 _ rfl; have c10 := c0 10 _ rfl; have c11 := c0 11 _ rfl
      clear c0
      rw [Nat.add_zero] at c00
      obtain ⟨kd, nm, pt, ds, mm, uu, gg, pr, fl, fo, sl, ps, sv, pv⟩ := x
      obtain ⟨sa, sc, -, -, hsv, -⟩ := HoldS.parts hin.1
      obtain ⟨pa, pc, -, -, hpv, -⟩ := hin.2
      dsimp only at hsv hpv
      subst hsv
      subst hpv
      unfold CelK at x0
      unfold w5K w4K w3K cellsK at *
      dsimp only at *
      clear hin
      generalize sl.length = ns at *
      generalize ps.length = np at *
      generalize (⟨nm.toArray⟩ : ByteArray) = N at *
      generalize (⟨pt.toArray⟩ : ByteArray) = P at *
      generalize (⟨ds.toArray⟩ : ByteArray) = T at *
      obtain ⟨x0, x1, x2, x3, x4, x5, x6, x7, x8, x9, x10, x11⟩ := x0
      simp only [World.size_alloc] at F1 HB2
      go_wp2_with (go_at_call 68; (with_reducible refine F1.mono ?_); rintro e w6 ⟨fb, rfl, h1, h2⟩; have H1 := Lib.hid h1; have HB3 := Lib.hid (HB2.out.trans (h2.mono (show w.heap.size ≤ _ from by have := HB.out.size; omega))); clear h1 h2; cases fb)
      · first | (go_ret; exact HNO2.out _ HB3.out) | exact HNO2.out _ HB3.out
      · go_roundw
        case rel => exact ⟨k + 1, by omega, by go_num, Lib.hid (HK2.out (H1.out trivial)), HB3⟩
        case measure => simp [intOf]; omega
    · obtain rfl : k = n := by omega
      have HP := Lib.hid (HYES2.out hnm (fun x hx => by
        obtain ⟨j, hj, rfl⟩ := List.mem_iff_getElem.1 hx
        exact HK.out j _ (by rw [HN.out] at hj; exact hj) (List.getElem?_eq_getElem hj)) _ HB.out)
      clear FA HX HC HK HB5 HNO2 HYES2
      go_wp2
      first | (go_ret; exact HP.out) | exact HP.out
end Go.Proofs.YtkcamfcjkjiijaaGreatDoor
