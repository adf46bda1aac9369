/-
  cellarerlaw19's FewActs of a list of one command: it tells something; where it tells true the command is small; nothing old turns.
-/
import Derived.Test.YtolpcnhgmmnmcaaGreatDoorKAct
import Derived.Test.YtolpcnhgmmnmcaaGreatDoorKAwake
import Derived.Test.YtolpcnhgmmnmcaaGreatDoorZFew
namespace Go.Proofs.YtolpcnhgmmnmcaaGreatDoor
open Go.RowKit
structure FitK (x : Kv) : Prop where
  nm : x.nm.length ≤ maxLen
  pt : x.pt.length ≤ maxLen
  ds : x.ds.length ≤ maxLen
  sl : x.sl.length ≤ maxLen
  ps : x.ps.length ≤ maxLen
  ss : ∀ s ∈ x.sl, FitS s
  qs : ∀ q ∈ x.ps, q.length ≤ maxLen
structure LaidQ (w : World) : Prop where
  r : LaidR w
  p : LaidP w
theorem LaidQ.a {w : World} (h : LaidQ w) : LaidA w := ⟨h.p, h.r.k⟩
theorem LaidQ.on {w w' : World} (h : LaidQ w) (hb : Below w.heap.size w w') : LaidQ w' := ⟨h.r.on hb, h.p.on hb⟩
theorem holdOne (k : Nat) (W : World) (r : Rw) (t : TypeId) : HoldV k (W.alloc (.cells r.toArray t)) (.slice (some ⟨W.heap.size, 0, none⟩) 1 1) [r] := by
  refine ⟨some ⟨W.heap.size, 0, none⟩, 1, W.heap.size, 0, rfl, Nat.le_refl _, fun _ => ⟨rfl, by simp⟩, fun j q hj i y hi hy => ?_⟩
  match j, hj with
  | 0, hj =>
    simp at hj; subst hj
    rw [World.cell?_alloc_new]
    show r.toArray[0 + 0 * k + i]? = some y
    simpa using hy
abbrev chK (x : Kv) (v : Value) : Av := ⟨x.nm, x.ds, false, x.pt, x.sl, [(([], 0, x.ps), x.pv)], x.sv, v⟩
abbrev w3K (x : Kv) (W : World) : World := W.alloc (.cells (cellsK x) 27)
abbrev w4K (x : Kv) (W : World) : World := (w3K x W).alloc (.cells #[.string ⟨#[]⟩, .int .i64 0, x.pv] 34)
abbrev w5K (x : Kv) (W : World) : World := (w4K x W).alloc (.cells #[.string (⟨x.nm.toArray⟩ : ByteArray), .string (⟨x.ds.toArray⟩ : ByteArray), .bool false, .string (⟨x.pt.toArray⟩ : ByteArray), x.sv, .slice (some ⟨(w3K x W).heap.size, 0, none⟩) 1 1] 37)
theorem w5K_below (x : Kv) (W : World) : Below W.heap.size W (w5K x W) := (((Below.refl W.heap.size W).alloc (Nat.le_refl _) _).alloc (by simp) _).alloc (by simp; omega) _
theorem one_few (x : Kv) (hf : FitK x) (W : World) (hh : InK W x) : Calls Tryz.prog 8 #[.slice (some ⟨(w4K x W).heap.size, 0, none⟩) 1 1] (w5K x W) fun e w' => ∃ fb : Bool, e = .returned (.bool fb) ∧ (fb = true → SmK x) ∧ Below (w5K x W).heap.size (w5K x W) w' := by
  have hin := hh.on (w5K_below x W)
  have hC : HoldC (w5K x W) (.slice (some ⟨(w3K x W).heap.size, 0, none⟩) 1 1) [(([], 0, x.ps), x.pv)] := by
    refine ⟨?_, fun y hy => by rw [List.mem_singleton] at hy; subst hy; exact hin.2⟩
    have h0 := holdOne 3 (w3K x W) [.string ⟨#[]⟩, .int .i64 0, x.pv] 34
    exact HoldV.on h0 ((Below.refl _ _).alloc (Nat.le_refl _) _)
  have hA : HoldA (w5K x W) (.slice (some ⟨(w4K x W).heap.size, 0, none⟩) 1 1) [chK x (.slice (some ⟨(w3K x W).heap.size, 0, none⟩) 1 1)] := by
    refine ⟨?_, fun y hy => by rw [List.mem_singleton] at hy; subst hy; exact ⟨hin.1, hC⟩⟩
    exact holdOne 6 (w4K x W) [.string (⟨x.nm.toArray⟩ : ByteArray), .string (⟨x.ds.toArray⟩ : ByteArray), .bool false, .string (⟨x.pt.toArray⟩ : ByteArray), x.sv, .slice (some ⟨(w3K x W).heap.size, 0, none⟩) 1 1] 37
  have F := fewA_any _ _ (by unfold maxLen; simp) (fun y hy => by
    rw [List.mem_singleton] at hy; subst hy
    exact ⟨hf.nm, hf.ds, hf.pt, hf.sl, by unfold maxLen; simp, hf.ss, fun c hc => by
      rw [List.mem_singleton] at hc; subst hc
      exact ⟨by unfold maxLen; simp, hf.ps, hf.qs⟩⟩) _ hA
  refine F.mono fun e w' ⟨fb, h1, h2, h3⟩ => ⟨fb, h1, fun g => ?_, h3⟩
  have o := (h2 g).2 _ (List.mem_singleton_self _)
  have oc := o.cs _ (List.mem_singleton_self _)
  have := o.nm; have := o.lk; have := o.cr; have := o.sl; have := oc.2.1
  dsimp only at *
  exact ⟨by omega, by omega, by omega, by omega, by omega, fun s hs => by have := o.ss s hs; unfold FewS at this; omega, fun q hq => by have := oc.2.2 q hq; omega⟩
def FewKP (x : Kv) (w : World) (e : Ending) (w' : World) : Prop := ∃ fb : Bool, e = .returned (.bool fb) ∧ (fb = true → SmK x) ∧ Below w.heap.size w w'
set_option maxRecDepth 100000 in
set_option maxHeartbeats 8000000 in
theorem fewActs_any (x : Kv) (hf : FitK x) (w : World) (hh : InK w x) (b : Nat) (hb : b < w.heap.size) (hc : CelK x b w) : Calls Tryz.prog 4 #[.slice (some ⟨b, 0, none⟩) 1 1, .int .i64 1] w (FewKP x w) := by
  have FA := fun wr (hw : Below w.heap.size w wr) => one_few x hf wr (hh.on hw)
  have HNO : Hid (∀ w', Below w.heap.size w w' → FewKP x w (.returned (.bool false)) w') := Lib.hid (fun w' hb => ⟨false, rfl, (fun e => by cases e), hb⟩)
  have HYES : Hid (∀ w', SmK x → Below w.heap.size w w' → FewKP x w (.returned (.bool true)) w') := Lib.hid (fun w' hf hb => ⟨true, rfl, fun _ => hf, hb⟩)
  have HC : Hid (∀ wr, Below w.heap.size w wr → CelK x b wr) := Lib.hid (fun wr hw => by
    obtain ⟨c0, c1, c2, c3, c4, c5, c6, c7, c8, c9, c10, c11⟩ := hc
    exact ⟨(hw.cell (p := ⟨b, 0, none⟩) hb).trans c0, (hw.cell (p := ⟨b, 1, none⟩) hb).trans c1, (hw.cell (p := ⟨b, 2, none⟩) hb).trans c2, (hw.cell (p := ⟨b, 3, none⟩) hb).trans c3, (hw.cell (p := ⟨b, 4, none⟩) hb).trans c4, (hw.cell (p := ⟨b, 5, none⟩) hb).trans c5, (hw.cell (p := ⟨b, 6, none⟩) hb).trans c6, (hw.cell (p := ⟨b, 7, none⟩) hb).trans c7, (hw.cell (p := ⟨b, 8, none⟩) hb).trans c8, (hw.cell (p := ⟨b, 9, none⟩) hb).trans c9, (hw.cell (p := ⟨b, 10, none⟩) hb).trans c10, (hw.cell (p := ⟨b, 11, none⟩) hb).trans c11⟩)
  have HX := Lib.hid (fun wr => celK x wr (w3K x wr) (Below.refl _ _))
  have HB5 := Lib.hid (fun wr => w5K_below x wr)
  obtain ⟨SM, hSM⟩ : ∃ SM : Prop, SmK x = SM := ⟨_, rfl⟩
  simp only [hSM] at FA HYES
  obtain ⟨POST, hPO⟩ : ∃ P, FewKP x w = P := ⟨_, rfl⟩
  simp only [hPO] at HNO HYES ⊢
  obtain ⟨kd, nm, pt, ds, mm, uu, gg, pr, fl, fo, sl, ps, sv, pv⟩ := x
  obtain ⟨sa, sc, -, -, hsv, -⟩ := HoldS.parts hh.1
  obtain ⟨pa, pc, -, -, hpv, -⟩ := hh.2
  dsimp only at hsv hpv
  subst hsv
  subst hpv
  unfold CelK at HC HX
  unfold w5K w4K w3K cellsK at *
  dsimp only at *
  clear hc hf hh hSM hPO
  generalize sl.length = n at *
  generalize ps.length = m at *
  generalize (⟨nm.toArray⟩ : ByteArray) = N at *
  generalize (⟨pt.toArray⟩ : ByteArray) = P at *
  generalize (⟨ds.toArray⟩ : ByteArray) = T at *
  go_enter Tryz.func4, Tryz.ntmps4
  go_wp2
  go_loopw [5] (fun i wr => ∃ k : Nat, k ≤ 1 ∧ i = .int .i64 k ∧ Hid (k = 1 → SM) ∧ Hid (Below w.heap.size w wr)) (fun i _ => 1 - (intOf i).toNat)
  case atStart => exact ⟨0, by omega, rfl, Lib.hid (fun h => by omega), Lib.hid (Below.refl _ _)⟩
  case round =>
    obtain ⟨k, hk, rfl, HK, HB⟩ := hrel
    by_cases hlt : k < 1
    · obtain rfl : k = 0 := by omega
      obtain ⟨c0, c1, c2, c3, c4, c5, c6, c7, c8, c9, c10, c11⟩ := HC.out _ HB.out
      obtain ⟨x0, x1, x2, x3, x4, x5, x6, x7, x8, x9, x10, x11⟩ := HX.out wr
      have F1 := FA wr HB.out
      simp only [World.size_alloc] at F1
      have HB2 := Lib.hid (HB.out.trans ((HB5.out wr).mono HB.out.size))
      simp only [World.size_alloc] at HB2
      clear FA HX HC HK HB5
      go_wp2_with (go_at_call 8; (with_reducible refine F1.mono ?_); rintro e w6 ⟨fb, rfl, h1, h2⟩; have H1 := Lib.hid h1; have HB3 := Lib.hid (HB2.out.trans (h2.mono (show w.heap.size ≤ _ from by have := HB.out.size; omega))); clear h1 h2; cases fb)
      · first | (go_ret; exact HNO.out _ HB3.out) | exact HNO.out _ HB3.out
      · go_roundw
        case rel => exact ⟨1, by omega, by go_num, Lib.hid (fun _ => H1.out trivial), HB3⟩
        case measure => simp [intOf]
    · obtain rfl : k = 1 := by omega
      have HS := HK.out rfl
      have HP := Lib.hid (HYES.out _ HS HB.out)
      clear FA HX HC HK HB5
      go_wp2
      first | (go_ret; exact HP.out) | exact HP.out
end Go.Proofs.YtolpcnhgmmnmcaaGreatDoor
