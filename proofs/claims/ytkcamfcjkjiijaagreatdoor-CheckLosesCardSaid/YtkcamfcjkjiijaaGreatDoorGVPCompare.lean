/-
  The program's Text of a version: what it returns; nothing old turns. Condition: LaidV.
-/
import Derived.Test.YtkcamfcjkjiijaaGreatDoorGLList
import Derived.Lib.ItoaMem
import Derived.Laws.BitsAllLaws
import Derived.Lib.ItoaWalk
import Derived.ShutString
import Derived.Test.YtkcamfcjkjiijaaGreatDoorGVParse
import Derived.Deep.DeepCutAuto
import Derived.Deep.CutRange
import Derived.Test.YtkcamfcjkjiijaaGreatDoorGVPParse
import Derived.Test.YtkcamfcjkjiijaaGreatDoorGVPOrder
import Derived.Deep.RegionHeld3
import Derived.Test.YtkcamfcjkjiijaaGreatDoorGVPEpoch
namespace Go.Proofs.YtkcamfcjkjiijaaGreatDoor.RT
open Go.RowKit Go.Sort
def dgc (d : Nat) : UInt8 := if d < 10 then UInt8.ofNat (48 + d) else UInt8.ofNat (87 + d)
end Go.Proofs.YtkcamfcjkjiijaaGreatDoor.RT
namespace Go.Proofs.YtkcamfcjkjiijaaGreatDoor
open Go.RowKit
end Go.Proofs.YtkcamfcjkjiijaaGreatDoor
namespace Go.Proofs.YtkcamfcjkjiijaaGreatDoor
open Go.RowKit
theorem cutHy_le (l : Bs) : (cutHy l).1.length ≤ l.length ∧ (cutHy l).2.length ≤ l.length + 1 := by
  unfold cutHy
  split
  · simp
  · simp only [List.length_take, List.length_drop]; omega
theorem restV_le {e : Int} {m l : Bs} {v : Ver} (h : restV e m l = some v) : v.2.1.length ≤ l.length ∧ v.2.2.length ≤ l.length + 1 := by
  obtain ⟨rfl, _⟩ := restV_some h
  exact cutHy_le l
theorem verOf_le {s : Bs} {v : Ver} (h : verOf s = some v) : v.2.1.length ≤ s.length ∧ v.2.2.length ≤ s.length + 1 := by
  unfold verOf at h
  split at h
  · split at h
    · have := restV_le h
      rw [List.length_drop] at this; omega
    · cases h
  · exact restV_le h
/-- What Parse tells, by what it is in memory; and what a comparison takes a text for. -/
def VerAt (s : ByteArray) (z : Int) (U V : ByteArray) : Prop := verAs s.data.toList = (z, U.data.toList, V.data.toList)
theorem parse_parts (s : ByteArray) (hs : s.size ≤ 4000) : ∃ (z : Int) (U V : ByteArray) (k : Int), (k = 0 ∨ k = 2 ∨ k = 8) ∧ 0 ≤ z ∧ z < 1000000000 ∧ U.size ≤ 100 ∧ V.size ≤ 100 ∧
    (k = 0 → VerAt s z U V ∧ parseE s.data.toList = ((z, U.data.toList, V.data.toList), 0)) ∧ (k ≠ 0 → VerAt s 0 s ⟨#[48]⟩ ∧ parseE s.data.toList = ((0, [], []), k) ∧ z = 0 ∧ U = ⟨#[]⟩ ∧ V = ⟨#[]⟩) ∧
    parseV s.data.toList = .tuple #[.agg #[.int .i64 z, .string U, .string V], .int .i64 k] := by
  have hl := sizeOf s
  by_cases h : 80 < s.data.toList.length
  · have he : parseE s.data.toList = ((0, [], []), 8) := by unfold parseE; rw [if_pos h]
    refine ⟨0, ⟨#[]⟩, ⟨#[]⟩, 8, .inr (.inr rfl), by omega, by omega, by decide, by decide, fun g => absurd g (by decide), fun _ => ⟨?_, he, rfl, rfl, rfl⟩, parseV_long h⟩
    unfold VerAt verAs; rw [he]; rfl
  · cases hv : verOf s.data.toList with
    | none =>
      have he : parseE s.data.toList = ((0, [], []), 2) := by unfold parseE; rw [if_neg h, hv]
      refine ⟨0, ⟨#[]⟩, ⟨#[]⟩, 2, .inr (.inl rfl), by omega, by omega, by decide, by decide, fun g => absurd g (by decide), fun _ => ⟨?_, he, rfl, rfl, rfl⟩, parseV_none h hv⟩
      unfold VerAt verAs; rw [he]; rfl
    | some v =>
      have he : parseE s.data.toList = (v, 0) := by unfold parseE; rw [if_neg h, hv]
      have hok := verOf_ok hv
      have hle := verOf_le hv
      refine ⟨v.1, ⟨v.2.1.toArray⟩, ⟨v.2.2.toArray⟩, 0, .inl rfl, hok.lo, hok.hi, by rw [sizeOf, bytesOf]; omega, by rw [sizeOf, bytesOf]; omega, fun _ => ⟨?_, ?_⟩, fun g => absurd rfl g, parseV_some h hv⟩
      · unfold VerAt verAs; rw [he]; simp
      · rw [he]
theorem compare_parts {a b : ByteArray} {z1 z2 : Int} {U1 U2 V1 V2 : ByteArray} (h1 : VerAt a z1 U1 V1) (h2 : VerAt b z2 U2 V2) :
    compareV a.data.toList b.data.toList = if sgn z1 z2 ≠ 0 then sgn z1 z2 else if order U1.data.toList U2.data.toList ≠ 0 then order U1.data.toList U2.data.toList else order V1.data.toList V2.data.toList := by
  unfold compareV
  rw [h1, h2]
  rfl
end Go.Proofs.YtkcamfcjkjiijaaGreatDoor
namespace Go.Proofs.YtkcamfcjkjiijaaGreatDoor
open Go.RowKit
/-- Two versions in memory, and the rest as it was. -/
abbrev Two (b : Nat) (x1 x2 : Int) (A1 B1 A2 B2 : ByteArray) (w W : World) : Prop :=
  W.cell? ⟨b, 0, none⟩ = some (.int .i64 x1) ∧ W.cell? ⟨b, 1, none⟩ = some (.string A1) ∧ W.cell? ⟨b, 2, none⟩ = some (.string B1) ∧
  W.cell? ⟨b + 1, 0, none⟩ = some (.int .i64 x2) ∧ W.cell? ⟨b + 1, 1, none⟩ = some (.string A2) ∧ W.cell? ⟨b + 1, 2, none⟩ = some (.string B2) ∧ Below w.heap.size w W
theorem Two.on {b : Nat} {x1 x2 : Int} {A1 B1 A2 B2 : ByteArray} {w W W1 : World} (h : Two b x1 x2 A1 B1 A2 B2 w W) (hb : Below W.heap.size W W1) : Two b x1 x2 A1 B1 A2 B2 w W1 := by
  obtain ⟨h0, h1, h2, h3, h4, h5, h6⟩ := h
  have l0 := World.block_lt_of_cell? W _ h0
  have l3 := World.block_lt_of_cell? W _ h3
  have k := (fun o => hb.cell (p := ⟨b, o, none⟩) l0)
  have k' := (fun o => hb.cell (p := ⟨b + 1, o, none⟩) l3)
  exact ⟨by rw [k]; exact h0, by rw [k]; exact h1, by rw [k]; exact h2, by rw [k']; exact h3, by rw [k']; exact h4, by rw [k']; exact h5, h6.trans (hb.mono h6.size)⟩
theorem Two.dr {b : Nat} {x1 x2 : Int} {A1 B1 A2 B2 : ByteArray} {w W : World} (h : Two b x1 x2 A1 B1 A2 B2 w W) : Two b x1 x2 A1 B1 A2 B2 w W.drew := h.on (Below.refl _ _).drew
theorem Two.al {b : Nat} {x1 x2 : Int} {A1 B1 A2 B2 : ByteArray} {w W : World} (h : Two b x1 x2 A1 B1 A2 B2 w W) (o : Obj) : Two b x1 x2 A1 B1 A2 B2 w (W.alloc o) := h.on ((Below.refl _ _).alloc (Nat.le_refl _) o)
theorem Two.ald {b : Nat} {x1 x2 : Int} {A1 B1 A2 B2 : ByteArray} {w W : World} (h : Two b x1 x2 A1 B1 A2 B2 w W) (o : Obj) : Two b x1 x2 A1 B1 A2 B2 w (W.alloc o).drew := (h.al o).dr
theorem Two.new (w w2 : World) (x1 x2 : Int) (A1 B1 A2 B2 : ByteArray) (t : TypeId) (hb : Below w.heap.size w w2) : Two w2.heap.size x1 x2 A1 B1 A2 B2 w ((w2.alloc (.cells #[.int .i64 x1, .string A1, .string B1] t)).alloc (.cells #[.int .i64 x2, .string A2, .string B2] t)) := by
  have p := (BoxV.new w2 x1 A1 B1 t).al (.cells #[.int .i64 x2, .string A2, .string B2] t)
  have q := BoxV.new (w2.alloc (.cells #[.int .i64 x1, .string A1, .string B1] t)) x2 A2 B2 t
  rw [World.size_alloc] at q
  exact ⟨p.c0, p.c1, p.c2, q.c0, q.c1, q.c2, (hb.alloc hb.size _).alloc (by have := hb.size; simp; omega) _⟩
theorem szA {w w2 : World} {o : Obj} (hb : Below (w.alloc o).heap.size (w.alloc o) w2) : w.heap.size + 1 ≤ w2.heap.size := by have := hb.size; simpa using this
theorem taken_parts (s : ByteArray) (hs : s.size ≤ 4000) : ∃ (z : Int) (U V : ByteArray), U.size ≤ 4000 ∧ V.size ≤ 4000 ∧ VerAt s z U V ∧
    ∀ w, LaidV w → Calls Tryz.prog 131 #[.string s] w fun e w' => e = .returned (.agg #[.int .i64 z, .string U, .string V]) ∧ Below w.heap.size w w' := by
  obtain ⟨z, U, V, k, hk, hz, hz', hU, hV, ok1, bad1, e1⟩ := parse_parts s hs
  have P := fun (w : World) (h : LaidV w) => parse_any s hs w h
  unfold ParsePost at P
  simp only [e1] at P
  have key : ∀ w, LaidV w → ∀ (z' : Int) (U' V' : ByteArray), (k = 0 → (z', U', V') = (z, U, V)) → (k ≠ 0 → (z', U', V') = (0, s, ⟨#[48]⟩)) → Calls Tryz.prog 131 #[.string s] w fun e w' => e = .returned (.agg #[.int .i64 z', .string U', .string V']) ∧ Below w.heap.size w w' := by
    intro w h z' U' V' hy hn
    have Q := P _ (LaidV.al (Lib.hid h) (.cells #[.int .i64 0, .string ⟨#[]⟩, .string ⟨#[]⟩] 147))
    have HR := Lib.hid (BoxV.new w 0 ⟨#[]⟩ ⟨#[]⟩ 147)
    have HB0 : Hid (Below w.heap.size w (w.alloc (.cells #[.int .i64 0, .string ⟨#[]⟩, .string ⟨#[]⟩] 147))) := Lib.hid ((Below.refl _ _).alloc (Nat.le_refl _) _)
    clear P ok1 bad1 e1 h
    rcases hk with rfl | rfl | rfl
    · have e := hy rfl
      simp only [Prod.mk.injEq] at e
      obtain ⟨rfl, rfl, rfl⟩ := e
      clear hy hn
      go_enter Tryz.func131, Tryz.ntmps131
      go_wp2_with (go_at_call 154; refine Q.mono ?_; rintro e w2 ⟨rfl, hb⟩; obtain ⟨r0, r1, r2, rf⟩ := (HR.out.on hb).al (.cells #[.int .i64 z', .string U', .string V'] 147); have hsz := szA hb; have HBX := Lib.hid ((fin HB0.out hb).alloc (fin HB0.out hb).size (.cells #[.int .i64 z', .string U', .string V'] 147)); clear hb Q)
      obtain ⟨k0, k1, k2, _⟩ := BoxV.put ⟨r0, r1, r2, rf⟩ z' U' V'
      exact bodyPost_ret (v := .agg #[.int .i64 z', .string U', .string V']) (by simp [results, Tryz.results131, go_sem, k0, k1, k2]) rfl ⟨rfl, putV_below HBX.out (Nat.le_refl _) _ _ _⟩
    all_goals
      have e := hn (by decide)
      simp only [Prod.mk.injEq] at e
      obtain ⟨rfl, rfl, rfl⟩ := e
      clear hy hn
      go_enter Tryz.func131, Tryz.ntmps131
      go_wp2_with (go_at_call 154; refine Q.mono ?_; rintro e w2 ⟨rfl, hb⟩; obtain ⟨r0, r1, r2, rf⟩ := (HR.out.on hb).al (.cells #[.int .i64 z, .string U, .string V] 147); have hsz := szA hb; have HBX := Lib.hid ((fin HB0.out hb).alloc (fin HB0.out hb).size (.cells #[.int .i64 z, .string U, .string V] 147)); clear hb Q)
      obtain ⟨k0, k1, k2, _⟩ := BoxV.put ⟨r0, r1, r2, rf⟩ 0 U' ⟨#[48]⟩
      exact bodyPost_ret (v := .agg #[.int .i64 0, .string U', .string ⟨#[48]⟩]) (by simp [results, Tryz.results131, go_sem, k0, k1, k2]) rfl ⟨rfl, putV_below HBX.out (Nat.le_refl _) _ _ _⟩
  by_cases h0 : k = 0
  · exact ⟨z, U, V, by omega, by omega, (ok1 h0).1, fun w h => key w h z U V (fun _ => rfl) (fun g => absurd h0 g)⟩
  · exact ⟨0, s, ⟨#[48]⟩, by omega, by decide, (bad1 h0).1, fun w h => key w h 0 s ⟨#[48]⟩ (fun g => absurd g h0) (fun _ => rfl)⟩
theorem or3 (b : Nat) (z q r : Int) (w : World) (h0 : w.cell? ⟨b, 0, none⟩ = some (.int .i64 z)) (h1 : w.cell? ⟨b, 1, none⟩ = some (.int .i64 q)) (h2 : w.cell? ⟨b, 2, none⟩ = some (.int .i64 r)) :
    Calls Tryz.prog 132 #[.slice (some ⟨b, 0, none⟩) 3 3] w fun e w' => e = .returned (.int .i64 (orI z (orI q r))) ∧ w = w' := by
  have := or_any b [z, q, r] 3 rfl (by decide) w (fun j x h => by
    match j, h with
    | 0, h => cases h; exact h0
    | 1, h => cases h; exact h1
    | 2, h => cases h; exact h2
    | j + 3, h => simp at h)
  have e : orL [z, q, r] = orI z (orI q r) := by
    unfold orL orL orL orL orI
    by_cases h : r = 0 <;> simp [h]
  rwa [e] at this
set_option maxRecDepth 100000 in
set_option maxHeartbeats 8000000 in
theorem compare_any (a b : ByteArray) (ha : a.size ≤ 4000) (hb : b.size ≤ 4000) (w : World) (h : LaidV w) :
    Calls Tryz.prog 109 #[.string a, .string b] w fun e w' => e = .returned (.int .i64 (compareV a.data.toList b.data.toList)) ∧ Below w.heap.size w w' := by
  obtain ⟨x1, A1, B1, hA1, hB1, HA, T1⟩ := taken_parts a ha
  obtain ⟨x2, A2, B2, hA2, hB2, HC, T2⟩ := taken_parts b hb
  have hcp := compare_parts HA HC
  have O1 := fun w => order_any A1 A2 hA1 hA2 w
  have O2 := fun w => order_any B1 B2 hB1 hB2 w
  have CI := fun x y w => cmpI x y w
  have CC := fun w => cmpI x1 x2 w
  generalize sgn x1 x2 = f at *
  generalize order A1.data.toList A2.data.toList = c at *
  generalize order B1.data.toList B2.data.toList = d at *
  have HF : Hid (orI f (orI c d) = compareV a.data.toList b.data.toList) := Lib.hid (by rw [hcp]; unfold orI; rfl)
  have HL := Lib.hid h
  clear hcp HA HC h CI
  generalize compareV a.data.toList b.data.toList = R at *
  go_enter Tryz.func109, Tryz.ntmps109
  go_wp2_with (go_at_call 131; first
    | ((with_reducible refine (T1 _ HL.out).mono ?_); clear T1; rintro e w1 ⟨rfl, hb1⟩; have HB1 := Lib.hid hb1; have HL1 := Lib.hid (HL.out.on hb1); clear hb1)
    | ((with_reducible refine (T2 _ HL1.out).mono ?_); clear T2; rintro e w2 ⟨rfl, hb2⟩; have HB2 := Lib.hid (fin HB1.out hb2); clear hb2))
  have HT := Two.new w w2 x1 x2 A1 B1 A2 B2 147 HB2.out
  obtain ⟨W0, hW0⟩ : ∃ W0, W0 = (w2.alloc (.cells #[.int .i64 x1, .string A1, .string B1] 147)).alloc (.cells #[.int .i64 x2, .string A2, .string B2] 147) := ⟨_, rfl⟩
  rw [← hW0] at HT ⊢
  generalize w2.heap.size = b0 at *
  clear hW0 HB2 HB1 HL HL1 ha hb hA1 hB1 hA2 hB2
  obtain ⟨h0, h1, h2, h3, h4, h5, h6⟩ := HT
  go_region_held3 (fun W => W.cell? ⟨b0, 0, none⟩ = some (.int .i64 x1) ∧ W.cell? ⟨b0, 1, none⟩ = some (.string A1) ∧ W.cell? ⟨b0, 2, none⟩ = some (.string B1) ∧
  W.cell? ⟨b0 + 1, 0, none⟩ = some (.int .i64 x2) ∧ W.cell? ⟨b0 + 1, 1, none⟩ = some (.string A2) ∧ W.cell? ⟨b0 + 1, 2, none⟩ = some (.string B2) ∧ Below w.heap.size w W)
    (first | assumption | exact Two.dr ⟨h0, h1, h2, h3, h4, h5, h6⟩ | exact ⟨h0, h1, h2, h3, h4, h5, h6⟩ | exact Two.on (by assumption) (by assumption) | exact Two.dr (by assumption) | exact Two.al (by assumption) _ | exact Two.ald (by assumption) _)
    (first | (go_at_call 133; (with_reducible refine (CC _).mono ?_); rintro e w3 ⟨rfl, rfl⟩) | (go_at_call 134; first | ((with_reducible refine (O1 _).mono ?_); rintro e w3 ⟨rfl, hb⟩) | ((with_reducible refine (O2 _).mono ?_); rintro e w3 ⟨rfl, hb⟩)) | (go_at_call 132; refine (or3 _ f c d _ (by simp [World.cell?_alloc_new]) (by simp [World.cell?_alloc_new]) (by simp [World.cell?_alloc_new])).mono ?_; rintro e w3 ⟨rfl, rfl⟩))
  all_goals
    rename_i hHeld
    go_wp2
    go_ret
    exact ⟨reti HF.out, hHeld.2.2.2.2.2.2⟩
end Go.Proofs.YtkcamfcjkjiijaaGreatDoor
namespace Go.Proofs.YtkcamfcjkjiijaaGreatDoor
open Go.RowKit Go.Sort
end Go.Proofs.YtkcamfcjkjiijaaGreatDoor
