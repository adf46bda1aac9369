/-
  The program's Holds and Best: what each returns; nothing old turns. Condition: LaidV.
-/
import Derived.Test.YtkcamfcjkjiijaaGreatDoorPVMath
import Derived.Test.YtkcamfcjkjiijaaGreatDoorPVCompare
import Derived.Test.YtkcamfcjkjiijaaGreatDoorPVPParse
import Derived.Test.YtkcamfcjkjiijaaGreatDoorPVPOrder
import Derived.Deep.RegionHeld3
import Derived.Test.YtkcamfcjkjiijaaGreatDoorPVPEpoch
import Derived.Test.YtkcamfcjkjiijaaGreatDoorPQGroup2
namespace Go.Proofs.YtkcamfcjkjiijaaGreatDoor
/-- The first place of one that none is above; -1: there is none. -/
def BestOk (ls : List Bs) (z : Int) : Prop := (ls = [] ∧ z = -1) ∨ ∃ k : Nat, z = k ∧ ∃ h : k < ls.length, ∀ i (hi : i < ls.length), compareV ls[i] ls[k] ≤ 0 ∧ (compareV ls[i] ls[k] = 0 → k ≤ i)
/-- .. of the first n. -/
def BestTo (ls : List Bs) (n : Nat) (z : Int) : Prop := (n = 0 ∧ z = -1) ∨ ∃ k : Nat, z = k ∧ k < n ∧ ∃ h : k < ls.length, ∀ i (hi : i < ls.length), i < n → compareV ls[i] ls[k] ≤ 0 ∧ (compareV ls[i] ls[k] = 0 → k ≤ i)
theorem BestTo.start (ls : List Bs) : BestTo ls 0 (-1) := .inl ⟨rfl, rfl⟩
theorem BestTo.first {ls : List Bs} (h : 0 < ls.length) : BestTo ls 1 ((0 : Nat) : Int) := .inr ⟨0, rfl, by omega, h, fun i hi hn => by
  obtain rfl : i = 0 := by omega
  rw [compareV_good.self]; exact ⟨Int.le_refl _, fun _ => Nat.le_refl _⟩⟩
theorem BestTo.more {ls : List Bs} {n k : Nat} (h : BestTo ls n k) (hn : n < ls.length) (hk : k < ls.length) (hc : 0 < compareV ls[n] ls[k]) : BestTo ls (n + 1) n := by
  rcases h with ⟨_, h⟩ | ⟨k', e, hk', hl, hb⟩
  · omega
  · obtain rfl : k = k' := by omega
    refine .inr ⟨n, rfl, by omega, hn, fun i hi hin => ?_⟩
    by_cases hi' : i = n
    · subst hi'; rw [compareV_good.self]; exact ⟨Int.le_refl _, fun _ => Nat.le_refl _⟩
    · have h1 := (hb i hi (by omega)).1
      have h2 : compareV ls[k] ls[n] < 0 := by have := compareV_good.anti ls[k] ls[n]; omega
      have := compareV_good.less' (z := ls[n]) h1 h2
      exact ⟨by omega, fun g => by omega⟩
theorem BestTo.done {ls : List Bs} {z : Int} (h : BestTo ls ls.length z) : BestOk ls z := by
  rcases h with ⟨h, rfl⟩ | ⟨k, e, hk, hl, hb⟩
  · exact .inl ⟨List.eq_nil_of_length_eq_zero h, rfl⟩
  · exact .inr ⟨k, e, hl, fun i hi => hb i hi hi⟩
end Go.Proofs.YtkcamfcjkjiijaaGreatDoor
namespace Go.Proofs.YtkcamfcjkjiijaaGreatDoor
open Go.RowKit
def holdsB (c : Int) (op : Bs) : Bool := decide (op = []) || decide (op = [60, 60]) && decide (c < 0) || decide (op = [60, 61]) && decide (c ≤ 0) || decide (op = [61]) && decide (c = 0) || decide (op = [62, 61]) && decide (0 ≤ c) || decide (op = [62, 62]) && decide (0 < c)
theorem holdsV_is (v op other : Bs) : holdsV v op other = holdsB (compareV v other) op := rfl
theorem emptyL (x : ByteArray) : x.toList.isEmpty = decide (x.data.toList = []) := by
  rw [ByteArray.toList_eq]; cases x.data.toList <;> simp
set_option maxRecDepth 100000 in
set_option maxHeartbeats 8000000 in
theorem holds_ref (a op b : ByteArray) (ha : a.size ≤ 4000) (hb : b.size ≤ 4000) (w : World) :
    Calls Tryz.prog 95 #[.string a, .string op, .string b] w fun e w' => e = .returned (.bool (holdsV a.data.toList op.data.toList b.data.toList)) ∧ Below w.heap.size w w' := by
  have C := fun w => compare_ref a b ha hb w
  rw [holdsV_is]
  have vc := compareV_good.vals a.data.toList b.data.toList
  generalize compareV a.data.toList b.data.toList = c at *
  obtain ⟨R, HR⟩ : ∃ R, Hid (holdsB c op.data.toList = R) := ⟨_, rfl⟩
  rw [HR.out]
  have s0 := emptyL op
  have s1 := eqTL op [60, 60]
  have s2 := eqTL op [60, 61]
  have s3 := eqTL op [61]
  have s4 := eqTL op [62, 61]
  have s5 := eqTL op [62, 62]
  have ways : op.data.toList = [] ∨ op.data.toList = [60, 60] ∨ op.data.toList = [60, 61] ∨ op.data.toList = [61] ∨ op.data.toList = [62, 61] ∨ op.data.toList = [62, 62] ∨ (op.data.toList ≠ [] ∧ op.data.toList ≠ [60, 60] ∧ op.data.toList ≠ [60, 61] ∧ op.data.toList ≠ [61] ∧ op.data.toList ≠ [62, 61] ∧ op.data.toList ≠ [62, 62]) := by
    by_cases h0 : op.data.toList = []
    · exact .inl h0
    · by_cases h1 : op.data.toList = [60, 60]
      · exact .inr (.inl h1)
      · by_cases h2 : op.data.toList = [60, 61]
        · exact .inr (.inr (.inl h2))
        · by_cases h3 : op.data.toList = [61]
          · exact .inr (.inr (.inr (.inl h3)))
          · by_cases h4 : op.data.toList = [62, 61]
            · exact .inr (.inr (.inr (.inr (.inl h4))))
            · by_cases h5 : op.data.toList = [62, 62]
              · exact .inr (.inr (.inr (.inr (.inr (.inl h5)))))
              · exact .inr (.inr (.inr (.inr (.inr (.inr ⟨h0, h1, h2, h3, h4, h5⟩)))))
  rcases ways with h | h | h | h | h | h | ⟨h, h1, h2, h3, h4, h5⟩
  case' inr.inr.inr.inr.inr.inr =>
    rw [decide_eq_false h] at s0
    rw [decide_eq_false h1] at s1
    rw [decide_eq_false h2] at s2
    rw [decide_eq_false h3] at s3
    rw [decide_eq_false h4] at s4
    rw [decide_eq_false h5] at s5
    have HF : Hid (false = R) := Lib.hid (by rw [← HR.out]; unfold holdsB; simp [h, h1, h2, h3, h4, h5])
    clear h h1 h2 h3 h4 h5 HR vc
    go_enter Tryz.func95, Tryz.ntmps95
    go_wp2_with (first | (go_at_call 108; refine (C _).mono ?_; rintro e w1 ⟨rfl, hb1⟩))
    go_ret
    exact ⟨retb HF.out, hb1⟩
  all_goals
    obtain rfl := strOf h
    clear h s0 s1 s2 s3 s4 s5
    rcases vc with vc | vc | vc
    all_goals
      subst vc
      go_enter Tryz.func95, Tryz.ntmps95
      go_wp2_with (first | (go_at_call 108; refine (C _).mono ?_; rintro e w1 ⟨rfl, hb1⟩))
      go_ret
      exact ⟨retb (by rw [← HR.out]; decide), hb1⟩
end Go.Proofs.YtkcamfcjkjiijaaGreatDoor
namespace Go.Proofs.YtkcamfcjkjiijaaGreatDoor
open Go.RowKit
/-- Two versions in memory, and the rest as it was. -/
abbrev Two (b : Nat) (x1 x2 : Int) (A1 B1 A2 B2 : ByteArray) (w W : World) : Prop :=
  W.cell? ⟨b, 0, none⟩ = some (.int .i64 x1) ∧ W.cell? ⟨b, 1, none⟩ = some (.string A1) ∧ W.cell? ⟨b, 2, none⟩ = some (.string B1) ∧
  W.cell? ⟨b + 1, 0, none⟩ = some (.int .i64 x2) ∧ W.cell? ⟨b + 1, 1, none⟩ = some (.string A2) ∧ W.cell? ⟨b + 1, 2, none⟩ = some (.string B2) ∧ Below w.heap.size w W
theorem Two.on {b : Nat} {x1 x2 : Int} {A1 B1 A2 B2 : ByteArray} {w W W1 : World} (h : Two b x1 x2 A1 B1 A2 B2 w W) (hb : Below W.heap.size W W1) : Two b x1 x2 A1 B1 A2 B2 w W1 := by
  obtain ⟨h0, h1, h2, h3, h4, h5, h6⟩ := h
  have l0 := World.block_lt_of_cell? W _ h0
  have l3 := World.block_lt_of_cell? W _ h3
  have k := (fun o => hb.cell (p := ⟨b, o, none⟩) l0)
  have k' := (fun o => hb.cell (p := ⟨b + 1, o, none⟩) l3)
  exact ⟨by rw [k]; exact h0, by rw [k]; exact h1, by rw [k]; exact h2, by rw [k']; exact h3, by rw [k']; exact h4, by rw [k']; exact h5, h6.trans (hb.mono h6.size)⟩
theorem Two.dr {b : Nat} {x1 x2 : Int} {A1 B1 A2 B2 : ByteArray} {w W : World} (h : Two b x1 x2 A1 B1 A2 B2 w W) : Two b x1 x2 A1 B1 A2 B2 w W.drew := h.on (Below.refl _ _).drew
theorem Two.al {b : Nat} {x1 x2 : Int} {A1 B1 A2 B2 : ByteArray} {w W : World} (h : Two b x1 x2 A1 B1 A2 B2 w W) (o : Obj) : Two b x1 x2 A1 B1 A2 B2 w (W.alloc o) := h.on ((Below.refl _ _).alloc (Nat.le_refl _) o)
theorem Two.ald {b : Nat} {x1 x2 : Int} {A1 B1 A2 B2 : ByteArray} {w W : World} (h : Two b x1 x2 A1 B1 A2 B2 w W) (o : Obj) : Two b x1 x2 A1 B1 A2 B2 w (W.alloc o).drew := (h.al o).dr
theorem Two.new (w w2 : World) (x1 x2 : Int) (A1 B1 A2 B2 : ByteArray) (t : TypeId) (hb : Below w.heap.size w w2) : Two w2.heap.size x1 x2 A1 B1 A2 B2 w ((w2.alloc (.cells #[.int .i64 x1, .string A1, .string B1] t)).alloc (.cells #[.int .i64 x2, .string A2, .string B2] t)) := by
  have p := (BoxV.new w2 x1 A1 B1 t).al (.cells #[.int .i64 x2, .string A2, .string B2] t)
  have q := BoxV.new (w2.alloc (.cells #[.int .i64 x1, .string A1, .string B1] t)) x2 A2 B2 t
  rw [World.size_alloc] at q
  exact ⟨p.c0, p.c1, p.c2, q.c0, q.c1, q.c2, (hb.alloc hb.size _).alloc (by have := hb.size; simp; omega) _⟩
theorem szA {w w2 : World} {o : Obj} (hb : Below (w.alloc o).heap.size (w.alloc o) w2) : w.heap.size + 1 ≤ w2.heap.size := by have := hb.size; simpa using this
theorem taken_parts (s : ByteArray) (hs : s.size ≤ 4000) : ∃ (z : Int) (U V : ByteArray), U.size ≤ 4000 ∧ V.size ≤ 4000 ∧ VerAt s z U V ∧
    ∀ w, LaidV w → Calls Tryz.prog 131 #[.string s] w fun e w' => e = .returned (.agg #[.int .i64 z, .string U, .string V]) ∧ Below w.heap.size w w' := by
  obtain ⟨z, U, V, k, hk, hz, hz', hU, hV, ok1, bad1, e1⟩ := parse_parts s hs
  have P := fun (w : World) (h : LaidV w) => parse_any s hs w h
  unfold ParsePost at P
  simp only [e1] at P
  have key : ∀ w, LaidV w → ∀ (z' : Int) (U' V' : ByteArray), (k = 0 → (z', U', V') = (z, U, V)) → (k ≠ 0 → (z', U', V') = (0, s, ⟨#[48]⟩)) → Calls Tryz.prog 131 #[.string s] w fun e w' => e = .returned (.agg #[.int .i64 z', .string U', .string V']) ∧ Below w.heap.size w w' := by
    intro w h z' U' V' hy hn
    have Q := P _ (LaidV.al (Lib.hid h) (.cells #[.int .i64 0, .string ⟨#[]⟩, .string ⟨#[]⟩] 147))
    have HR := Lib.hid (BoxV.new w 0 ⟨#[]⟩ ⟨#[]⟩ 147)
    have HB0 : Hid (Below w.heap.size w (w.alloc (.cells #[.int .i64 0, .string ⟨#[]⟩, .string ⟨#[]⟩] 147))) := Lib.hid ((Below.refl _ _).alloc (Nat.le_refl _) _)
    clear P ok1 bad1 e1 h
    rcases hk with rfl | rfl | rfl
    · have e := hy rfl
      simp only [Prod.mk.injEq] at e
      obtain ⟨rfl, rfl, rfl⟩ := e
      clear hy hn
      go_enter Tryz.func131, Tryz.ntmps131
      go_wp2_with (go_at_call 154; refine Q.mono ?_; rintro e w2 ⟨rfl, hb⟩; obtain ⟨r0, r1, r2, rf⟩ := (HR.out.on hb).al (.cells #[.int .i64 z', .string U', .string V'] 147); have hsz := szA hb; have HBX := Lib.hid ((fin HB0.out hb).alloc (fin HB0.out hb).size (.cells #[.int .i64 z', .string U', .string V'] 147)); clear hb Q)
      obtain ⟨k0, k1, k2, _⟩ := BoxV.put ⟨r0, r1, r2, rf⟩ z' U' V'
      exact bodyPost_ret (v := .agg #[.int .i64 z', .string U', .string V']) (by simp [results, Tryz.results131, go_sem, k0, k1, k2]) rfl ⟨rfl, putV_below HBX.out (Nat.le_refl _) _ _ _⟩
    all_goals
      have e := hn (by decide)
      simp only [Prod.mk.injEq] at e
      obtain ⟨rfl, rfl, rfl⟩ := e
      clear hy hn
      go_enter Tryz.func131, Tryz.ntmps131
      go_wp2_with (go_at_call 154; refine Q.mono ?_; rintro e w2 ⟨rfl, hb⟩; obtain ⟨r0, r1, r2, rf⟩ := (HR.out.on hb).al (.cells #[.int .i64 z, .string U, .string V] 147); have hsz := szA hb; have HBX := Lib.hid ((fin HB0.out hb).alloc (fin HB0.out hb).size (.cells #[.int .i64 z, .string U, .string V] 147)); clear hb Q)
      obtain ⟨k0, k1, k2, _⟩ := BoxV.put ⟨r0, r1, r2, rf⟩ 0 U' ⟨#[48]⟩
      exact bodyPost_ret (v := .agg #[.int .i64 0, .string U', .string ⟨#[48]⟩]) (by simp [results, Tryz.results131, go_sem, k0, k1, k2]) rfl ⟨rfl, putV_below HBX.out (Nat.le_refl _) _ _ _⟩
  by_cases h0 : k = 0
  · exact ⟨z, U, V, by omega, by omega, (ok1 h0).1, fun w h => key w h z U V (fun _ => rfl) (fun g => absurd h0 g)⟩
  · exact ⟨0, s, ⟨#[48]⟩, by omega, by decide, (bad1 h0).1, fun w h => key w h 0 s ⟨#[48]⟩ (fun g => absurd g h0) (fun _ => rfl)⟩
theorem or3 (b : Nat) (z q r : Int) (w : World) (h0 : w.cell? ⟨b, 0, none⟩ = some (.int .i64 z)) (h1 : w.cell? ⟨b, 1, none⟩ = some (.int .i64 q)) (h2 : w.cell? ⟨b, 2, none⟩ = some (.int .i64 r)) :
    Calls Tryz.prog 132 #[.slice (some ⟨b, 0, none⟩) 3 3] w fun e w' => e = .returned (.int .i64 (orI z (orI q r))) ∧ w = w' := by
  have := or_any b [z, q, r] 3 rfl (by decide) w (fun j x h => by
    match j, h with
    | 0, h => cases h; exact h0
    | 1, h => cases h; exact h1
    | 2, h => cases h; exact h2
    | j + 3, h => simp at h)
  have e : orL [z, q, r] = orI z (orI q r) := by
    unfold orL orL orL orL orI
    by_cases h : r = 0 <;> simp [h]
  rwa [e] at this
set_option maxRecDepth 100000 in
set_option maxHeartbeats 8000000 in
theorem compare_any (a b : ByteArray) (ha : a.size ≤ 4000) (hb : b.size ≤ 4000) (w : World) (h : LaidV w) :
    Calls Tryz.prog 109 #[.string a, .string b] w fun e w' => e = .returned (.int .i64 (compareV a.data.toList b.data.toList)) ∧ Below w.heap.size w w' := by
  obtain ⟨x1, A1, B1, hA1, hB1, HA, T1⟩ := taken_parts a ha
  obtain ⟨x2, A2, B2, hA2, hB2, HC, T2⟩ := taken_parts b hb
  have hcp := compare_parts HA HC
  have O1 := fun w => order_any A1 A2 hA1 hA2 w
  have O2 := fun w => order_any B1 B2 hB1 hB2 w
  have CI := fun x y w => cmpI x y w
  have CC := fun w => cmpI x1 x2 w
  generalize sgn x1 x2 = f at *
  generalize order A1.data.toList A2.data.toList = c at *
  generalize order B1.data.toList B2.data.toList = d at *
  have HF : Hid (orI f (orI c d) = compareV a.data.toList b.data.toList) := Lib.hid (by rw [hcp]; unfold orI; rfl)
  have HL := Lib.hid h
  clear hcp HA HC h CI
  generalize compareV a.data.toList b.data.toList = R at *
  go_enter Tryz.func109, Tryz.ntmps109
  go_wp2_with (go_at_call 131; first
    | ((with_reducible refine (T1 _ HL.out).mono ?_); clear T1; rintro e w1 ⟨rfl, hb1⟩; have HB1 := Lib.hid hb1; have HL1 := Lib.hid (HL.out.on hb1); clear hb1)
    | ((with_reducible refine (T2 _ HL1.out).mono ?_); clear T2; rintro e w2 ⟨rfl, hb2⟩; have HB2 := Lib.hid (fin HB1.out hb2); clear hb2))
  have HT := Two.new w w2 x1 x2 A1 B1 A2 B2 147 HB2.out
  obtain ⟨W0, hW0⟩ : ∃ W0, W0 = (w2.alloc (.cells #[.int .i64 x1, .string A1, .string B1] 147)).alloc (.cells #[.int .i64 x2, .string A2, .string B2] 147) := ⟨_, rfl⟩
  rw [← hW0] at HT ⊢
  generalize w2.heap.size = b0 at *
  clear hW0 HB2 HB1 HL HL1 ha hb hA1 hB1 hA2 hB2
  obtain ⟨h0, h1, h2, h3, h4, h5, h6⟩ := HT
  go_region_held3 (fun W => W.cell? ⟨b0, 0, none⟩ = some (.int .i64 x1) ∧ W.cell? ⟨b0, 1, none⟩ = some (.string A1) ∧ W.cell? ⟨b0, 2, none⟩ = some (.string B1) ∧
  W.cell? ⟨b0 + 1, 0, none⟩ = some (.int .i64 x2) ∧ W.cell? ⟨b0 + 1, 1, none⟩ = some (.string A2) ∧ W.cell? ⟨b0 + 1, 2, none⟩ = some (.string B2) ∧ Below w.heap.size w W)
    (first | assumption | exact Two.dr ⟨h0, h1, h2, h3, h4, h5, h6⟩ | exact ⟨h0, h1, h2, h3, h4, h5, h6⟩ | exact Two.on (by assumption) (by assumption) | exact Two.dr (by assumption) | exact Two.al (by assumption) _ | exact Two.ald (by assumption) _)
    (first | (go_at_call 133; (with_reducible refine (CC _).mono ?_); rintro e w3 ⟨rfl, rfl⟩) | (go_at_call 134; first | ((with_reducible refine (O1 _).mono ?_); rintro e w3 ⟨rfl, hb⟩) | ((with_reducible refine (O2 _).mono ?_); rintro e w3 ⟨rfl, hb⟩)) | (go_at_call 132; refine (or3 _ f c d _ (by simp [World.cell?_alloc_new]) (by simp [World.cell?_alloc_new]) (by simp [World.cell?_alloc_new])).mono ?_; rintro e w3 ⟨rfl, rfl⟩))
  all_goals
    rename_i hHeld
    go_wp2
    go_ret
    exact ⟨reti HF.out, hHeld.2.2.2.2.2.2⟩
end Go.Proofs.YtkcamfcjkjiijaaGreatDoor
namespace Go.Proofs.YtkcamfcjkjiijaaGreatDoor
open Go.RowKit Go.Sort
end Go.Proofs.YtkcamfcjkjiijaaGreatDoor
namespace Go.Proofs.YtkcamfcjkjiijaaGreatDoor
open Go.RowKit
set_option maxRecDepth 100000 in
set_option maxHeartbeats 8000000 in
theorem holds_any (a op b : ByteArray) (ha : a.size ≤ 4000) (hb : b.size ≤ 4000) (w : World) (h : LaidV w) :
    Calls Tryz.prog 96 #[.string a, .string op, .string b] w fun e w' => e = .returned (.bool (holdsV a.data.toList op.data.toList b.data.toList)) ∧ Below w.heap.size w w' := by
  have C := compare_any a b ha hb w h
  clear h
  rw [holdsV_is]
  have vc := compareV_good.vals a.data.toList b.data.toList
  generalize compareV a.data.toList b.data.toList = c at *
  obtain ⟨R, HR⟩ : ∃ R, Hid (holdsB c op.data.toList = R) := ⟨_, rfl⟩
  rw [HR.out]
  have s0 := emptyL op
  have s1 := eqTL op [60, 60]
  have s2 := eqTL op [60, 61]
  have s3 := eqTL op [61]
  have s4 := eqTL op [62, 61]
  have s5 := eqTL op [62, 62]
  have ways : op.data.toList = [] ∨ op.data.toList = [60, 60] ∨ op.data.toList = [60, 61] ∨ op.data.toList = [61] ∨ op.data.toList = [62, 61] ∨ op.data.toList = [62, 62] ∨ (op.data.toList ≠ [] ∧ op.data.toList ≠ [60, 60] ∧ op.data.toList ≠ [60, 61] ∧ op.data.toList ≠ [61] ∧ op.data.toList ≠ [62, 61] ∧ op.data.toList ≠ [62, 62]) := by
    by_cases h0 : op.data.toList = []
    · exact .inl h0
    · by_cases h1 : op.data.toList = [60, 60]
      · exact .inr (.inl h1)
      · by_cases h2 : op.data.toList = [60, 61]
        · exact .inr (.inr (.inl h2))
        · by_cases h3 : op.data.toList = [61]
          · exact .inr (.inr (.inr (.inl h3)))
          · by_cases h4 : op.data.toList = [62, 61]
            · exact .inr (.inr (.inr (.inr (.inl h4))))
            · by_cases h5 : op.data.toList = [62, 62]
              · exact .inr (.inr (.inr (.inr (.inr (.inl h5)))))
              · exact .inr (.inr (.inr (.inr (.inr (.inr ⟨h0, h1, h2, h3, h4, h5⟩)))))
  rcases ways with h | h | h | h | h | h | ⟨h, h1, h2, h3, h4, h5⟩
  case' inr.inr.inr.inr.inr.inr =>
    rw [decide_eq_false h] at s0
    rw [decide_eq_false h1] at s1
    rw [decide_eq_false h2] at s2
    rw [decide_eq_false h3] at s3
    rw [decide_eq_false h4] at s4
    rw [decide_eq_false h5] at s5
    have HF : Hid (false = R) := Lib.hid (by rw [← HR.out]; unfold holdsB; simp [h, h1, h2, h3, h4, h5])
    clear h h1 h2 h3 h4 h5 HR vc
    go_enter Tryz.func96, Tryz.ntmps96
    go_wp2_with (first | (go_at_call 109; refine C.mono ?_; rintro e w1 ⟨rfl, hb1⟩))
    go_ret
    first | exact ⟨retb HF.out, hb1⟩ | exact ⟨retb HF.out, Below.refl _ _⟩
  all_goals
    obtain rfl := strOf h
    clear h s0 s1 s2 s3 s4 s5
    rcases vc with vc | vc | vc
    all_goals
      subst vc
      go_enter Tryz.func96, Tryz.ntmps96
      go_wp2_with (first | (go_at_call 109; refine C.mono ?_; rintro e w1 ⟨rfl, hb1⟩))
      go_ret
      first | exact ⟨retb (by rw [← HR.out]; decide), hb1⟩ | exact ⟨retb (by rw [← HR.out]; decide), Below.refl _ _⟩
end Go.Proofs.YtkcamfcjkjiijaaGreatDoor
