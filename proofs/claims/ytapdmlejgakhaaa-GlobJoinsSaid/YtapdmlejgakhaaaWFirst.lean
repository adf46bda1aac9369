/-
  first, steps, Right, matcher, Match of a pattern: what each returns; nothing old turns.
-/
import Derived.Test.YtapdmlejgakhaaaWSet
namespace Go.Proofs.Ytapdmlejgakhaaa
open Go.RowKit
set_option maxHeartbeats 1000000 in
theorem any1_any (c : UInt8) (W : World) : Calls Try.prog 21 #[.int .u8 c.toNat] W fun e w' => e = .returned (.bool true) ∧ Below W.heap.size W w' := by
  generalize c.toNat = k
  go_enter Try.func21, Try.ntmps21
  go_wp2
  go_ret
  exact ⟨rfl, Below.refl _ _⟩
theorem u8_beq (c d : UInt8) : ((c.toNat : Int) == (d.toNat : Int)) = (c == d) := by
  rw [Bool.eq_iff_iff, beq_iff_eq, beq_iff_eq]
  constructor
  · intro h; exact UInt8.toNat_inj.1 (by omega)
  · intro h; rw [h]
set_option maxHeartbeats 1000000 in
theorem lit2_any (g : Nat) (c d : UInt8) (W : World) (h : W.cell? ⟨g, 0, none⟩ = some (.int .u8 d.toNat)) : Calls Try.prog 24 #[.int .u8 c.toNat, .pointer (some ⟨g, 0, none⟩)] W fun e w' => e = .returned (.bool (c == d)) ∧ Below W.heap.size W w' := by
  have HE := Lib.hid (u8_beq c d)
  generalize c.toNat = k at *
  generalize d.toNat = n at *
  go_enter Try.func24, Try.ntmps24
  go_wp2
  go_ret
  exact ⟨retb HE.out, Below.refl _ _⟩
theorem fits_any1 (W : World) : FitsP W (fun _ => true) (.func (.func 21) #[] #[]) := ⟨_, _, rfl, enters_of Try.func21 (by kernel_rfl) rfl, fun V c _ => any1_any c V⟩
theorem fits_lit2 {W : World} {g : Nat} {d : UInt8} (h : W.heap[g]? = some (.cells #[.int .u8 d.toNat] 5 (0, 0))) : FitsP W (fun b => b == d) (.func (.func 24) #[] #[.pointer (some ⟨g, 0, none⟩)]) := ⟨_, _, rfl, enters_of Try.func24 (by kernel_rfl) rfl, fun V c hb => lit2_any g c d V (by rw [cellRow V g 0 _ _ _ (hb.2 g _ _ _ h (by decide))]; rfl)⟩
/-- The result's box behind a call: as it was. -/
theorem res_on {w w2 : World} (hb : Below (w.alloc oStep).heap.size (w.alloc oStep) w2) : w2.heap[w.heap.size]? = some (.cells #[.bool false, .nilFunc] 44 (0, 0)) ∧ Below w.heap.size w w2 ∧ w.heap.size + 1 ≤ w2.heap.size :=
  ⟨(hb.block _ (by rw [World.size_alloc]; omega)).trans (heap_alloc_new w _), ((Below.refl w.heap.size w).alloc (Nat.le_refl _) oStep).trans (hb.mono (by rw [World.size_alloc]; omega)), by have := hb.size; rw [World.size_alloc] at this; exact this⟩
theorem res_cells {W : World} {n : Nat} {x y : Value} {t : TypeId} (h : W.heap[n]? = some (.cells #[x, y] t (0, 0))) : W.cell? ⟨n, 0, none⟩ = some x ∧ W.cell? ⟨n, 1, none⟩ = some y ∧ ∀ i, W.frozen? ⟨n, i, none⟩ = false :=
  ⟨by rw [cellRow W n 0 _ _ _ h]; rfl, by rw [cellRow W n 1 _ _ _ h]; rfl, fun i => frozen_of_row _ n i _ _ h⟩
theorem res_al {w w2 : World} {x y v : Value} {n : Nat} {t u : TypeId} (h : w2.heap[n]? = some (.cells #[x, y] t (0, 0))) (hB : Below w.heap.size w w2) : (w2.alloc (.cells #[v] u)).heap[n]? = some (.cells #[x, y] t (0, 0)) ∧ Below w.heap.size w (w2.alloc (.cells #[v] u)) ∧ (w2.alloc (.cells #[v] u)).heap[w2.heap.size]? = some (.cells #[v] u (0, 0)) :=
  ⟨(((Below.refl w2.heap.size w2).alloc (Nat.le_refl _) (.cells #[v] u)).block n (Array.getElem?_eq_some_iff.1 h).1).trans h, hB.alloc hB.size _, heap_alloc_new w2 _⟩
theorem res_put {w w2 : World} {n : Nat} {b0 v0 : Value} (h : w2.heap[n]? = some (.cells #[b0, v0] 44 (0, 0))) (hn : w.heap.size ≤ n) (hB : Below w.heap.size w w2) (b v : Value) :
    ((w2.setCell ⟨n, 0, none⟩ b).setCell ⟨n, 1, none⟩ v).cell? ⟨n, 0, none⟩ = some b ∧ ((w2.setCell ⟨n, 0, none⟩ b).setCell ⟨n, 1, none⟩ v).cell? ⟨n, 1, none⟩ = some v ∧ Below w.heap.size w ((w2.setCell ⟨n, 0, none⟩ b).setCell ⟨n, 1, none⟩ v) ∧ Kp w2 ((w2.setCell ⟨n, 0, none⟩ b).setCell ⟨n, 1, none⟩ v) := by
  obtain ⟨c0, c1, -⟩ := res_cells h
  refine ⟨cell_put (World.cell?_setCell_same _ _ _ c0) (.inr (by decide)), World.cell?_setCell_same _ _ _ (cell_put (i' := 0) c1 (.inr (by decide))), (hB.setCell (p := ⟨n, 0, none⟩) hn _).setCell (p := ⟨n, 1, none⟩) hn _, by rw [World.size_setCell, World.size_setCell]; exact Nat.le_refl _, fun k cs t fz hk ht => ?_⟩
  have hne : n ≠ k := fun e => by
    subst e
    rw [h] at hk
    exact ht (by cases hk; rfl)
  exact heap_put (heap_put hk hne _) hne _
def FirstP (s : Bs) (w : World) (e : Ending) (w' : World) : Prop := (match firstL s with
  | some (x, r) => ∃ fv, e = .returned (.tuple #[.agg #[.bool x.isStar, fv], .string (bsT r), .bool true]) ∧ FitW w' (x, fv)
  | none => ∃ b v t, e = .returned (.tuple #[.agg #[.bool b, v], .string t, .bool false]) ∧ (v = .nilFunc ∨ ∃ g lb, v = .func (.func g) #[] lb)) ∧ Below w.heap.size w w'
theorem setP_some {s : Bs} {x : Stp} {r : Bs} (h : setL s = some (x, r)) {w w' : World} {e : Ending} (hp : SetP s w e w') : (∃ fv, e = .returned (.tuple #[.agg #[.bool x.isStar, fv], .string (bsT r), .bool true]) ∧ FitW w' (x, fv)) ∧ Below w.heap.size w w' := by
  unfold SetP at hp; rw [h] at hp; exact hp
theorem setP_none {s : Bs} (h : setL s = none) {w w' : World} {e : Ending} (hp : SetP s w e w') : (∃ t, e = .returned (.tuple #[.agg #[.bool false, .nilFunc], .string t, .bool false])) ∧ Below w.heap.size w w' := by
  unfold SetP at hp; rw [h] at hp; exact hp
theorem u8_ne {c : UInt8} {k : Nat} (hk : k < 256) (h : c ≠ UInt8.ofNat k) : ((c.toNat : Int) == (k : Int)) = false := by
  rw [beq_eq_false_iff_ne]
  intro e
  apply h
  apply UInt8.toNat_inj.1
  rw [UInt8.toNat_ofNat']
  omega
theorem setL_one {s : Bs} {x : Stp} {r : Bs} (h : setL s = some (x, r)) : ∃ f, x = .one f := by
  unfold setL at h
  rw [Option.map_eq_some_iff] at h
  obtain ⟨y, -, hy⟩ := h
  exact ⟨_, (congrArg Prod.fst hy).symm⟩
theorem FitsP.form {w : World} {f : UInt8 → Bool} {v : Value} (h : FitsP w f v) : ∃ g lb, v = .func (.func g) #[] lb := by
  obtain ⟨g, lb, e, -⟩ := h; exact ⟨g, lb, e⟩
set_option maxRecDepth 100000 in
set_option maxHeartbeats 4000000 in
theorem first_any (s : ByteArray) (h0 : 0 < s.size) (w : World) : Calls Try.prog 16 #[.string s] w (FirstP s.data.toList w) := by
  have hc : s.data.toList = s[0] :: s.data.toList.tail := by
    have := dropC s 0 h0
    rw [List.drop_zero] at this
    rw [this]; rfl
  have h1 : 1 ≤ s.size := by omega
  have c0 := fun (x : Value) => boxV2 w (.bool false) .nilFunc 44
  have cf : ∀ i, (w.alloc oStep).frozen? ⟨w.heap.size, i, none⟩ = false := fun i => frozen_of_row _ w.heap.size i _ _ (heap_alloc_new w _)
  obtain ⟨z0, z1⟩ := boxV2 w (.bool false) .nilFunc 44
  clear c0
  have HX := Lib.hid (ext1 s)
  by_cases e42 : s[0] = 42
  · have g42 : ((s[0].toNat : Int) == 42) = true := by rw [e42]; rfl
    have HF : Hid (firstL s.data.toList = some (.star, s.data.toList.tail)) := Lib.hid (by rw [hc, e42]; rfl)
    clear hc e42
    go_enter Try.func16, Try.ntmps16
    go_wp2
    go_region
    go_wp2
    obtain ⟨k0, k1⟩ := boxV2 w (.bool true) .nilFunc 44
    exact bodyPost_ret (v := .tuple #[.agg #[.bool true, .nilFunc], .string (s.extract 1 s.size), .bool true]) (by simp [results, Try.results16, go_sem, k0, k1]) rfl (by
      unfold FirstP
      rw [HF.out, HX.out]
      exact ⟨⟨_, rfl, fun _ => rfl, fun f hf => by cases hf⟩, ((Below.refl _ _).alloc (Nat.le_refl _) _).drew⟩)
  have g42 : ((s[0].toNat : Int) == 42) = false := u8_ne (k := 42) (by decide) e42
  by_cases e63 : s[0] = 63
  · have g63 : ((s[0].toNat : Int) == 63) = true := by rw [e63]; rfl
    have HF : Hid (firstL s.data.toList = some (.one (fun _ => true), s.data.toList.tail)) := Lib.hid (by rw [hc, e63]; rfl)
    clear hc e63 e42
    go_enter Try.func16, Try.ntmps16
    go_wp2
    go_region
    go_wp2
    obtain ⟨k0, k1⟩ := boxV2 w (.bool false) (.func (.func 21) #[] #[]) 44
    exact bodyPost_ret (v := .tuple #[.agg #[.bool false, (.func (.func 21) #[] #[])], .string (s.extract 1 s.size), .bool true]) (by simp [results, Try.results16, go_sem, k0, k1]) rfl (by
      unfold FirstP
      rw [HF.out, HX.out]
      exact ⟨⟨_, rfl, (fun h => by cases h), fun f hf => by cases hf; exact fits_any1 _⟩, ((Below.refl _ _).alloc (Nat.le_refl _) _).drew⟩)
  have g63 : ((s[0].toNat : Int) == 63) = false := u8_ne (k := 63) (by decide) e63
  have HBA := Lib.hid ((Below.refl w.heap.size w).alloc (Nat.le_refl _) oStep)
  by_cases e91 : s[0] = 91
  · have g91 : ((s[0].toNat : Int) == 91) = true := by rw [e91]; rfl
    have hE : (s.extract 1 s.size).data.toList = s.data.toList.tail := by rw [HX.out, bytesOf]
    have hf : firstL s.data.toList = setL (s.extract 1 s.size).data.toList := by
      have : firstL s.data.toList = firstL (91 :: s.data.toList.tail) := by rw [← e91, ← hc]
      rw [this, hE]; rfl
    obtain ⟨E, hEE⟩ : ∃ E, s.extract 1 s.size = E := ⟨_, rfl⟩
    rw [hEE] at hf
    have HEE := Lib.hid hEE
    clear hE hEE
    cases hs : setL E.data.toList with
    | none =>
      have HF : Hid (firstL s.data.toList = none) := Lib.hid (hf.trans hs)
      have M1 := fun W => (set_any E W).mono (fun e w' hp => setP_none hs hp)
      have M2 : ∀ W, Calls Try.prog 22 #[.string (s.extract 1 s.size)] W fun e w' => (∃ t, e = .returned (.tuple #[.agg #[.bool false, .nilFunc], .string t, .bool false])) ∧ Below W.heap.size W w' := fun W => by rw [HEE.out]; exact M1 W
      clear hc e91 e63 e42 hf hs M1
      go_enter Try.func16, Try.ntmps16
      go_wp2_with (go_at_call 22; (with_reducible refine (M2 _).mono ?_); rintro e w2 ⟨⟨t, rfl⟩, hb⟩; obtain ⟨hn, hb2, -⟩ := res_on hb; have HN := Lib.hid hn; obtain ⟨z0, z1, zf⟩ := res_cells hn; have HB := Lib.hid hb2; clear hb hb2 hn)
      obtain ⟨k0, k1, HB2, -⟩ := res_put HN.out (Nat.le_refl _) HB.out (.bool false) .nilFunc
      exact bodyPost_ret (v := .tuple #[.agg #[.bool false, .nilFunc], .string t, .bool false]) (by simp [results, Try.results16, go_sem, k0, k1]) rfl (by
        unfold FirstP
        rw [HF.out]
        exact ⟨⟨_, _, _, rfl, .inl rfl⟩, HB2⟩)
    | some p =>
      obtain ⟨x, r⟩ := p
      obtain ⟨f, rfl⟩ := setL_one hs
      have HF : Hid (firstL s.data.toList = some (.one f, r)) := Lib.hid (hf.trans hs)
      have M1 := fun W => (set_any E W).mono (fun e w' hp => setP_some hs hp)
      have M2 : ∀ W, Calls Try.prog 22 #[.string (s.extract 1 s.size)] W fun e w' => (∃ g lb, e = .returned (.tuple #[.agg #[.bool false, .func (.func g) #[] lb], .string (bsT r), .bool true]) ∧ FitsP w' f (.func (.func g) #[] lb)) ∧ Below W.heap.size W w' := fun W => by
        rw [HEE.out]
        exact (M1 W).mono (fun e w' ⟨⟨fv, he, hw⟩, hb⟩ => by
          have hf := hw.2 f rfl
          obtain ⟨g, lb, rfl⟩ := hf.form
          exact ⟨⟨g, lb, he, hf⟩, hb⟩)
      have HP : Hid (∀ fv w', FitsP w' f fv → Below w.heap.size w w' → FirstP s.data.toList w (.returned (.tuple #[.agg #[.bool false, fv], .string (bsT r), .bool true])) w') := Lib.hid (fun fv w' h1 h2 => by
        unfold FirstP
        rw [HF.out]
        exact ⟨⟨fv, rfl, (fun h => by cases h), fun f' hf => by cases hf; exact h1⟩, h2⟩)
      have HK : Hid (∀ fv W W', FitsP W f fv → Kp W W' → FitsP W' f fv) := Lib.hid (fun fv W W' h1 h2 => h1.kp h2)
      clear hc e91 e63 e42 hf hs M1 HF
      generalize bsT r = R at *
      go_enter Try.func16, Try.ntmps16
      go_wp2_with (go_at_call 22; (with_reducible refine (M2 _).mono ?_); rintro e w2 ⟨⟨g, lb, rfl, hfv⟩, hb⟩; obtain ⟨hn, hb2, -⟩ := res_on hb; have HN := Lib.hid hn; have HFV := Lib.hid hfv; obtain ⟨z0, z1, zf⟩ := res_cells hn; have HB := Lib.hid hb2; clear hb hb2 hn hfv)
      obtain ⟨k0, k1, HB2, HKP⟩ := res_put HN.out (Nat.le_refl _) HB.out (.bool false) (.func (.func g) #[] lb)
      exact bodyPost_ret (v := .tuple #[.agg #[.bool false, .func (.func g) #[] lb], .string R, .bool true]) (by simp [results, Try.results16, go_sem, k0, k1]) rfl (HP.out _ _ (HK.out _ _ _ HFV.out HKP) HB2)
  have g91 : ((s[0].toNat : Int) == 91) = false := u8_ne (k := 91) (by decide) e91
  have hf : firstL s.data.toList = (litL s.data.toList).map fun y => (litS y.1, y.2) := by
    rw [hc]; exact firstL_lit e42 e63 e91
  cases hl : litL s.data.toList with
  | none =>
    have HF : Hid (firstL s.data.toList = none) := Lib.hid (by rw [hf, hl]; rfl)
    have M1 := fun W => (lit_any s W).mono (fun e w' hp => litP_none hl hp)
    clear hc e91 e63 e42 hf hl
    go_enter Try.func16, Try.ntmps16
    go_wp2_with (go_at_call 23; (with_reducible refine (M1 _).mono ?_); rintro e w2 ⟨rfl, hb⟩; obtain ⟨hn0, hb0, -⟩ := res_on hb; obtain ⟨hn, hb2, hn2⟩ := res_al (v := .int .u8 0) (u := 5) hn0 hb0; have HN := Lib.hid hn; have HN2 := Lib.hid hn2; obtain ⟨z0, z1, zf⟩ := res_cells hn; have HB := Lib.hid hb2; clear hb hb2 hn hn0 hb0 hn2)
    obtain ⟨k0, k1, HB2, -⟩ := res_put HN.out (Nat.le_refl _) HB.out (.bool false) (.func (.func 24) #[] #[.pointer (some ⟨w2.heap.size, 0, none⟩)])
    exact bodyPost_ret (v := .tuple #[.agg #[.bool false, .func (.func 24) #[] #[.pointer (some ⟨w2.heap.size, 0, none⟩)]], .string ⟨#[]⟩, .bool false]) (by simp [results, Try.results16, go_sem, k0, k1]) rfl (by
      unfold FirstP
      rw [HF.out]
      exact ⟨⟨_, _, _, rfl, .inr ⟨_, _, rfl⟩⟩, HB2⟩)
  | some p =>
    obtain ⟨c, r⟩ := p
    have HF : Hid (firstL s.data.toList = some (litS c, r)) := Lib.hid (by rw [hf, hl]; rfl)
    have M1 := fun W => (lit_any s W).mono (fun e w' hp => litP_some hl hp)
    have HP : Hid (∀ fv w', FitsP w' (fun b => b == c) fv → Below w.heap.size w w' → FirstP s.data.toList w (.returned (.tuple #[.agg #[.bool false, fv], .string (bsT r), .bool true])) w') := Lib.hid (fun fv w' h1 h2 => by
      unfold FirstP
      rw [HF.out]
      exact ⟨⟨fv, rfl, (fun h => by cases h), fun f hf => by cases hf; exact h1⟩, h2⟩)
    have HK : Hid (∀ W W' g, W.heap[g]? = some (.cells #[.int .u8 c.toNat] 5 (0, 0)) → Kp W W' → FitsP W' (fun b => b == c) (.func (.func 24) #[] #[.pointer (some ⟨g, 0, none⟩)])) := Lib.hid (fun W W' g h1 h2 => (fits_lit2 h1).kp h2)
    clear hc e91 e63 e42 hf hl HF
    generalize bsT r = R at *
    generalize c.toNat = k at *
    go_enter Try.func16, Try.ntmps16
    go_wp2_with (go_at_call 23; (with_reducible refine (M1 _).mono ?_); rintro e w2 ⟨rfl, hb⟩; obtain ⟨hn0, hb0, -⟩ := res_on hb; obtain ⟨hn, hb2, hn2⟩ := res_al (v := .int .u8 k) (u := 5) hn0 hb0; have HN := Lib.hid hn; have HN2 := Lib.hid hn2; obtain ⟨z0, z1, zf⟩ := res_cells hn; have HB := Lib.hid hb2; clear hb hb2 hn hn0 hb0 hn2)
    obtain ⟨k0, k1, HB2, HKP⟩ := res_put HN.out (Nat.le_refl _) HB.out (.bool false) (.func (.func 24) #[] #[.pointer (some ⟨w2.heap.size, 0, none⟩)])
    exact bodyPost_ret (v := .tuple #[.agg #[.bool false, .func (.func 24) #[] #[.pointer (some ⟨w2.heap.size, 0, none⟩)]], .string R, .bool true]) (by simp [results, Try.results16, go_sem, k0, k1]) rfl (HP.out _ _ (HK.out _ _ _ HN2.out HKP) HB2)
end Go.Proofs.Ytapdmlejgakhaaa
