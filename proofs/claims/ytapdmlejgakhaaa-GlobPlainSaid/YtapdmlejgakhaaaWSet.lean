/-
  set of a pattern: what it returns; nothing old turns.
-/
import Derived.Test.YtapdmlejgakhaaaWArr
namespace Go.Proofs.Ytapdmlejgakhaaa
open Go.RowKit
def SetP (s : Bs) (w : World) (e : Ending) (w' : World) : Prop := (match setL s with
  | some (x, r) => ∃ fv, e = .returned (.tuple #[.agg #[.bool x.isStar, fv], .string (bsT r), .bool true]) ∧ FitW w' (x, fv)
  | none => ∃ t, e = .returned (.tuple #[.agg #[.bool false, .nilFunc], .string t, .bool false])) ∧ Below w.heap.size w w'
structure SetI (w W : World) (neg : Bool) (G : Nat → Bool) : Prop where
  below : Below w.heap.size w W
  size : w.heap.size + 3 ≤ W.heap.size
  z0 : W.cell? ⟨w.heap.size, 0, none⟩ = some (.bool false)
  z1 : W.cell? ⟨w.heap.size, 1, none⟩ = some .nilFunc
  fz : ∀ i, W.frozen? ⟨w.heap.size, i, none⟩ = false
  n : W.heap[w.heap.size + 1]? = some (.cells #[.bool neg] 4 (0, 0))
  arr : ArrB W (w.heap.size + 1 + 1) G
theorem heap_put {W : World} {g b i : Nat} {o : Obj} (h : W.heap[g]? = some o) (hb : b ≠ g) (v : Value) : (W.setCell ⟨b, i, none⟩ v).heap[g]? = some o := by
  rw [← h]
  simp [World.setCell, Array.getElem?_modify, hb]
theorem SetI.on {w W W' : World} {neg : Bool} {G : Nat → Bool} (h : SetI w W neg G) (hb : Below W.heap.size W W') : SetI w W' neg G := by
  have hs := h.size
  exact ⟨h.below.trans (hb.mono h.below.size), Nat.le_trans h.size hb.size, (hb.cell (p := ⟨w.heap.size, 0, none⟩) (by show w.heap.size < _; omega)).trans h.z0, (hb.cell (p := ⟨w.heap.size, 1, none⟩) (by show w.heap.size < _; omega)).trans h.z1, fun i => (hb.frozen (p := ⟨w.heap.size, i, none⟩) (by show w.heap.size < _; omega)).trans (h.fz i), (hb.block _ (by omega)).trans h.n, h.arr.on hb⟩
theorem SetI.set {w W : World} {neg : Bool} {G : Nat → Bool} (h : SetI w W neg G) (k : Nat) : SetI w (W.setCell ⟨w.heap.size + 1 + 1, k, none⟩ (.bool true)) neg (fun x => G x || decide (x = k)) := by
  have o : ∀ (b i : Nat) (v : Value), b ≠ w.heap.size + 1 + 1 → W.cell? ⟨b, i, none⟩ = some v → (W.setCell ⟨w.heap.size + 1 + 1, k, none⟩ (.bool true)).cell? ⟨b, i, none⟩ = some v := fun b i v hb hv => (World.cell?_setCell_other _ _ _ _ (fun e => hb (by rw [Addr.mk.injEq] at e; exact e.1.symm))).trans hv
  exact ⟨h.below.setCell (p := ⟨w.heap.size + 1 + 1, k, none⟩) (by show w.heap.size ≤ w.heap.size + 1 + 1; omega) _, by rw [World.size_setCell]; exact h.size, o _ _ _ (by omega) h.z0, o _ _ _ (by omega) h.z1, fun i => by rw [World.frozen?_setCell]; exact h.fz i, heap_put h.n (by omega) _, h.arr.set k⟩
theorem SetI.ext {w W : World} {neg : Bool} {G G' : Nat → Bool} (h : SetI w W neg G) (he : ∀ k, k < 256 → G k = G' k) : SetI w W neg G' := ⟨h.below, h.size, h.z0, h.z1, h.fz, h.n, h.arr.ext he⟩
abbrev oStep : Obj := .cells #[.bool false, .nilFunc] 44
theorem SetI.new (w : World) (neg : Bool) : SetI w (((w.alloc oStep).alloc (.cells #[.bool neg] 4)).alloc (.cells Z256 54)) neg (fun _ => false) := by
  have B1 := (Below.refl w.heap.size w).alloc (Nat.le_refl _) oStep
  have B2 := B1.alloc B1.size (.cells #[.bool neg] 4)
  have B3 := B2.alloc B2.size (.cells Z256 54)
  have C2 := (Below.refl (w.alloc oStep).heap.size (w.alloc oStep)).alloc (Nat.le_refl _) (.cells #[.bool neg] 4)
  have C3 := C2.alloc C2.size (.cells Z256 54)
  have D3 := (Below.refl ((w.alloc oStep).alloc (.cells #[.bool neg] 4)).heap.size ((w.alloc oStep).alloc (.cells #[.bool neg] 4))).alloc (Nat.le_refl _) (.cells Z256 54)
  obtain ⟨x0, x1⟩ := boxV2 w (.bool false) .nilFunc 44
  have y0 := heap_alloc_new (w.alloc oStep) (.cells #[.bool neg] 4)
  have hl : w.heap.size < (w.alloc oStep).heap.size := by rw [World.size_alloc]; omega
  have hl2 : w.heap.size + 1 < ((w.alloc oStep).alloc (.cells #[.bool neg] 4)).heap.size := by rw [World.size_alloc, World.size_alloc]; omega
  rw [World.size_alloc] at y0
  have a := ArrB.new ((w.alloc oStep).alloc (.cells #[.bool neg] 4))
  rw [World.size_alloc, World.size_alloc] at a
  exact ⟨B3, by simp only [World.size_alloc]; omega, (C3.cell (p := ⟨w.heap.size, 0, none⟩) hl).trans x0, (C3.cell (p := ⟨w.heap.size, 1, none⟩) hl).trans x1, fun i => (C3.frozen (p := ⟨w.heap.size, i, none⟩) hl).trans (frozen_of_row _ w.heap.size i _ _ (heap_alloc_new w _)), (D3.block _ hl2).trans y0, a⟩
theorem up_next {G : Nat → Bool} {a j : Nat} (h : a ≤ j) (k : Nat) : ((G k || (decide (a ≤ k) && decide (k < j))) || decide (k = j)) = (G k || (decide (a ≤ k) && decide (k < j + 1))) := by
  by_cases e : k = j
  · subst e
    rw [decide_eq_true (show a ≤ k from h), decide_eq_true (show k < k + 1 by omega), decide_eq_true rfl]; simp
  · rw [decide_eq_false e, Bool.or_false]
    by_cases g : k < j
    · rw [decide_eq_true g, decide_eq_true (show k < j + 1 by omega)]
    · rw [decide_eq_false g, decide_eq_false (show ¬ k < j + 1 by omega)]
theorem up_done (F : UInt8 → Bool) (a b : UInt8) {j : Nat} (h : j = b.toNat + 1 ∨ (j = a.toNat ∧ b.toNat < a.toNat)) (k : Nat) (hk : k < 256) : (F (UInt8.ofNat k) || (decide (a.toNat ≤ k) && decide (k < j))) = (F (UInt8.ofNat k) || inR a b (UInt8.ofNat k)) := by
  have e : (UInt8.ofNat k).toNat = k := by simp [UInt8.toNat_ofNat']; omega
  unfold inR
  rw [e]
  congr 1
  by_cases g : a.toNat ≤ k
  · rw [decide_eq_true g, Bool.true_and, Bool.true_and]
    congr 1
    apply propext
    omega
  · rw [decide_eq_false g]; rfl
theorem cell_put {W : World} {b i b' i' : Nat} {v u : Value} (h : W.cell? ⟨b, i, none⟩ = some v) (hne : b ≠ b' ∨ i ≠ i') : (W.setCell ⟨b', i', none⟩ u).cell? ⟨b, i, none⟩ = some v := (World.cell?_setCell_other _ _ _ _ (fun e => by rw [Addr.mk.injEq] at e; rcases hne with g | g; exact g e.1.symm; exact g e.2.1.symm)).trans h
theorem fits_of {W : World} {g b : Nat} {neg : Bool} {F : UInt8 → Bool} (ha : ArrB W g (fun k => F (UInt8.ofNat k))) (hn : W.heap[b]? = some (.cells #[.bool neg] 4 (0, 0))) : FitsP W (fun x => F x != neg) (.func (.func 28) #[] #[.pointer (some ⟨g, 0, none⟩), .pointer (some ⟨b, 0, none⟩)]) :=
  ⟨_, _, rfl, enters_of Try.func28 (by kernel_rfl) rfl, fun V c hb => by
    have hn2 : V.cell? ⟨b, 0, none⟩ = some (.bool neg) := by rw [cellRow V b 0 _ _ _ (hb.2 b _ _ _ hn (by decide))]; rfl
    have := set1_any g b _ neg c V (hb.2 g _ _ _ ha (by decide)) hn2
    simpa using this⟩
theorem setGo_end {m : Nat} {p : Bs} {F : UInt8 → Bool} (hm : 0 < m) (h : p.head? = some 93) : setGo m false p F = some (F, p.tail) := by
  cases m with
  | zero => omega
  | succ m => rw [setGo, if_pos ⟨rfl, h⟩]
theorem setGo_bad {m : Nat} {b : Bool} {p : Bs} {F : UInt8 → Bool} (h : ¬ (b = false ∧ p.head? = some 93)) (hm : memL p = none) : setGo m b p F = none := by
  cases m with
  | zero => rfl
  | succ m => rw [setGo, if_neg h, hm]; rfl
theorem setGo_step {m : Nat} {b : Bool} {p r : Bs} {x y : UInt8} {F : UInt8 → Bool} (h : ¬ (b = false ∧ p.head? = some 93)) (hm : memL p = some (x, y, r)) : setGo (m + 1) b p F = setGo m false r (fun z => F z || inR x y z) := by
  rw [setGo, if_neg h, hm]; rfl
theorem memP_some {s : Bs} {a b : UInt8} {r : Bs} (h : memL s = some (a, b, r)) {w w' : World} {e : Ending} (hp : MemP s w e w') : e = .returned (.tuple #[.int .u8 a.toNat, .int .u8 b.toNat, .string (bsT r), .bool true]) ∧ Below w.heap.size w w' := by
  unfold MemP at hp; rw [h] at hp; exact hp
theorem memP_none {s : Bs} (h : memL s = none) {w w' : World} {e : Ending} (hp : MemP s w e w') : (∃ x y t, e = .returned (.tuple #[.int .u8 x, .int .u8 y, .string t, .bool false])) ∧ Below w.heap.size w w' := by
  unfold MemP at hp; rw [h] at hp; exact hp
set_option maxRecDepth 100000 in
set_option maxHeartbeats 16000000 in
theorem set_any (s : ByteArray) (w : World) : Calls Try.prog 22 #[.string s] w (SetP s.data.toList w) := by
  obtain ⟨p1, p2, p3⟩ := pre_one s.data.toList 33
  have C := fun W => Try.strings_CutPrefix s ⟨#[33]⟩ W
  rw [show (ByteArray.mk #[33]).data.toList = [33] from rfl, p1] at C
  have hb : Lib.trimPrefix s.data.toList [33] = bodyB s.data.toList := by
    unfold bodyB negB
    by_cases h : s.data.toList.head? = some 33
    · rw [p2 h, if_pos (decide_eq_true h)]
    · rw [p3 h, if_neg (by rw [decide_eq_false h]; simp)]
  rw [hb] at C
  obtain ⟨R, hR⟩ : ∃ R, setGo ((bodyB s.data.toList).length + 1) true (bodyB s.data.toList) (fun _ => false) = R := ⟨_, rfl⟩
  have HSL : Hid (setL s.data.toList = R.map fun y => (.one (fun x => y.1 x != negB s.data.toList), y.2)) := Lib.hid (by unfold setL; rw [hR])
  have hneg : decide (s.data.toList.head? = some 33) = negB s.data.toList := rfl
  rw [hneg] at C
  obtain ⟨neg, hn⟩ : ∃ neg, negB s.data.toList = neg := ⟨_, rfl⟩
  rw [hn] at C HSL
  obtain ⟨S0, hS0⟩ : ∃ S0, bsT (bodyB s.data.toList) = S0 := ⟨_, rfl⟩
  have hS0b : bodyB s.data.toList = S0.data.toList := by rw [← hS0, bytesOf]
  have HR0 : Hid (setGo (S0.size + 1) true S0.data.toList (fun _ => false) = R) := Lib.hid (by rw [sizeOf, ← hS0b]; exact hR)
  have C2 : ∀ W, Calls Try.prog 25 #[.string s, .string ⟨#[33]⟩] W fun e w' => e = .returned (.tuple #[.string S0, .bool neg]) ∧ w' = W := fun W => by rw [← hS0]; exact C W
  have HNO : Hid (R = none → ∀ t w', Below w.heap.size w w' → SetP s.data.toList w (.returned (.tuple #[.agg #[.bool false, .nilFunc], .string t, .bool false])) w') := Lib.hid (fun h t w' hb => by
    unfold SetP; rw [HSL.out, h]; exact ⟨⟨t, rfl⟩, hb⟩)
  have HYES : Hid (∀ F r X fv w', R = some (F, r) → X = bsT r → FitsP w' (fun x => F x != neg) fv → Below w.heap.size w w' → SetP s.data.toList w (.returned (.tuple #[.agg #[.bool false, fv], .string X, .bool true])) w') := Lib.hid (fun F r X fv w' h hX hf hb => by
    subst hX
    unfold SetP; rw [HSL.out, h]
    exact ⟨⟨fv, rfl, fun e => (by cases e), fun g hg => (by cases hg; exact hf)⟩, hb⟩)
  have HI0 := Lib.hid (SetI.new w neg)
  have ZV := fun W => zero256 W
  clear C p1 p2 p3 hb hR hneg hn hS0 hS0b HSL
  go_enter Try.func22, Try.ntmps22
  go_wp2_with (go_at_call 25; (with_reducible refine (C2 _).mono ?_); rintro e w2 ⟨rfl, rfl⟩)
  clear C2
  go_loopg [0, 7] S0.size (fun g x y wr => ∃ (S : ByteArray) (b : Bool) (F : UInt8 → Bool) (m : Nat), x = .string S ∧ y = .bool b ∧ S.size ≤ g ∧ S.size < m ∧ Hid (setGo m b S.data.toList F = R) ∧ Hid (SetI w wr neg (fun k => F (UInt8.ofNat k))))
  case atStart => exact ⟨S0, true, _, S0.size + 1, rfl, rfl, Nat.le_refl _, Nat.lt_succ_self _, HR0, HI0⟩
  case round =>
    clear HR0 HI0 ZV
    obtain ⟨S, b, F, m, rfl, rfl, hg, hm, HR, HI⟩ := hrel
    obtain ⟨q1, -, -⟩ := pre_one S.data.toList 93
    have D := fun W => Try.strings_HasPrefix S ⟨#[93]⟩ W
    rw [show (ByteArray.mk #[93]).data.toList = [93] from rfl, q1] at D
    clear q1
    have hsz := HI.out.size
    by_cases hst : b = false ∧ S.data.toList.head? = some 93
    · obtain ⟨rfl, h93⟩ := hst
      have HE := HR.out
      rw [setGo_end (by omega) h93] at HE
      rw [decide_eq_true h93] at D
      have h0 : 0 < S.size := by
        rcases Nat.eq_zero_or_pos S.size with h | h
        · have hn : S.data.toList = [] := List.eq_nil_of_length_eq_zero (by rw [← sizeOf]; exact h)
          rw [hn] at h93; simp at h93
        · exact h
      have h1' : 1 ≤ S.size := by omega
      have HX := Lib.hid (ext1 S)
      have c0 := HI.out.z0
      have c1 := HI.out.z1
      have cf := HI.out.fz
      have HII := HI
      have HEE := Lib.hid HE.symm
      clear HR HI h93 HE h0 hg hm HNO
      go_wp2_with (go_at_call 26; (with_reducible refine (D _).mono ?_); rintro e w2 ⟨rfl, rfl⟩)
      go_region
      go_wp2
      generalize hFV : Value.func (Fn.func 28) #[] #[.pointer (some ⟨w.heap.size + 1 + 1, 0, none⟩), .pointer (some ⟨w.heap.size + 1, 0, none⟩)] = fv
      have k0 : (((w2.setCell ⟨w.heap.size, 0, none⟩ (.bool false)).setCell ⟨w.heap.size, 1, none⟩ fv).drew).cell? ⟨w.heap.size, 0, none⟩ = some (.bool false) := cell_put (World.cell?_setCell_same _ _ _ c0) (.inr (by decide))
      have k1 : (((w2.setCell ⟨w.heap.size, 0, none⟩ (.bool false)).setCell ⟨w.heap.size, 1, none⟩ fv).drew).cell? ⟨w.heap.size, 1, none⟩ = some fv := World.cell?_setCell_same _ _ _ (cell_put (i' := 0) c1 (.inr (by decide)))
      have HFF : Hid (FitsP (((w2.setCell ⟨w.heap.size, 0, none⟩ (.bool false)).setCell ⟨w.heap.size, 1, none⟩ fv).drew) (fun x => F x != neg) fv) := Lib.hid (by
        rw [← hFV]
        refine fits_of ?_ ?_
        · exact heap_put (heap_put HII.out.arr (by omega) _) (by omega) _
        · exact heap_put (heap_put HII.out.n (by omega) _) (by omega) _)
      have HB : Hid (Below w.heap.size w (((w2.setCell ⟨w.heap.size, 0, none⟩ (.bool false)).setCell ⟨w.heap.size, 1, none⟩ fv).drew)) := Lib.hid ((HII.out.below.setCell (p := ⟨w.heap.size, 0, none⟩) (Nat.le_refl _) _).setCell (p := ⟨w.heap.size, 1, none⟩) (Nat.le_refl _) _).drew
      clear hFV c0 c1 cf
      exact bodyPost_ret (v := .tuple #[.agg #[.bool false, fv], .string (S.extract 1 S.size), .bool true]) (by simp [results, Try.results22, go_sem, k0, k1]) rfl (HYES.out _ _ _ _ _ HEE.out HX.out HFF.out HB.out)
    · have hnb : b = true ∨ (b = false ∧ decide (S.data.toList.head? = some 93) = false) := by
        cases b with
        | true => exact .inl rfl
        | false => exact .inr ⟨rfl, decide_eq_false (fun e => hst ⟨rfl, e⟩)⟩
      cases hmm : memL S.data.toList with
      | none =>
        have HE : Hid (R = none) := Lib.hid (by rw [← HR.out]; exact setGo_bad hst hmm)
        have M1 := fun W => (mem_any S W).mono (fun e w' hp => memP_none hmm hp)
        have HNN := Lib.hid (fun t w' => HNO.out HE.out t w')
        clear hmm hst HYES HR hg hm HNO HE
        rcases hnb with rfl | ⟨rfl, hd⟩
        case' inr => rw [hd] at D
        all_goals
          go_wp2_with (first
            | (go_at_call 26; (with_reducible refine (D _).mono ?_); rintro e w2 ⟨rfl, rfl⟩)
            | (go_at_call 27; (with_reducible refine (M1 _).mono ?_); rintro e w2 ⟨⟨x, y, t, rfl⟩, hb⟩; have HI2 := Lib.hid (HI.out.on hb); have c0 := HI2.out.z0; have c1 := HI2.out.z1; have cf := HI2.out.fz; clear hb HI))
          have k0 : ((w2.setCell ⟨w.heap.size, 0, none⟩ (.bool false)).setCell ⟨w.heap.size, 1, none⟩ .nilFunc).cell? ⟨w.heap.size, 0, none⟩ = some (.bool false) := cell_put (World.cell?_setCell_same _ _ _ c0) (.inr (by decide))
          have k1 : ((w2.setCell ⟨w.heap.size, 0, none⟩ (.bool false)).setCell ⟨w.heap.size, 1, none⟩ .nilFunc).cell? ⟨w.heap.size, 1, none⟩ = some .nilFunc := World.cell?_setCell_same _ _ _ (cell_put (i' := 0) c1 (.inr (by decide)))
          have HB2 : Hid (Below w.heap.size w ((w2.setCell ⟨w.heap.size, 0, none⟩ (.bool false)).setCell ⟨w.heap.size, 1, none⟩ .nilFunc)) := Lib.hid ((HI2.out.below.setCell (p := ⟨w.heap.size, 0, none⟩) (Nat.le_refl _) _).setCell (p := ⟨w.heap.size, 1, none⟩) (Nat.le_refl _) _)
          clear c0 c1 cf
          exact bodyPost_ret (v := .tuple #[.agg #[.bool false, .nilFunc], .string ⟨#[]⟩, .bool false]) (by simp [results, Try.results22, go_sem, k0, k1]) rfl (HNN.out _ _ HB2.out)
      | some p =>
        obtain ⟨x, y, r⟩ := p
        have hlen := memL_len hmm
        rw [← sizeOf] at hlen
        obtain ⟨X, hX⟩ : ∃ X : ByteArray, bsT r = X := ⟨_, rfl⟩
        have hXl : X.data.toList = r := by rw [← hX, bytesOf]
        rw [← hXl, ← sizeOf] at hlen
        obtain ⟨m', rfl⟩ : ∃ m', m = m' + 1 := ⟨m - 1, by omega⟩
        have HE : Hid (setGo m' false X.data.toList (fun z => F z || inR x y z) = R) := Lib.hid (by rw [← HR.out, hXl]; exact (setGo_step hst hmm).symm)
        have M1 := fun W => (mem_any S W).mono (fun e w' hp => memP_some hmm hp)
        rw [hX] at M1
        have hx := x.toNat_lt
        have hy := y.toNat_lt
        have HUP := Lib.hid (fun j h k hk => up_done F x y (j := j) h k hk)
        obtain ⟨a, ha⟩ : ∃ a, x.toNat = a := ⟨_, rfl⟩
        obtain ⟨b', hb'⟩ : ∃ b', y.toNat = b' := ⟨_, rfl⟩
        rw [ha] at M1 hx HUP
        rw [hb'] at M1 hy HUP
        have HSG := Lib.hid hsz
        clear hmm hst HR hXl hX ha hb' HYES HNO hsz
        rcases hnb with rfl | ⟨rfl, hd⟩
        case' inr => rw [hd] at D
        all_goals
          go_wp2_with (first
            | (go_at_call 26; (with_reducible refine (D _).mono ?_); rintro e w2 ⟨rfl, rfl⟩)
            | (go_at_call 27; (with_reducible refine (M1 _).mono ?_); rintro e w2 ⟨rfl, hb⟩; have HI2 := Lib.hid (HI.out.on hb); clear hb HI HSG))
          clear M1 D
          go_loopw [12] (fun i wx => ∃ j : Nat, a ≤ j ∧ (j ≤ b' + 1 ∨ j = a) ∧ i = .int .i64 j ∧ Hid (SetI w wx neg (fun k => F (UInt8.ofNat k) || (decide (a ≤ k) && decide (k < j))))) (fun i _ => b' + 1 - (intOf i).toNat)
          case atStart => exact ⟨a, Nat.le_refl _, .inr rfl, rfl, Lib.hid (HI2.out.ext (fun k hk => by
            by_cases g : a ≤ k
            · rw [decide_eq_false (show ¬ k < a by omega), Bool.and_false, Bool.or_false]
            · rw [decide_eq_false g, Bool.false_and, Bool.or_false]))⟩
          case round =>
            obtain ⟨j, hj1, hj2, rfl, HJ⟩ := hrel
            by_cases hle : j ≤ b'
            · have cj := HJ.out.arr.cell j (by omega)
              have fj := HJ.out.arr.frz j
              have hj3 : (j : Int) < 256 := by omega
              have HJ2 : Hid (SetI w (wr.setCell ⟨w.heap.size + 1 + 1, j, none⟩ (.bool true)) neg (fun k => F (UInt8.ofNat k) || (decide (a ≤ k) && decide (k < j + 1)))) := Lib.hid ((HJ.out.set j).ext (fun k _ => up_next (G := fun k => F (UInt8.ofNat k)) hj1 k))
              go_wp2
              go_roundw
              case rel => exact ⟨j + 1, by omega, .inl (by omega), by go_num, HJ2⟩
              case measure => simp [intOf]; omega
            · have HJ2 := Lib.hid (HJ.out.ext (fun k hk => HUP.out j (by omega) k hk))
              go_wp2
              go_roundg X.size
              case measure => omega
              case rel => exact ⟨X, false, _, m', rfl, rfl, Nat.le_refl _, by omega, HE, HJ2⟩
end Go.Proofs.Ytapdmlejgakhaaa
