/-
  The program's and the reference's Pack, Unpack and Right, and the walk of BitsPacks: for every meta and every uint64 it returns true; of what was there nothing has turned. Condition: Laid.
-/
import Derived.Test.YtgoekfonbpffdaaDoorLaid
import Derived.Test.YtgoekfonbpffdaaDoorMayMath
import Derived.Deep.QuietTactic
import Derived.BigQuiet
import Derived.Deep.RegionHeld3
namespace Go.Proofs.YtgoekfonbpffdaaDoor.bitsPacksw
open Go.RowKit Go.Sort
abbrev box (m u g : Int) : Obj := .cells #[.int .i64 m, .int .i64 u, .int .i64 g] 33
def packI (m u g : Int) : Int := m % 4096 * 4503599627370496 + u % 67108864 * 67108864 + g % 67108864
theorem packI_bd (m u g : Int) : 0 ≤ packI m u g ∧ packI m u g < 18446744073709551616 := by unfold packI; omega
theorem or26 (a b : Int) (ha : 0 ≤ a) (ha2 : a * 67108864 + 67108863 < 18446744073709551616) (hb : 0 ≤ b) (hb2 : b < 67108864) : bits .or .u64 (a * 67108864) b = a * 67108864 + b := by
  rw [u64_or _ _ (by omega) (by omega) hb (by omega), nat_join 26 _ _ (by show _ % 67108864 = 0; omega) (by show _ < 67108864; omega)]
  omega
theorem pack_math (m u g : Int) : bits .or .u64 (IntKind.u64.wrap (bits .or .u64 (m % 4096 * 67108864) (u % 67108864) * 67108864)) (g % 67108864) = packI m u g := by
  rw [or26 (m % 4096) (u % 67108864) (by omega) (by omega) (by omega) (by omega)]
  have e : IntKind.u64.wrap ((m % 4096 * 67108864 + u % 67108864) * 67108864) = (m % 4096 * 67108864 + u % 67108864) * 67108864 := by rw [IntKind.wrap_u64]; omega
  rw [e, or26 _ _ (by omega) (by omega) (by omega) (by omega)]
  unfold packI
  omega
theorem al0 (w : World) (o : Obj) : Below w.heap.size w (w.alloc o) := (Below.refl _ _).alloc (Nat.le_refl _) o
set_option maxHeartbeats 1000000 in
theorem pack_any (m u g : Int) (w : World) :
    Calls Tryd.prog 17 #[.agg #[.int .i64 m, .int .i64 u, .int .i64 g]] w fun e w' => e = .returned (.int .u64 (packI m u g)) ∧ Below w.heap.size w w' := by
  have h1 := and_4095 m
  have h2 := and_73 u
  have h3 := and_73 g
  have b1 : 0 ≤ m % 4096 ∧ m % 4096 < 4096 := by omega
  have b2 : 0 ≤ u % 67108864 ∧ u % 67108864 < 67108864 := by omega
  have b3 : 0 ≤ g % 67108864 ∧ g % 67108864 < 67108864 := by omega
  go_enter Tryd.func17, Tryd.ntmps17
  go_wp2
  go_ret
  exact ⟨ret_int (pack_math m u g), al0 _ _⟩
def unM (x : Nat) : Int := (x : Int) / 4503599627370496
def unU (x : Nat) : Int := (x : Int) / 67108864 % 67108864
def unG (x : Nat) : Int := (x : Int) % 67108864
theorem and26 (a : Nat) (h : a < 18446744073709551616) : bits .and .u64 (a : Int) 67108863 = (a : Int) % 67108864 := by
  have h2 := u64_and_nat a 67108863 h (by omega)
  rw [nat_mask26] at h2
  rw [show (67108863 : Int) = ((67108863 : Nat) : Int) from rfl, h2]; omega
set_option maxHeartbeats 1000000 in
theorem unpack_any (x : Nat) (hx : x < 18446744073709551616) (w : World) :
    Calls Tryd.prog 19 #[.int .u64 x] w fun e w' => e = .returned (.agg #[.int .i64 (unM x), .int .i64 (unU x), .int .i64 (unG x)]) ∧ Below w.heap.size w w' := by
  have h1 : bits .and .u64 ((x : Int) / 67108864) 67108863 = unU x := by
    have := and26 (x / 67108864) (by omega)
    rw [Int.natCast_ediv] at this
    exact this
  have h2 : bits .and .u64 (x : Int) 67108863 = unG x := and26 x hx
  have h3 : (x : Int) / 4503599627370496 = unM x := rfl
  have b1 : 0 ≤ unU x ∧ unU x < 67108864 := by unfold unU; omega
  have b2 : 0 ≤ unG x ∧ unG x < 67108864 := by unfold unG; omega
  have b3 : 0 ≤ unM x ∧ unM x < 4096 := by unfold unM; omega
  generalize unU x = a at *
  generalize unG x = b at *
  generalize unM x = c at *
  go_enter Tryd.func19, Tryd.ntmps19
  go_wp2
  exact bodyPost_ret (v := .agg #[.int .i64 c, .int .i64 a, .int .i64 b]) (by simp [results, Tryd.results19, go_sem]) rfl ⟨rfl, al0 _ _⟩
set_option maxHeartbeats 1000000 in
theorem unpackr_any (x : Nat) (hx : x < 18446744073709551616) (w : World) :
    Calls Tryd.prog 20 #[.int .u64 x] w fun e w' => e = .returned (.agg #[.int .i64 (unM x), .int .i64 (unU x), .int .i64 (unG x)]) ∧ Below w.heap.size w w' := by
  have h1 : (x : Int) / 67108864 % 67108864 = unU x := rfl
  have h2 : (x : Int) % 67108864 = unG x := rfl
  have h3 : (x : Int) / 4503599627370496 = unM x := rfl
  have b1 : 0 ≤ unU x ∧ unU x < 67108864 := by unfold unU; omega
  have b2 : 0 ≤ unG x ∧ unG x < 67108864 := by unfold unG; omega
  have b3 : 0 ≤ unM x ∧ unM x < 4096 := by unfold unM; omega
  generalize unU x = a at *
  generalize unG x = b at *
  generalize unM x = c at *
  go_enter Tryd.func20, Tryd.ntmps20
  go_wp2
  exact bodyPost_ret (v := .agg #[.int .i64 c, .int .i64 a, .int .i64 b]) (by simp [results, Tryd.results20, go_sem]) rfl ⟨rfl, al0 _ _⟩
set_option maxRecDepth 100000 in
set_option maxHeartbeats 1000000 in
theorem packr_any (m u g : Int) (w : World) :
    Calls Tryd.prog 18 #[.agg #[.int .i64 m, .int .i64 u, .int .i64 g]] w fun e w' => e = .returned (.int .u64 (packI m u g)) ∧ Below w.heap.size w w' := by
  have b1 : 0 ≤ m % 4096 ∧ m % 4096 < 4096 := by omega
  have b2 : 0 ≤ u % 67108864 ∧ u % 67108864 < 67108864 := by omega
  have b3 : 0 ≤ g % 67108864 ∧ g % 67108864 < 67108864 := by omega
  have L1 : ∀ W, Calls Tryd.prog 16 #[.int .i64 m, .int .i64 12] W fun e w' => e = .returned (.int .i64 (m % 4096)) ∧ w' = W := fun W => (low_any m 12 (by omega) W).mono fun _ _ h => ⟨h.1, h.2.symm⟩
  have L2 : ∀ W, Calls Tryd.prog 16 #[.int .i64 u, .int .i64 26] W fun e w' => e = .returned (.int .i64 (u % 67108864)) ∧ w' = W := fun W => (low_any u 26 (by omega) W).mono fun _ _ h => ⟨h.1, h.2.symm⟩
  have L3 : ∀ W, Calls Tryd.prog 16 #[.int .i64 g, .int .i64 26] W fun e w' => e = .returned (.int .i64 (g % 67108864)) ∧ w' = W := fun W => (low_any g 26 (by omega) W).mono fun _ _ h => ⟨h.1, h.2.symm⟩
  go_enter Tryd.func18, Tryd.ntmps18
  go_wp2
  go_quiet ((go_at_call 16; first | with_reducible exact Calls.quiet_of_same (L1 _) | with_reducible exact Calls.quiet_of_same (L2 _) | with_reducible exact Calls.quiet_of_same (L3 _)))
  go_wp2
  go_ret
  exact ⟨ret_int rfl, below_drewN (al0 _ _) _⟩
set_option maxHeartbeats 2000000 in
theorem rightr_any (m u g : Int) (w : World) :
    Calls Tryd.prog 22 #[.agg #[.int .i64 m, .int .i64 u, .int .i64 g]] w fun e w' => e = .returned (.bool (rightB m u g)) ∧ Below w.heap.size w w' := by
  unfold rightB
  by_cases a0 : 0 ≤ m
  · by_cases a1 : m ≤ 4095
    · by_cases a2 : 0 ≤ u
      · by_cases a3 : u ≤ 67108863
        · by_cases a4 : 0 ≤ g
          · by_cases a5 : g ≤ 67108863
            · go_enter Tryd.func22, Tryd.ntmps22
              go_wp2
              go_ret
              exact ⟨by simp [*] <;> omega, al0 _ _⟩
            · go_enter Tryd.func22, Tryd.ntmps22
              go_wp2
              go_ret
              exact ⟨by simp [*] <;> omega, al0 _ _⟩
          · go_enter Tryd.func22, Tryd.ntmps22
            go_wp2
            go_ret
            exact ⟨by simp [*] <;> omega, al0 _ _⟩
        · go_enter Tryd.func22, Tryd.ntmps22
          go_wp2
          go_ret
          exact ⟨by simp [*] <;> omega, al0 _ _⟩
      · go_enter Tryd.func22, Tryd.ntmps22
        go_wp2
        go_ret
        exact ⟨by simp [*] <;> omega, al0 _ _⟩
    · go_enter Tryd.func22, Tryd.ntmps22
      go_wp2
      go_ret
      exact ⟨by simp [*] <;> omega, al0 _ _⟩
  · go_enter Tryd.func22, Tryd.ntmps22
    go_wp2
    go_ret
    exact ⟨by simp [*] <;> omega, al0 _ _⟩
/-- What stands in every world of the walk: the box, and that nothing old has turned. -/
theorem keepS {m u g : Int} {w W W1 : World} {b : Nat} (h : W.cell? ⟨b, 0, none⟩ = some (.int .i64 m) ∧ W.cell? ⟨b, 1, none⟩ = some (.int .i64 u) ∧ W.cell? ⟨b, 2, none⟩ = some (.int .i64 g) ∧ Below w.heap.size w W) (hb : Below W.heap.size W W1) :
    W1.cell? ⟨b, 0, none⟩ = some (.int .i64 m) ∧ W1.cell? ⟨b, 1, none⟩ = some (.int .i64 u) ∧ W1.cell? ⟨b, 2, none⟩ = some (.int .i64 g) ∧ Below w.heap.size w W1 := by
  obtain ⟨h0, h1, h2, h3⟩ := h
  have hlt := World.block_lt_of_cell? W _ h0
  exact ⟨by rw [hb.cell (p := ⟨b, 0, none⟩) hlt]; exact h0, by rw [hb.cell (p := ⟨b, 1, none⟩) hlt]; exact h1, by rw [hb.cell (p := ⟨b, 2, none⟩) hlt]; exact h2, fin h3 hb⟩
theorem belS {m u g : Int} {w W : World} {b : Nat} (h : W.cell? ⟨b, 0, none⟩ = some (.int .i64 m) ∧ W.cell? ⟨b, 1, none⟩ = some (.int .i64 u) ∧ W.cell? ⟨b, 2, none⟩ = some (.int .i64 g) ∧ Below w.heap.size w W) : Below w.heap.size w W := h.2.2.2
theorem drewS {m u g : Int} {w W : World} {b : Nat} (h : W.cell? ⟨b, 0, none⟩ = some (.int .i64 m) ∧ W.cell? ⟨b, 1, none⟩ = some (.int .i64 u) ∧ W.cell? ⟨b, 2, none⟩ = some (.int .i64 g) ∧ Below w.heap.size w W) :
    W.drew.cell? ⟨b, 0, none⟩ = some (.int .i64 m) ∧ W.drew.cell? ⟨b, 1, none⟩ = some (.int .i64 u) ∧ W.drew.cell? ⟨b, 2, none⟩ = some (.int .i64 g) ∧ Below w.heap.size w W.drew := ⟨h.1, h.2.1, h.2.2.1, h.2.2.2.drew⟩
theorem laidS {m u g : Int} {w W : World} {b : Nat} (hl : Laid w) (h : W.cell? ⟨b, 0, none⟩ = some (.int .i64 m) ∧ W.cell? ⟨b, 1, none⟩ = some (.int .i64 u) ∧ W.cell? ⟨b, 2, none⟩ = some (.int .i64 g) ∧ Below w.heap.size w W) : Laid W := hl.on h.2.2.2
theorem un_pack (x : Nat) (hx : x < 18446744073709551616) : packI (unM x) (unU x) (unG x) = x := by unfold packI unM unU unG; omega
theorem un_right (x : Nat) (hx : x < 18446744073709551616) : rightB (unM x) (unU x) (unG x) = true := by
  unfold rightB unM unU unG
  simp only [Bool.and_eq_true, decide_eq_true_eq]
  omega
theorem pack_un (m u g : Int) (p : Nat) (hp : packI m u g = p) (h : rightB m u g = true) : unM p = m ∧ unU p = u ∧ unG p = g := by
  unfold rightB at h
  simp only [Bool.and_eq_true, decide_eq_true_eq] at h
  unfold packI at hp
  unfold unM unU unG
  omega
set_option maxRecDepth 100000 in
set_option maxHeartbeats 8000000 in
theorem walk0 (m u g : Int) (x : Nat) (hx : x < 18446744073709551616) (w : World) (h : Laid w) :
    Calls Tryd.prog 4 #[.agg #[.int .i64 m, .int .i64 u, .int .i64 g], .int .u64 x] w fun e w' => e = .returned (.bool true) ∧ Below w.heap.size w w' := by
  obtain ⟨q, hq⟩ : ∃ q : Nat, packI m u g = q := ⟨(packI m u g).toNat, by have := packI_bd m u g; omega⟩
  have hq64 : q < 18446744073709551616 := by have := packI_bd m u g; omega
  have P3 := fun W => pack_any (unM x) (unU x) (unG x) W
  have R3 := fun W => right_any (unM x) (unU x) (unG x) W
  rw [un_pack x hx] at P3
  rw [un_right x hx] at R3
  have U3 := fun W => unpack_any q hq64 W
  have hun := pack_un m u g q hq
  have P1 := fun W => pack_any m u g W
  have P2 := fun W => packr_any m u g W
  have U1 := fun W => unpack_any x hx W
  have U2 := fun W => unpackr_any x hx W
  have R1 := fun W => right_any m u g W
  have R2 := fun W => rightr_any m u g W
  rw [hq] at P1 P2
  clear hq
  generalize unM x = c at *
  generalize unU x = a at *
  generalize unG x = b at *
  generalize rightB m u g = r at *
  have HE := Lib.hid h
  clear h
  have hb0 : ∀ o, Below w.heap.size w (w.alloc o).drew := fun o => (al0 w o).drew
  cases r
  · clear hun U3
    go_enter Tryd.func4, Tryd.ntmps4
    go_wp2
    go_region_held3 (fun W => W.cell? ⟨w.heap.size, 0, none⟩ = some (.int .i64 m) ∧ W.cell? ⟨w.heap.size, 1, none⟩ = some (.int .i64 u) ∧ W.cell? ⟨w.heap.size, 2, none⟩ = some (.int .i64 g) ∧ Below w.heap.size w W) (first | exact keepS (by assumption) (by assumption) | (refine ⟨?_, ?_, ?_, hb0 _⟩ <;> go_keep) | exact drewS (by assumption) | go_keep)
      (first | (go_at_call 17; first | ((with_reducible refine (P1 _).mono ?_); rintro e w1 ⟨rfl, hb⟩)) | (go_at_call 18; first | ((with_reducible refine (P2 _).mono ?_); rintro e w1 ⟨rfl, hb⟩)) | (go_at_call 19; first | ((with_reducible refine (U1 _).mono ?_); rintro e w1 ⟨rfl, hb⟩)) | (go_at_call 20; first | ((with_reducible refine (U2 _).mono ?_); rintro e w1 ⟨rfl, hb⟩)) | (go_at_call 21; first | ((with_reducible refine (R1 _).mono ?_); rintro e w1 ⟨rfl, hb⟩)) | (go_at_call 22; first | ((with_reducible refine (R2 _).mono ?_); rintro e w1 ⟨rfl, hb⟩)))
    go_wp2
    go_region_with ((first | (go_at_call 17; first | ((with_reducible refine (P1 _).mono ?_); rintro e w1 ⟨rfl, hb⟩; first | have hk := keepS (by assumption) hb | have hk := keepS (drewS (by assumption)) hb) | ((with_reducible refine (P3 _).mono ?_); rintro e w1 ⟨rfl, hb⟩; first | have hk := keepS (by assumption) hb | have hk := keepS (drewS (by assumption)) hb)) | (go_at_call 19; first | ((with_reducible refine (U1 _).mono ?_); rintro e w1 ⟨rfl, hb⟩; first | have hk := keepS (by assumption) hb | have hk := keepS (drewS (by assumption)) hb)) | (go_at_call 21; first | ((with_reducible refine (R1 _).mono ?_); rintro e w1 ⟨rfl, hb⟩; first | have hk := keepS (by assumption) hb | have hk := keepS (drewS (by assumption)) hb) | ((with_reducible refine (R3 _).mono ?_); rintro e w1 ⟨rfl, hb⟩; first | have hk := keepS (by assumption) hb | have hk := keepS (drewS (by assumption)) hb)) | (go_at_call 10; (first | refine (awake_any _ (laidS HE.out (by assumption))).mono ?_ | refine (awake_any _ (laidS HE.out (drewS (by assumption)))).mono ?_); rintro e w1 ⟨rfl, hb⟩; first | have hk := keepS (by assumption) hb | have hk := keepS (drewS (by assumption)) hb)))
    all_goals go_wp2
    all_goals go_ret
    all_goals exact ⟨rfl, belS (by assumption)⟩
  · obtain ⟨e1, e2, e3⟩ := hun rfl
    rw [e1, e2, e3] at U3
    clear e1 e2 e3 hun
    go_enter Tryd.func4, Tryd.ntmps4
    go_wp2
    go_region_held3 (fun W => W.cell? ⟨w.heap.size, 0, none⟩ = some (.int .i64 m) ∧ W.cell? ⟨w.heap.size, 1, none⟩ = some (.int .i64 u) ∧ W.cell? ⟨w.heap.size, 2, none⟩ = some (.int .i64 g) ∧ Below w.heap.size w W) (first | exact keepS (by assumption) (by assumption) | (refine ⟨?_, ?_, ?_, hb0 _⟩ <;> go_keep) | exact drewS (by assumption) | go_keep)
      (first | (go_at_call 17; first | ((with_reducible refine (P1 _).mono ?_); rintro e w1 ⟨rfl, hb⟩)) | (go_at_call 18; first | ((with_reducible refine (P2 _).mono ?_); rintro e w1 ⟨rfl, hb⟩)) | (go_at_call 19; first | ((with_reducible refine (U1 _).mono ?_); rintro e w1 ⟨rfl, hb⟩)) | (go_at_call 20; first | ((with_reducible refine (U2 _).mono ?_); rintro e w1 ⟨rfl, hb⟩)) | (go_at_call 21; first | ((with_reducible refine (R1 _).mono ?_); rintro e w1 ⟨rfl, hb⟩)) | (go_at_call 22; first | ((with_reducible refine (R2 _).mono ?_); rintro e w1 ⟨rfl, hb⟩)))
    go_wp2
    go_region_held3 (fun W => W.cell? ⟨w.heap.size, 0, none⟩ = some (.int .i64 m) ∧ W.cell? ⟨w.heap.size, 1, none⟩ = some (.int .i64 u) ∧ W.cell? ⟨w.heap.size, 2, none⟩ = some (.int .i64 g) ∧ Below w.heap.size w W) (first | exact keepS (by assumption) (by assumption) | (refine ⟨?_, ?_, ?_, hb0 _⟩ <;> go_keep) | exact drewS (by assumption) | go_keep)
      (first | (go_at_call 17; first | ((with_reducible refine (P1 _).mono ?_); rintro e w1 ⟨rfl, hb⟩) | ((with_reducible refine (P3 _).mono ?_); rintro e w1 ⟨rfl, hb⟩)) | (go_at_call 19; first | ((with_reducible refine (U1 _).mono ?_); rintro e w1 ⟨rfl, hb⟩) | ((with_reducible refine (U3 _).mono ?_); rintro e w1 ⟨rfl, hb⟩)) | (go_at_call 21; first | ((with_reducible refine (R1 _).mono ?_); rintro e w1 ⟨rfl, hb⟩) | ((with_reducible refine (R3 _).mono ?_); rintro e w1 ⟨rfl, hb⟩)) | (go_at_call 10; refine (awake_any _ (laidS HE.out (by assumption))).mono ?_; rintro e w1 ⟨rfl, hb⟩))
    go_wp2
    go_ret
    exact ⟨rfl, belS (by assumption)⟩
theorem walk (x0 : Int × Int × Int) {P0 : Prop} (_ : P0) (x : Nat) (hx : x < 18446744073709551616) (w : World) (h : Laid w) :
    Calls Tryd.prog 4 #[.agg #[.int .i64 x0.1, .int .i64 x0.2.1, .int .i64 x0.2.2], .int .u64 x] w fun e w' => e = .returned (.bool true) ∧ Below w.heap.size w w' := walk0 _ _ _ x hx w h
end Go.Proofs.YtgoekfonbpffdaaDoor.bitsPacksw
