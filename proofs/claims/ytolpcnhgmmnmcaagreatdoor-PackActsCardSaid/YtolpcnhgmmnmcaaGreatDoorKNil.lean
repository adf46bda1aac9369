/-
  slices.IndexFunc, ContainsFunc, and the program's every, full and joined, of nothing: what each returns; nothing old turns.
-/
import Derived.Test.YtolpcnhgmmnmcaaGreatDoorLBase
import Derived.Test.YtolpcnhgmmnmcaaGreatDoorAtB
import Derived.Test.YtolpcnhgmmnmcaaGreatDoorShelf
namespace Go.Proofs.YtolpcnhgmmnmcaaGreatDoor
open Go.RowKit Go.Shelf
abbrev nilK : Value := .slice none 0 0
set_option maxHeartbeats 1000000 in
theorem idxNilStr (f : Value) (w : World) : Calls Tryz.prog 101 #[nilK, f] w fun e w' => e = .returned (.int .i64 (-1)) ∧ w = w' := by
  unfold nilK
  go_enter Tryz.func101, Tryz.ntmps101
  go_wp2
  go_loop [8] (fun i => i = .int .i64 0) (fun _ => 0)
  case atStart => rfl
  case round =>
    subst hrel
    go_wp2
    go_ret
    exact ⟨rfl, rfl⟩
set_option maxHeartbeats 1000000 in
theorem contNilStr (f : Value) (w : World) : Calls Tryz.prog 64 #[nilK, f] w fun e w' => e = .returned (.bool false) ∧ w = w' := by
  have I := fun W => idxNilStr f W
  unfold nilK at I ⊢
  go_enter Tryz.func64, Tryz.ntmps64
  go_wp2_with (go_at_call 101; (with_reducible refine (I _).mono ?_); rintro e w1 ⟨rfl, rfl⟩)
  go_ret
  exact ⟨rfl, rfl⟩
set_option maxHeartbeats 1000000 in
theorem idxNilFil (f : Value) (w : World) : Calls Tryz.prog 114 #[nilK, f] w fun e w' => e = .returned (.int .i64 (-1)) ∧ w = w' := by
  unfold nilK
  go_enter Tryz.func114, Tryz.ntmps114
  go_wp2
  go_loop [8] (fun i => i = .int .i64 0) (fun _ => 0)
  case atStart => rfl
  case round =>
    subst hrel
    go_wp2
    go_ret
    exact ⟨rfl, rfl⟩
set_option maxHeartbeats 1000000 in
theorem contNilFil (f : Value) (w : World) : Calls Tryz.prog 82 #[nilK, f] w fun e w' => e = .returned (.bool false) ∧ w = w' := by
  have I := fun W => idxNilFil f W
  unfold nilK at I ⊢
  go_enter Tryz.func82, Tryz.ntmps82
  go_wp2_with (go_at_call 114; (with_reducible refine (I _).mono ?_); rintro e w1 ⟨rfl, rfl⟩)
  go_ret
  exact ⟨rfl, rfl⟩
set_option maxHeartbeats 1000000 in
theorem idxNilRls (f : Value) (w : World) : Calls Tryz.prog 110 #[nilK, f] w fun e w' => e = .returned (.int .i64 (-1)) ∧ w = w' := by
  unfold nilK
  go_enter Tryz.func110, Tryz.ntmps110
  go_wp2
  go_loop [8] (fun i => i = .int .i64 0) (fun _ => 0)
  case atStart => rfl
  case round =>
    subst hrel
    go_wp2
    go_ret
    exact ⟨rfl, rfl⟩
set_option maxHeartbeats 1000000 in
theorem contNilRls (f : Value) (w : World) : Calls Tryz.prog 74 #[nilK, f] w fun e w' => e = .returned (.bool false) ∧ w = w' := by
  have I := fun W => idxNilRls f W
  unfold nilK at I ⊢
  go_enter Tryz.func74, Tryz.ntmps74
  go_wp2_with (go_at_call 110; (with_reducible refine (I _).mono ?_); rintro e w1 ⟨rfl, rfl⟩)
  go_ret
  exact ⟨rfl, rfl⟩
set_option maxHeartbeats 1000000 in
theorem idxNilRel (f : Value) (w : World) : Calls Tryz.prog 133 #[nilK, f] w fun e w' => e = .returned (.int .i64 (-1)) ∧ w = w' := by
  unfold nilK
  go_enter Tryz.func133, Tryz.ntmps133
  go_wp2
  go_loop [8] (fun i => i = .int .i64 0) (fun _ => 0)
  case atStart => rfl
  case round =>
    subst hrel
    go_wp2
    go_ret
    exact ⟨rfl, rfl⟩
set_option maxHeartbeats 1000000 in
theorem contNilRel (f : Value) (w : World) : Calls Tryz.prog 111 #[nilK, f] w fun e w' => e = .returned (.bool false) ∧ w = w' := by
  have I := fun W => idxNilRel f W
  unfold nilK at I ⊢
  go_enter Tryz.func111, Tryz.ntmps111
  go_wp2_with (go_at_call 133; (with_reducible refine (I _).mono ?_); rintro e w1 ⟨rfl, rfl⟩)
  go_ret
  exact ⟨rfl, rfl⟩
set_option maxHeartbeats 1000000 in
theorem idxNilAct (f : Value) (w : World) : Calls Tryz.prog 118 #[nilK, f] w fun e w' => e = .returned (.int .i64 (-1)) ∧ w = w' := by
  unfold nilK
  go_enter Tryz.func118, Tryz.ntmps118
  go_wp2
  go_loop [8] (fun i => i = .int .i64 0) (fun _ => 0)
  case atStart => rfl
  case round =>
    subst hrel
    go_wp2
    go_ret
    exact ⟨rfl, rfl⟩
set_option maxHeartbeats 1000000 in
theorem contNilAct (f : Value) (w : World) : Calls Tryz.prog 89 #[nilK, f] w fun e w' => e = .returned (.bool false) ∧ w = w' := by
  have I := fun W => idxNilAct f W
  unfold nilK at I ⊢
  go_enter Tryz.func89, Tryz.ntmps89
  go_wp2_with (go_at_call 118; (with_reducible refine (I _).mono ?_); rintro e w1 ⟨rfl, rfl⟩)
  go_ret
  exact ⟨rfl, rfl⟩
set_option maxHeartbeats 1000000 in
theorem everyNilStr (g : Nat) (lb : Array Value) (w : World) : Calls Tryz.prog 40 #[nilK, .func (.func g) #[] lb] w fun e w' => e = .returned (.bool true) ∧ Below w.heap.size w w' := by
  have I := fun f W => contNilStr f W
  unfold nilK at I ⊢
  have HB := Lib.hid ((Below.refl w.heap.size w).alloc (Nat.le_refl _) (.cells #[.func (.func g) #[] lb] 47))
  go_enter Tryz.func40, Tryz.ntmps40
  go_wp2_with (go_at_call 64; (with_reducible refine (I _ _).mono ?_); rintro e w1 ⟨rfl, rfl⟩)
  go_ret
  exact ⟨rfl, HB.out⟩
set_option maxHeartbeats 1000000 in
theorem everyNilFil (g : Nat) (lb : Array Value) (w : World) : Calls Tryz.prog 51 #[nilK, .func (.func g) #[] lb] w fun e w' => e = .returned (.bool true) ∧ Below w.heap.size w w' := by
  have I := fun f W => contNilFil f W
  unfold nilK at I ⊢
  have HB := Lib.hid ((Below.refl w.heap.size w).alloc (Nat.le_refl _) (.cells #[.func (.func g) #[] lb] 76))
  go_enter Tryz.func51, Tryz.ntmps51
  go_wp2_with (go_at_call 82; (with_reducible refine (I _ _).mono ?_); rintro e w1 ⟨rfl, rfl⟩)
  go_ret
  exact ⟨rfl, HB.out⟩
set_option maxHeartbeats 1000000 in
theorem everyNilAct (g : Nat) (lb : Array Value) (w : World) : Calls Tryz.prog 57 #[nilK, .func (.func g) #[] lb] w fun e w' => e = .returned (.bool true) ∧ Below w.heap.size w w' := by
  have I := fun f W => contNilAct f W
  unfold nilK at I ⊢
  have HB := Lib.hid ((Below.refl w.heap.size w).alloc (Nat.le_refl _) (.cells #[.func (.func g) #[] lb] 31))
  go_enter Tryz.func57, Tryz.ntmps57
  go_wp2_with (go_at_call 89; (with_reducible refine (I _ _).mono ?_); rintro e w1 ⟨rfl, rfl⟩)
  go_ret
  exact ⟨rfl, HB.out⟩
end Go.Proofs.YtolpcnhgmmnmcaaGreatDoor
