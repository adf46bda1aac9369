/-
  slices.IndexFunc, ContainsFunc, and the program's every, full and joined, of nothing: what each returns; nothing old turns.
-/
import Derived.Test.YtmbbfdfhkdkmnaaGreatDoorLBase
import Derived.Test.YtmbbfdfhkdkmnaaGreatDoorAtB
import Derived.Test.YtmbbfdfhkdkmnaaGreatDoorShelf
namespace Go.Proofs.YtmbbfdfhkdkmnaaGreatDoor
open Go.RowKit Go.Shelf
abbrev nilK : Value := .slice none 0 0
set_option maxHeartbeats 1000000 in
theorem idxNilStr (f : Value) (w : World) : Calls Tryz.prog 96 #[nilK, f] w fun e w' => e = .returned (.int .i64 (-1)) ∧ w = w' := by
  unfold nilK
  go_enter Tryz.func96, Tryz.ntmps96
  go_wp2
  go_loop [8] (fun i => i = .int .i64 0) (fun _ => 0)
  case atStart => rfl
  case round =>
    subst hrel
    go_wp2
    go_ret
    exact ⟨rfl, rfl⟩
set_option maxHeartbeats 1000000 in
theorem contNilStr (f : Value) (w : World) : Calls Tryz.prog 68 #[nilK, f] w fun e w' => e = .returned (.bool false) ∧ w = w' := by
  have I := fun W => idxNilStr f W
  unfold nilK at I ⊢
  go_enter Tryz.func68, Tryz.ntmps68
  go_wp2_with (go_at_call 96; (with_reducible refine (I _).mono ?_); rintro e w1 ⟨rfl, rfl⟩)
  go_ret
  exact ⟨rfl, rfl⟩
set_option maxHeartbeats 1000000 in
theorem idxNilFil (f : Value) (w : World) : Calls Tryz.prog 97 #[nilK, f] w fun e w' => e = .returned (.int .i64 (-1)) ∧ w = w' := by
  unfold nilK
  go_enter Tryz.func97, Tryz.ntmps97
  go_wp2
  go_loop [8] (fun i => i = .int .i64 0) (fun _ => 0)
  case atStart => rfl
  case round =>
    subst hrel
    go_wp2
    go_ret
    exact ⟨rfl, rfl⟩
set_option maxHeartbeats 1000000 in
theorem contNilFil (f : Value) (w : World) : Calls Tryz.prog 71 #[nilK, f] w fun e w' => e = .returned (.bool false) ∧ w = w' := by
  have I := fun W => idxNilFil f W
  unfold nilK at I ⊢
  go_enter Tryz.func71, Tryz.ntmps71
  go_wp2_with (go_at_call 97; (with_reducible refine (I _).mono ?_); rintro e w1 ⟨rfl, rfl⟩)
  go_ret
  exact ⟨rfl, rfl⟩
set_option maxHeartbeats 1000000 in
theorem idxNilRls (f : Value) (w : World) : Calls Tryz.prog 91 #[nilK, f] w fun e w' => e = .returned (.int .i64 (-1)) ∧ w = w' := by
  unfold nilK
  go_enter Tryz.func91, Tryz.ntmps91
  go_wp2
  go_loop [8] (fun i => i = .int .i64 0) (fun _ => 0)
  case atStart => rfl
  case round =>
    subst hrel
    go_wp2
    go_ret
    exact ⟨rfl, rfl⟩
set_option maxHeartbeats 1000000 in
theorem contNilRls (f : Value) (w : World) : Calls Tryz.prog 61 #[nilK, f] w fun e w' => e = .returned (.bool false) ∧ w = w' := by
  have I := fun W => idxNilRls f W
  unfold nilK at I ⊢
  go_enter Tryz.func61, Tryz.ntmps61
  go_wp2_with (go_at_call 91; (with_reducible refine (I _).mono ?_); rintro e w1 ⟨rfl, rfl⟩)
  go_ret
  exact ⟨rfl, rfl⟩
set_option maxHeartbeats 1000000 in
theorem idxNilRel (f : Value) (w : World) : Calls Tryz.prog 113 #[nilK, f] w fun e w' => e = .returned (.int .i64 (-1)) ∧ w = w' := by
  unfold nilK
  go_enter Tryz.func113, Tryz.ntmps113
  go_wp2
  go_loop [8] (fun i => i = .int .i64 0) (fun _ => 0)
  case atStart => rfl
  case round =>
    subst hrel
    go_wp2
    go_ret
    exact ⟨rfl, rfl⟩
set_option maxHeartbeats 1000000 in
theorem contNilRel (f : Value) (w : World) : Calls Tryz.prog 92 #[nilK, f] w fun e w' => e = .returned (.bool false) ∧ w = w' := by
  have I := fun W => idxNilRel f W
  unfold nilK at I ⊢
  go_enter Tryz.func92, Tryz.ntmps92
  go_wp2_with (go_at_call 113; (with_reducible refine (I _).mono ?_); rintro e w1 ⟨rfl, rfl⟩)
  go_ret
  exact ⟨rfl, rfl⟩
set_option maxHeartbeats 1000000 in
theorem idxNilAct (f : Value) (w : World) : Calls Tryz.prog 101 #[nilK, f] w fun e w' => e = .returned (.int .i64 (-1)) ∧ w = w' := by
  unfold nilK
  go_enter Tryz.func101, Tryz.ntmps101
  go_wp2
  go_loop [8] (fun i => i = .int .i64 0) (fun _ => 0)
  case atStart => rfl
  case round =>
    subst hrel
    go_wp2
    go_ret
    exact ⟨rfl, rfl⟩
set_option maxHeartbeats 1000000 in
theorem contNilAct (f : Value) (w : World) : Calls Tryz.prog 78 #[nilK, f] w fun e w' => e = .returned (.bool false) ∧ w = w' := by
  have I := fun W => idxNilAct f W
  unfold nilK at I ⊢
  go_enter Tryz.func78, Tryz.ntmps78
  go_wp2_with (go_at_call 101; (with_reducible refine (I _).mono ?_); rintro e w1 ⟨rfl, rfl⟩)
  go_ret
  exact ⟨rfl, rfl⟩
set_option maxHeartbeats 1000000 in
theorem everyNilStr (g : Nat) (lb : Array Value) (w : World) : Calls Tryz.prog 35 #[nilK, .func (.func g) #[] lb] w fun e w' => e = .returned (.bool true) ∧ Below w.heap.size w w' := by
  have I := fun f W => contNilStr f W
  unfold nilK at I ⊢
  have HB := Lib.hid ((Below.refl w.heap.size w).alloc (Nat.le_refl _) (.cells #[.func (.func g) #[] lb] 23))
  go_enter Tryz.func35, Tryz.ntmps35
  go_wp2_with (go_at_call 68; (with_reducible refine (I _ _).mono ?_); rintro e w1 ⟨rfl, rfl⟩)
  go_ret
  exact ⟨rfl, HB.out⟩
set_option maxHeartbeats 1000000 in
theorem everyNilFil (g : Nat) (lb : Array Value) (w : World) : Calls Tryz.prog 39 #[nilK, .func (.func g) #[] lb] w fun e w' => e = .returned (.bool true) ∧ Below w.heap.size w w' := by
  have I := fun f W => contNilFil f W
  unfold nilK at I ⊢
  have HB := Lib.hid ((Below.refl w.heap.size w).alloc (Nat.le_refl _) (.cells #[.func (.func g) #[] lb] 64))
  go_enter Tryz.func39, Tryz.ntmps39
  go_wp2_with (go_at_call 71; (with_reducible refine (I _ _).mono ?_); rintro e w1 ⟨rfl, rfl⟩)
  go_ret
  exact ⟨rfl, HB.out⟩
set_option maxHeartbeats 1000000 in
theorem everyNilAct (g : Nat) (lb : Array Value) (w : World) : Calls Tryz.prog 45 #[nilK, .func (.func g) #[] lb] w fun e w' => e = .returned (.bool true) ∧ Below w.heap.size w w' := by
  have I := fun f W => contNilAct f W
  unfold nilK at I ⊢
  have HB := Lib.hid ((Below.refl w.heap.size w).alloc (Nat.le_refl _) (.cells #[.func (.func g) #[] lb] 34))
  go_enter Tryz.func45, Tryz.ntmps45
  go_wp2_with (go_at_call 78; (with_reducible refine (I _ _).mono ?_); rintro e w1 ⟨rfl, rfl⟩)
  go_ret
  exact ⟨rfl, HB.out⟩
end Go.Proofs.YtmbbfdfhkdkmnaaGreatDoor
