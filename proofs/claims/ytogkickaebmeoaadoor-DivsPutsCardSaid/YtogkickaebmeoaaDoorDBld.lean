/-
  A strings.Builder in a loop; cmp.Or of two texts: what they hold and return.
-/
import Derived.Test.YtogkickaebmeoaaDoorDChk
import Derived.Shelf.Strings.BuilderK
namespace Go.Proofs.YtogkickaebmeoaaDoor
open Go.RowKit Go.Shelf
abbrev tB : TypeId := 65
abbrev tU : TypeId := 5
/-- The Builder at block b (all that is its own from B on) holds the bytes l. -/
abbrev Bld (B b : Nat) (l : Bs) (w : World) : Prop := Lib.IsBuilderF tB tU B b (Lib.byteCells l) w
/-- What no writing into the Builder turns. -/
abbrev Oth (b : Nat) (w w' : World) : Prop := Lib.OthersKept tU (some b) w w'
theorem wstr_any (B b : Nat) (l : Bs) (s : ByteArray) (w : World) (h : Bld B b l w) (hl : l.length ≤ 100000000000) (hs : s.size ≤ 1000000) (hB : B ≤ w.heap.size) :
    Calls Tryd.prog 42 #[.pointer (some ⟨b, 0, none⟩), .string s] w fun e w' => ∃ v, e = .returned v ∧ Bld B b (l ++ s.data.toList) w' ∧ Below B w w' ∧ Oth b w w' := by
  have := Any.Builder_WriteString_k (ρ := Tryd.lays156_ren) { Tryd.lays156 with } Tryd.Builder_Extra_156 B b (Lib.byteCells l) s w h (by rw [Lib.byteCells_length]; omega) hB
  refine Calls.mono this fun e w' hp => ⟨_, hp.1, .inr ?_, hp.2.2.1, hp.2.2.2⟩
  rw [Lib.byteCells_append]; exact hp.2.1
theorem bld_new (B : Nat) (w : World) (h : B ≤ w.heap.size) : Bld B w.heap.size [] (w.alloc (.cells #[.pointer none, .slice none 0 0] tB)) :=
  .inl ⟨h, .slice none 0 0, heap_alloc_new w _, World.ownsRowF_nil _ _ _ _, by simp [Value.ownBlock]⟩
theorem bstr_any (B b : Nat) (l : Bs) (w : World) (h : Bld B b l w) (hB : B ≤ w.heap.size) : Calls Tryd.prog 43 #[.pointer (some ⟨b, 0, none⟩)] w fun e w' => e = .returned (.string ⟨l.toArray⟩) ∧ Below B w w' :=
  (Tryd.Builder_String_any_k B b l w h hB).mono fun _ _ hp => ⟨hp.1, hp.2.2.1⟩
theorem heap_oth {W W' : World} {b k : Nat} {cs : Array Value} {t : TypeId} {fz : Nat × Nat} (h : W.heap[k]? = some (.cells cs t fz)) (ho : Oth b W W') (hk : k ≠ b) (ht : t ≠ tU) : W'.heap[k]? = some (.cells cs t fz) :=
  ho k _ h (fun e => hk (Option.some.inj e)) (fun c fz' e => by cases e; exact ht rfl)
theorem cell_heap {W : World} {k i : Nat} {cs : Array Value} {t : TypeId} {fz : Nat × Nat} {v : Value} (h : W.heap[k]? = some (.cells cs t fz)) (hv : cs[i]? = some v) : W.cell? ⟨k, i, none⟩ = some v := by rw [cellRow W k i cs t fz h, hv]
def orT (a b : ByteArray) : ByteArray := if a.data.toList = [] then b else a
set_option maxRecDepth 100000 in
set_option maxHeartbeats 4000000 in
theorem or2s (B : Nat) (a b : ByteArray) (hb : b.data.toList ≠ []) (w : World) (h0 : w.cell? ⟨B, 0, none⟩ = some (.string a)) (h1 : w.cell? ⟨B, 1, none⟩ = some (.string b)) :
    Calls Tryd.prog 89 #[.slice (some ⟨B, 0, none⟩) 2 2] w fun e w' => e = .returned (.string (orT a b)) ∧ w = w' := by
  have ea := byEmpty a
  have eb := byEmpty b
  rw [decide_eq_false hb] at eb
  have za := eqTL a []
  have zb := eqTL b []
  rw [decide_eq_false hb] at zb
  obtain ⟨R, HR⟩ : ∃ R, Hid (orT a b = R) := ⟨_, rfl⟩
  rw [HR.out]
  unfold orT at HR
  go_enter Tryd.func89, Tryd.ntmps89
  go_wp2
  go_loop [8] (fun i => ∃ k : Nat, k ≤ 1 ∧ i = .int .i64 k ∧ Hid (k = 1 → a.data.toList = [])) (fun i => 2 - (intOf i).toNat)
  case atStart => exact ⟨0, by omega, rfl, Lib.hid (fun h => by omega)⟩
  case round =>
    obtain ⟨k, hk, rfl, H⟩ := hrel
    by_cases hk0 : k = 0
    · subst hk0
      by_cases ha : a.data.toList = []
      · rw [decide_eq_true ha] at ea za
        have HK : Hid (0 + 1 = 1 → a.data.toList = []) := Lib.hid (fun _ => ha)
        clear ha H
        go_wp2
        go_round
        case rel => exact ⟨0 + 1, by omega, by go_num, HK⟩
        case measure => simp [intOf]
      · rw [decide_eq_false ha] at ea za
        have HF : Hid (a = R) := Lib.hid (by rw [← HR.out, if_neg ha])
        clear ha H
        go_wp2
        go_ret
        exact ⟨congrArg (fun x => Ending.returned (Value.string x)) HF.out, rfl⟩
    · obtain rfl : k = 1 := by omega
      have HF : Hid (b = R) := Lib.hid (by rw [← HR.out, if_pos (H.out rfl)])
      clear H hk0
      go_wp2
      go_ret
      exact ⟨congrArg (fun x => Ending.returned (Value.string x)) HF.out, rfl⟩
end Go.Proofs.YtogkickaebmeoaaDoor
