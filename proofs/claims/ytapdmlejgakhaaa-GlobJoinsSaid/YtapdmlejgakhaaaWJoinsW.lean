/-
  The law GlobJoins, walked: true; nothing old turns.
-/
import Derived.Test.YtapdmlejgakhaaaWAwake
namespace Go.Proofs.Ytapdmlejgakhaaa.globJoinsw
open Go.RowKit
def M (p s : ByteArray) : Bool := matchL p.data.toList s.data.toList
theorem m_any (p s : ByteArray) (hs : s.size ≤ 400) (w : World) : Calls Try.prog 8 #[.string p, .string s] w fun e w' => e = .returned (.bool (M p s)) ∧ Below w.heap.size w w' := match_any p s (by omega) w
theorem apL (x y : ByteArray) : (x ++ y).data.toList = x.data.toList ++ y.data.toList := by simp
theorem m_join {p q x y : ByteArray} (hp : p.size ≤ 100) (hq : q.size ≤ 100) (h1 : M p x = true) (h2 : M q y = true) : M (p ++ q) (x ++ y) = true := by
  unfold M at *
  rw [apL, apL]
  exact match_join (by rw [← sizeOf]; exact hp) (by rw [← sizeOf]; exact hq) h1 h2
set_option maxRecDepth 100000 in
set_option maxHeartbeats 8000000 in
theorem walk (p q x y : ByteArray) (w : World) : Calls Try.prog 4 #[.string p, .string q, .agg #[.string x, .string y]] w fun e w' => e = .returned (.bool true) ∧ Below w.heap.size w w' := by
  have A29 := fun W => awake29 W
  have HB0 := Lib.hid ((Below.refl w.heap.size w).alloc (Nat.le_refl _) (.cells #[.string x, .string y] 26))
  obtain ⟨z0, z1⟩ := boxV2 w (.string x) (.string y) 26
  by_cases h1 : 100 < p.size
  · go_enter Try.func4, Try.ntmps4
    go_wp2_with (go_at_call 5; (with_reducible refine (A29 _).mono ?_); rintro e w1 ⟨rfl, hb⟩; have HB := Lib.hid (HB0.out.trans (hb.mono HB0.out.size)); clear hb)
    go_ret
    exact ⟨rfl, HB.out⟩
  by_cases h2 : 100 < q.size
  · go_enter Try.func4, Try.ntmps4
    go_wp2_with (go_at_call 5; (with_reducible refine (A29 _).mono ?_); rintro e w1 ⟨rfl, hb⟩; have HB := Lib.hid (HB0.out.trans (hb.mono HB0.out.size)); clear hb)
    go_ret
    exact ⟨rfl, HB.out⟩
  by_cases h3 : 200 < x.size
  · go_enter Try.func4, Try.ntmps4
    go_wp2_with (go_at_call 5; (with_reducible refine (A29 _).mono ?_); rintro e w1 ⟨rfl, hb⟩; have HB := Lib.hid (HB0.out.trans (hb.mono HB0.out.size)); clear hb)
    go_ret
    exact ⟨rfl, HB.out⟩
  by_cases h4 : 200 < y.size
  · go_enter Try.func4, Try.ntmps4
    go_wp2_with (go_at_call 5; (with_reducible refine (A29 _).mono ?_); rintro e w1 ⟨rfl, hb⟩; have HB := Lib.hid (HB0.out.trans (hb.mono HB0.out.size)); clear hb)
    go_ret
    exact ⟨rfl, HB.out⟩
  have CM1 := fun W => m_any p x (by omega) W
  have CM2 := fun W => m_any q y (by omega) W
  have CM3 := fun W => m_any (p ++ q) (x ++ y) (by rw [ByteArray.size_append]; omega) W
  have HJ := Lib.hid (m_join (p := p) (q := q) (x := x) (y := y) (by omega) (by omega))
  have hpq : ¬ 9223372036854775807 < p.size + q.size := by omega
  have hxy : ¬ 9223372036854775807 < x.size + y.size := by omega
  have hbs : w.heap.size < (w.alloc (.cells #[.string x, .string y] 26)).heap.size := by rw [World.size_alloc]; omega
  cases ha : M p x
  · rw [ha] at CM1
    clear HJ CM3 CM2 ha
    go_enter Try.func4, Try.ntmps4
    go_wp2_with (first
      | (go_at_call 8; (with_reducible refine (CM1 _).mono ?_); rintro e w1 ⟨rfl, hb⟩; have HB1 := Lib.hid (HB0.out.trans (hb.mono HB0.out.size)); clear hb)
      | (go_at_call 5; (with_reducible refine (A29 _).mono ?_); rintro e w2 ⟨rfl, hb⟩; have HB := Lib.hid (HB1.out.trans (hb.mono HB1.out.size)); clear hb))
    go_ret
    exact ⟨rfl, HB.out⟩
  have hx := ha
  rw [ha] at CM1
  cases hc : M q y
  · rw [hc] at CM2
    clear HJ CM3 hc ha hx
    go_enter Try.func4, Try.ntmps4
    go_wp2_with (first
      | (go_at_call 8; (with_reducible refine (CM1 _).mono ?_); rintro e w1 ⟨rfl, hb⟩; have HB1 := Lib.hid (HB0.out.trans (hb.mono HB0.out.size)); have y1 := (hb.cell (p := ⟨w.heap.size, 1, none⟩) hbs).trans z1; clear hb CM1)
      | (go_at_call 8; (with_reducible refine (CM2 _).mono ?_); rintro e w2 ⟨rfl, hb⟩; have HB2 := Lib.hid (HB1.out.trans (hb.mono HB1.out.size)); clear hb)
      | (go_at_call 5; (with_reducible refine (A29 _).mono ?_); rintro e w3 ⟨rfl, hb⟩; have HB := Lib.hid (HB2.out.trans (hb.mono HB2.out.size)); clear hb))
    go_ret
    exact ⟨rfl, HB.out⟩
  rw [hc] at CM2
  rw [HJ.out ha hc] at CM3
  clear HJ hc ha hx
  go_enter Try.func4, Try.ntmps4
  go_wp2_with (first
    | (go_at_call 8; (with_reducible refine (CM1 _).mono ?_); rintro e w1 ⟨rfl, hb⟩; have HB1 := Lib.hid (HB0.out.trans (hb.mono HB0.out.size)); have y0 := (hb.cell (p := ⟨w.heap.size, 0, none⟩) hbs).trans z0; have y1 := (hb.cell (p := ⟨w.heap.size, 1, none⟩) hbs).trans z1; have hbs1 := Nat.lt_of_lt_of_le hbs hb.size; clear hb CM1 z0 z1)
    | (go_at_call 8; (with_reducible refine (CM2 _).mono ?_); rintro e w2 ⟨rfl, hb⟩; have HB2 := Lib.hid (HB1.out.trans (hb.mono HB1.out.size)); have x0 := (hb.cell (p := ⟨w.heap.size, 0, none⟩) hbs1).trans y0; have x1 := (hb.cell (p := ⟨w.heap.size, 1, none⟩) hbs1).trans y1; clear hb CM2 y0 y1)
    | (go_at_call 8; (with_reducible refine (CM3 _).mono ?_); rintro e w3 ⟨rfl, hb⟩; have HB3 := Lib.hid (HB2.out.trans (hb.mono HB2.out.size)); clear hb CM3)
    | (go_at_call 5; (with_reducible refine (A29 _).mono ?_); rintro e w4 ⟨rfl, hb⟩; have HB := Lib.hid (HB3.out.trans (hb.mono HB3.out.size)); clear hb))
  go_ret
  exact ⟨rfl, HB.out⟩
end Go.Proofs.Ytapdmlejgakhaaa.globJoinsw
