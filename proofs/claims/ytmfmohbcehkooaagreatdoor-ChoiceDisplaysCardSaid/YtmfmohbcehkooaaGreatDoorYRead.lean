/-
  The program's reading of a line of selections: what it returns; nothing old turns.
-/
import Derived.Test.YtmfmohbcehkooaaGreatDoorYSmall
import Derived.Test.YtmfmohbcehkooaaGreatDoorBoxV
import Derived.Test.YtmfmohbcehkooaaGreatDoorSPLines2
namespace Go.Proofs.YtmfmohbcehkooaaGreatDoor
open Go.RowKit
theorem cut_head {s : ByteArray} {c : UInt8} {X Y : ByteArray} {ok : Bool} (h : CutIs s c X Y ok) : X.data.toList = headC c s.data.toList ∧ Y.data.toList = tailC c s.data.toList := by
  rcases h with ⟨_, h, hX, hY⟩ | ⟨_, k, h, hk, rfl, rfl⟩
  · have hn : firstI c s.data.toList < 0 := by omega
    have := headC_no (firstI_neg.1 hn)
    rw [hX, hY]
    exact ⟨this.1.symm, this.2.symm⟩
  · obtain ⟨h1, h2⟩ := first_not h (by rw [← sizeOf]; exact hk)
    have e1 : (s.extract 0 k).data.toList = s.data.toList.take k := by rw [extL]; simp
    have e2 : (s.extract (k + 1) s.size).data.toList = s.data.toList.drop (k + 1) := by rw [extL, List.take_of_length_le (by rw [List.length_drop, ← sizeOf]; omega)]
    have := headC_at (c := c) (r := s.data.toList.drop (k + 1)) h1
    rw [← h2] at this
    rw [e1, e2]; exact ⟨this.1.symm, this.2.symm⟩
theorem cutY_any (s : ByteArray) (hs : s.size ≤ 100000) (w : World) : Calls Tryz.prog 112 #[.string s, .string ⟨#[32]⟩] w fun e w' => ∃ ok : Bool, e = .returned (.tuple #[.string (bsT (headC 32 s.data.toList)), .string (bsT (tailC 32 s.data.toList)), .bool ok]) ∧ Below w.heap.size w w' :=
  (cut2_any s hs 32 w).mono fun e w' ⟨X, Y, ok, he, hc, q, hq⟩ => by
    obtain ⟨h1, h2⟩ := cut_head hc.out
    exact ⟨ok, by rw [he, strOf h1, strOf h2], by rw [hq]; exact belowQ (Below.refl _ _) q⟩
theorem itself_any (x : ByteArray) (w : World) : Calls Tryz.prog 86 #[.string x] w fun e w' => e = .returned (.string x) ∧ w = w' := by
  go_enter Tryz.func86, Tryz.ntmps86
  go_wp2
  go_ret
  exact ⟨rfl, rfl⟩
theorem isMan_any (x : ByteArray) (w : World) : Calls Tryz.prog 88 #[.string x] w fun e w' => e = .returned (.bool (decide (x.data.toList = manY))) ∧ w = w' := by
  have q := eqTL x [109, 97, 110, 117, 97, 108]
  unfold manY
  generalize decide (x.data.toList = [109, 97, 110, 117, 97, 108]) = b at *
  go_enter Tryz.func88, Tryz.ntmps88
  go_wp2
  go_ret
  exact ⟨rfl, rfl⟩
set_option maxRecDepth 100000 in
set_option maxHeartbeats 4000000 in
theorem takenS_any (s : ByteArray) (hs : s.size ≤ 100000) (w : World) : Calls Tryz.prog 85 #[.string s, .func (.func 86) #[] #[]] w fun e w' => e = .returned (.tuple #[.string (bsT (headC 32 s.data.toList)), .string (bsT (tailC 32 s.data.toList))]) ∧ Below w.heap.size w w' := by
  have C := cutY_any s hs w
  generalize bsT (headC 32 s.data.toList) = X at *
  generalize bsT (tailC 32 s.data.toList) = Y at *
  go_enter Tryz.func85, Tryz.ntmps85
  go_wp2_with (first
    | (go_at_call 112; (with_reducible refine C.mono ?_); rintro e w1 ⟨ok, rfl, hb⟩; have HB := Lib.hid hb; clear hb C)
    | (go_at_call 86; (with_reducible refine (itself_any _ _).mono ?_); rintro e w2 ⟨rfl, rfl⟩))
  go_ret2
  exact ⟨rfl, HB.out⟩
set_option maxRecDepth 100000 in
set_option maxHeartbeats 4000000 in
theorem takenB_any (s : ByteArray) (hs : s.size ≤ 100000) (w : World) : Calls Tryz.prog 87 #[.string s, .func (.func 88) #[] #[]] w fun e w' => e = .returned (.tuple #[.bool (decide (headC 32 s.data.toList = manY)), .string (bsT (tailC 32 s.data.toList))]) ∧ Below w.heap.size w w' := by
  have C := cutY_any s hs w
  have M : ∀ W, Calls Tryz.prog 88 #[.string (bsT (headC 32 s.data.toList))] W fun e w' => e = .returned (.bool (decide (headC 32 s.data.toList = manY))) ∧ W = w' := fun W => by
    have := isMan_any (bsT (headC 32 s.data.toList)) W
    rwa [bytesOf] at this
  generalize decide (headC 32 s.data.toList = manY) = m at *
  generalize bsT (headC 32 s.data.toList) = X at *
  generalize bsT (tailC 32 s.data.toList) = Y at *
  go_enter Tryz.func87, Tryz.ntmps87
  go_wp2_with (first
    | (go_at_call 112; (with_reducible refine C.mono ?_); rintro e w1 ⟨ok, rfl, hb⟩; have HB := Lib.hid hb; clear hb C)
    | (go_at_call 88; (with_reducible refine (M _).mono ?_); rintro e w2 ⟨rfl, rfl⟩))
  go_ret2
  exact ⟨rfl, HB.out⟩
def ReadYP (s : Bs) (w : World) (e : Ending) (w' : World) : Prop := e = .returned (aggY (rdY s)) ∧ Below w.heap.size w w'
set_option maxRecDepth 100000 in
set_option maxHeartbeats 8000000 in
theorem readY_any (s : ByteArray) (hs : s.size ≤ 100000) (w : World) : Calls Tryz.prog 58 #[.string s] w (ReadYP s.data.toList w) := by
  have l1 := headC_len 32 s.data.toList
  have l2 := headC_len 32 (tailC 32 s.data.toList)
  rw [← sizeOf] at l1
  have A1 := fun W => takenS_any s hs W
  have A2 : ∀ W, Calls Tryz.prog 87 #[.string (bsT (tailC 32 s.data.toList)), .func (.func 88) #[] #[]] W fun e w' => e = .returned (.tuple #[.bool (decide (headC 32 (tailC 32 s.data.toList) = manY)), .string (bsT (tailC 32 (tailC 32 s.data.toList)))]) ∧ Below W.heap.size W w' := fun W => by
    have := takenB_any (bsT (tailC 32 s.data.toList)) (by rw [sizeOf, bytesOf]; omega) W
    rwa [bytesOf] at this
  have A3 : ∀ W, Calls Tryz.prog 85 #[.string (bsT (tailC 32 (tailC 32 s.data.toList))), .func (.func 86) #[] #[]] W fun e w' => e = .returned (.tuple #[.string (bsT (headC 32 (tailC 32 (tailC 32 s.data.toList)))), .string (bsT (tailC 32 (tailC 32 (tailC 32 s.data.toList))))]) ∧ Below W.heap.size W w' := fun W => by
    have := takenS_any (bsT (tailC 32 (tailC 32 s.data.toList))) (by rw [sizeOf, bytesOf]; omega) W
    rwa [bytesOf] at this
  have HP : Hid (∀ w', Below w.heap.size w w' → ReadYP s.data.toList w (.returned (.agg #[.string (bsT (headC 32 s.data.toList)), .bool (decide (headC 32 (tailC 32 s.data.toList) = manY)), .string (bsT (headC 32 (tailC 32 (tailC 32 s.data.toList))))])) w') := Lib.hid (fun w' hb => ⟨rfl, hb⟩)
  have HB0 := Lib.hid ((Below.refl w.heap.size w).alloc (Nat.le_refl _) (.cells #[.string ⟨#[]⟩, .bool false, .string ⟨#[]⟩] 55))
  generalize decide (headC 32 (tailC 32 s.data.toList) = manY) = m at *
  generalize bsT (headC 32 s.data.toList) = X at *
  generalize bsT (tailC 32 s.data.toList) = Y at *
  generalize bsT (headC 32 (tailC 32 (tailC 32 s.data.toList))) = U at *
  generalize bsT (tailC 32 (tailC 32 s.data.toList)) = V at *
  generalize bsT (tailC 32 (tailC 32 (tailC 32 s.data.toList))) = T at *
  clear l1 l2 hs
  have BX := Box3.new w (.string ⟨#[]⟩) (.bool false) (.string ⟨#[]⟩) 55
  have HBX := Lib.hid BX
  clear BX
  go_enter Tryz.func58, Tryz.ntmps58
  go_wp2_with (first
    | (go_at_call 87; (with_reducible refine (A2 _).mono ?_); rintro e w2 ⟨rfl, hb⟩; have HB2 := Lib.hid (HB1.out.trans (hb.mono HB1.out.size)); have HX2 := Lib.hid (HX1.out.on hb); clear hb A2)
    | (go_at_call 85; (with_reducible refine (A1 _).mono ?_); rintro e w1 ⟨rfl, hb⟩; have HB1 := Lib.hid (HB0.out.trans (hb.mono HB0.out.size)); have HX1 := Lib.hid (HBX.out.on hb); clear hb A1)
    | (go_at_call 85; (with_reducible refine (A3 _).mono ?_); rintro e w3 ⟨rfl, hb⟩; have HB3 := Lib.hid (HB2.out.trans (hb.mono HB2.out.size)); have HX3 := Lib.hid (HX2.out.on hb); obtain ⟨c0, c1, c2, hf⟩ := HX3.out; have f0 := hf 0; have f1 := hf 1; have f2 := hf 2; clear hf hb A3))
  obtain ⟨k0, k1, k2⟩ := HX3.out.put (.string X) (.bool m) (.string U)
  exact bodyPost_ret (v := .agg #[.string X, .bool m, .string U]) (by simp [results, Tryz.results58, go_sem, k0, k1, k2]) rfl (HP.out _ (put3_below HB3.out (Nat.le_refl _) _ _ _))
end Go.Proofs.YtmfmohbcehkooaaGreatDoor
