/-
  Places, links, names, what may be empty, slaves and paths of a command, by the program: what each returns; nothing old turns. Condition: LaidA.
-/
import Derived.Test.YtolpcnhgmmnmcaaGreatDoorKEnd
import Derived.Test.YtolpcnhgmmnmcaaGreatDoorKCont
import Derived.Test.YtolpcnhgmmnmcaaGreatDoorPName
import Derived.Test.YtolpcnhgmmnmcaaGreatDoorPClean
namespace Go.Proofs.YtolpcnhgmmnmcaaGreatDoor
open Go.RowKit Go.Shelf
def plK (p : Bs) : Bool := (right p && decide (p ≠ [47])) && !rsvK p
def lkK (p : Bs) : Bool := plK p && decide (p.length ≤ 191)
def nmK (s : Bs) : Bool := nameB s && !endK s
def orK (f : Bs → Bool) (s : Bs) : Bool := decide (s = []) || f s
def prK (n : Int) : Bool := decide (-2147483648 ≤ n) && decide (n ≤ 2147483647)
def slK (x : Sv) : Bool := nmK x.1 && lkK x.2
structure LaidA (w : World) : Prop where
  p : LaidP w
  k : LaidK w
theorem LaidA.on {w w' : World} (h : LaidA w) (hb : Below w.heap.size w w') : LaidA w' := ⟨h.p.on hb, h.k.on hb⟩
set_option maxRecDepth 100000 in
set_option maxHeartbeats 4000000 in
theorem placeK_any (p : ByteArray) (hp : p.size ≤ 4000) (w : World) (h : LaidA w) : Calls Tryz.prog 12 #[.string p] w fun e w' => e = .returned (.bool (plK p.data.toList)) ∧ Below w.heap.size w w' := by
  have R := right_any p hp w h.p
  have S := fun W (hb : Below w.heap.size w W) => reserved_any p hp W (h.k.on hb)
  have q := eqTL p [47]
  unfold plK
  generalize right p.data.toList = r at *
  generalize rsvK p.data.toList = v at *
  clear h
  by_cases h47 : p.data.toList = [47]
  · rw [decide_eq_true h47] at q
    rw [decide_eq_false (by simpa using h47)]
    clear h47
    cases r
    all_goals
      go_enter Tryz.func12, Tryz.ntmps12
      go_wp2_with (go_at_call 34; (with_reducible refine R.mono ?_); rintro e w1 ⟨rfl, hb⟩; have HB := Lib.hid hb; clear hb)
      go_ret
      exact ⟨by simp, HB.out⟩
  · rw [decide_eq_false h47] at q
    rw [decide_eq_true (by simpa using h47)]
    clear h47
    cases r
    all_goals
      go_enter Tryz.func12, Tryz.ntmps12
      go_wp2_with (first
        | (go_at_call 34; (with_reducible refine R.mono ?_); rintro e w1 ⟨rfl, hb⟩; have HB := Lib.hid hb; clear hb)
        | (go_at_call 10; (with_reducible refine (S _ HB.out).mono ?_); rintro e w2 ⟨rfl, rfl⟩))
      go_ret
      exact ⟨by simp, HB.out⟩
set_option maxRecDepth 100000 in
set_option maxHeartbeats 4000000 in
theorem linkK_any (p : ByteArray) (hp : p.size ≤ 4000) (w : World) (h : LaidA w) : Calls Tryz.prog 15 #[.string p] w fun e w' => e = .returned (.bool (lkK p.data.toList)) ∧ Below w.heap.size w w' := by
  have P := placeK_any p hp w h
  unfold lkK
  rw [← sizeOf]
  generalize plK p.data.toList = r at *
  clear h
  by_cases hs : p.size ≤ 191
  all_goals
    cases r
    all_goals
      go_enter Tryz.func15, Tryz.ntmps15
      go_wp2_with (go_at_call 12; (with_reducible refine P.mono ?_); rintro e w1 ⟨rfl, hb⟩; have HB := Lib.hid hb; clear hb)
      go_ret
      exact ⟨retb (by first | rfl | (simp [hs]; done) | (simp; omega)), HB.out⟩
set_option maxRecDepth 100000 in
set_option maxHeartbeats 4000000 in
theorem nameK_any (s : ByteArray) (hs : s.size ≤ 4000) (w : World) (h : LaidA w) : Calls Tryz.prog 18 #[.string s] w fun e w' => e = .returned (.bool (nmK s.data.toList)) ∧ w = w' := by
  have N := name_any s hs w
  have E := ending_any s hs w h.k
  unfold nmK
  generalize nameB s.data.toList = r at *
  generalize endK s.data.toList = v at *
  clear h
  cases r
  all_goals
    go_enter Tryz.func18, Tryz.ntmps18
    go_wp2_with (first
      | (go_at_call 13; (with_reducible refine N.mono ?_); rintro e w1 ⟨rfl, rfl⟩)
      | (go_at_call 33; (with_reducible refine E.mono ?_); rintro e w1 ⟨rfl, rfl⟩))
    go_ret
    exact ⟨by simp, rfl⟩
set_option maxRecDepth 100000 in
set_option maxHeartbeats 4000000 in
theorem orPlace_any (s : ByteArray) (hs : s.size ≤ 4000) (w : World) (h : LaidA w) : Calls Tryz.prog 11 #[.string s, .func (.func 12) #[] #[]] w fun e w' => e = .returned (.bool (orK plK s.data.toList)) ∧ Below w.heap.size w w' := by
  have P := placeK_any s hs w h
  have he := emptyT s
  have hq := eqTL s []
  have HR := Lib.hid (Below.refl w.heap.size w)
  unfold orK
  generalize plK s.data.toList = r at *
  clear h
  by_cases h0 : s.data.toList = []
  · have hz : s.size = 0 := by rw [sizeOf, h0]; rfl
    rw [decide_eq_true hz] at he
    rw [decide_eq_true h0] at hq ⊢
    clear h0 hz
    go_enter Tryz.func11, Tryz.ntmps11
    go_wp2
    go_ret
    exact ⟨rfl, HR.out⟩
  · have hz : ¬ s.size = 0 := fun e => h0 (List.eq_nil_of_length_eq_zero (by rw [← sizeOf]; exact e))
    rw [decide_eq_false hz] at he
    rw [decide_eq_false h0] at hq ⊢
    clear h0 hz
    go_enter Tryz.func11, Tryz.ntmps11
    go_wp2_with (go_at_call 12; (with_reducible refine P.mono ?_); rintro e w1 ⟨rfl, hb⟩; have HB := Lib.hid hb; clear hb)
    go_ret
    exact ⟨by simp, HB.out⟩
set_option maxRecDepth 100000 in
set_option maxHeartbeats 4000000 in
theorem orName_any (s : ByteArray) (hs : s.size ≤ 4000) (w : World) : Calls Tryz.prog 11 #[.string s, .func (.func 13) #[] #[]] w fun e w' => e = .returned (.bool (orK nameB s.data.toList)) ∧ w = w' := by
  have P := name_any s hs w
  have he := emptyT s
  have hq := eqTL s []
  unfold orK
  generalize nameB s.data.toList = r at *
  by_cases h0 : s.data.toList = []
  · have hz : s.size = 0 := by rw [sizeOf, h0]; rfl
    rw [decide_eq_true hz] at he
    rw [decide_eq_true h0] at hq ⊢
    clear h0 hz
    go_enter Tryz.func11, Tryz.ntmps11
    go_wp2
    go_ret
    exact ⟨rfl, rfl⟩
  · have hz : ¬ s.size = 0 := fun e => h0 (List.eq_nil_of_length_eq_zero (by rw [← sizeOf]; exact e))
    rw [decide_eq_false hz] at he
    rw [decide_eq_false h0] at hq ⊢
    clear h0 hz
    go_enter Tryz.func11, Tryz.ntmps11
    go_wp2_with (go_at_call 13; (with_reducible refine P.mono ?_); rintro e w1 ⟨rfl, rfl⟩)
    go_ret
    exact ⟨by simp, rfl⟩
set_option maxHeartbeats 1000000 in
theorem prioK_any (n : Int) (w : World) : Calls Tryz.prog 16 #[.int .i64 n] w fun e w' => e = .returned (.bool (prK n)) ∧ w = w' := by
  unfold prK
  by_cases h0 : -2147483648 ≤ n <;> by_cases h1 : n ≤ 2147483647
  all_goals
    go_enter Tryz.func16, Tryz.ntmps16
    go_wp2
    go_ret
    exact ⟨retb (by simp [*]), rfl⟩
set_option maxRecDepth 100000 in
set_option maxHeartbeats 4000000 in
theorem sl1K_any (x : Sv) (h1 : x.1.length ≤ 4000) (h2 : x.2.length ≤ 4000) (w : World) (h : LaidA w) : Calls Tryz.prog 39 #[aggS x] w fun e w' => e = .returned (.bool (slK x)) ∧ Below w.heap.size w w' := by
  obtain ⟨p, u⟩ := x
  have B0 := (Below.refl w.heap.size w).alloc (Nat.le_refl _) (.cells #[.string (⟨p.toArray⟩ : ByteArray), .string (⟨u.toArray⟩ : ByteArray)] 52)
  have NA : Calls Tryz.prog 18 #[.string (⟨p.toArray⟩ : ByteArray)] (w.alloc (.cells #[.string (⟨p.toArray⟩ : ByteArray), .string (⟨u.toArray⟩ : ByteArray)] 52)) fun e w' => e = .returned (.bool (nmK p)) ∧ (w.alloc (.cells #[.string (⟨p.toArray⟩ : ByteArray), .string (⟨u.toArray⟩ : ByteArray)] 52)) = w' := by
    have := nameK_any ⟨p.toArray⟩ (by rw [sizeOf, bytesOf]; exact h1) _ (h.on B0)
    rwa [bytesOf] at this
  have LI : Calls Tryz.prog 15 #[.string (⟨u.toArray⟩ : ByteArray)] (w.alloc (.cells #[.string (⟨p.toArray⟩ : ByteArray), .string (⟨u.toArray⟩ : ByteArray)] 52)) fun e w' => e = .returned (.bool (lkK u)) ∧ Below (w.alloc (.cells #[.string (⟨p.toArray⟩ : ByteArray), .string (⟨u.toArray⟩ : ByteArray)] 52)).heap.size (w.alloc (.cells #[.string (⟨p.toArray⟩ : ByteArray), .string (⟨u.toArray⟩ : ByteArray)] 52)) w' := by
    have := linkK_any ⟨u.toArray⟩ (by rw [sizeOf, bytesOf]; exact h2) _ (h.on B0)
    rwa [bytesOf] at this
  have HB0 := Lib.hid B0
  obtain ⟨x0, x1⟩ := boxV2 w (.string (⟨p.toArray⟩ : ByteArray)) (.string (⟨u.toArray⟩ : ByteArray)) 52
  unfold slK aggS
  dsimp only
  generalize nmK p = a at *
  generalize lkK u = b at *
  generalize (⟨p.toArray⟩ : ByteArray) = X at *
  generalize (⟨u.toArray⟩ : ByteArray) = U at *
  clear B0 h h1 h2
  cases a
  all_goals
    go_enter Tryz.func39, Tryz.ntmps39
    go_wp2_with (first
      | (go_at_call 18; (with_reducible refine NA.mono ?_); rintro e w1 ⟨rfl, rfl⟩)
      | (go_at_call 15; (with_reducible refine LI.mono ?_); rintro e w1 ⟨rfl, hb⟩; have HB := Lib.hid (HB0.out.trans (hb.mono HB0.out.size)); clear hb))
    go_ret
    first | exact ⟨by simp, HB.out⟩ | exact ⟨by simp, HB0.out⟩
set_option maxHeartbeats 4000000 in
theorem sl2K_any (s : ByteArray) (hs : s.size ≤ 4000) (w : World) (h : LaidA w) : Calls Tryz.prog 41 #[.string s] w fun e w' => e = .returned (.bool (orK plK s.data.toList)) ∧ Below w.heap.size w w' := by
  have P := orPlace_any s hs w h
  generalize orK plK s.data.toList = r at *
  clear h
  go_enter Tryz.func41, Tryz.ntmps41
  go_wp2_with (go_at_call 11; (with_reducible refine P.mono ?_); rintro e w1 ⟨rfl, hb⟩; have HB := Lib.hid hb; clear hb)
  go_ret
  exact ⟨rfl, HB.out⟩
theorem any_not {α : Type} (l : List α) (f : α → Bool) : (l.any fun x => !f x) = !l.all f := by
  induction l with
  | nil => rfl
  | cons x l ih => rw [List.any_cons, List.all_cons, ih, Bool.not_and]
set_option maxRecDepth 100000 in
set_option maxHeartbeats 4000000 in
theorem everyS_any (v : Value) (l : List Sv) (hl : l.length ≤ 90000) (hs : ∀ x ∈ l, x.1.length ≤ 4000 ∧ x.2.length ≤ 4000) (w : World) (h : LaidA w) (hh : HoldS w v l) :
    Calls Tryz.prog 38 #[v, .func (.func 39) #[] #[]] w fun e w' => e = .returned (.bool (l.all slK)) ∧ Below w.heap.size w w' := by
  have B0 := (Below.refl w.heap.size w).alloc (Nat.le_refl _) (.cells #[.func (.func 39) #[] #[]] 62)
  have x0 := boxV1 w (.func (.func 39) #[] #[]) 62
  have hlt : w.heap.size < (w.alloc (.cells #[.func (.func 39) #[] #[]] 62)).heap.size := by rw [World.size_alloc]; omega
  have C := contS_any 63 #[.pointer (some ⟨w.heap.size, 0, none⟩)] (fun args w => rfl) (fun x => !slK x) v l hl (w.alloc (.cells #[.func (.func 39) #[] #[]] 62)) (HoldV.on hh B0) (fun W x hx hb => by
    have c0 := (hb.cell (p := ⟨w.heap.size, 0, none⟩) hlt).trans x0
    have B1 := (Below.refl W.heap.size W).alloc (Nat.le_refl _) (.cells #[.string (⟨x.1.toArray⟩ : ByteArray), .string (⟨x.2.toArray⟩ : ByteArray)] 52)
    have S := sl1K_any x (hs x hx).1 (hs x hx).2 _ ((h.on (B0.trans (hb.mono B0.size))).on B1)
    have c1 := (B1.cell (p := ⟨w.heap.size, 0, none⟩) (World.block_lt_of_cell? W _ c0)).trans c0
    have HB1 := Lib.hid B1
    obtain ⟨y0, y1⟩ := boxV2 W (.string (⟨x.1.toArray⟩ : ByteArray)) (.string (⟨x.2.toArray⟩ : ByteArray)) 52
    unfold aggS at S ⊢
    try dsimp only at S ⊢
    generalize slK x = r at *
    generalize (⟨x.1.toArray⟩ : ByteArray) = X at *
    generalize (⟨x.2.toArray⟩ : ByteArray) = U at *
    clear hs h hh B0 x0 hlt hb hx B1
    go_enter Tryz.func63, Tryz.ntmps63
    go_wp2_with (go_at_call 39; (with_reducible refine S.mono ?_); rintro e w1 ⟨rfl, hb⟩; have HB := Lib.hid (HB1.out.trans (hb.mono HB1.out.size)); clear hb)
    go_ret
    exact ⟨rfl, HB.out⟩)
  rw [any_not] at C
  have HB0 := Lib.hid B0
  obtain ⟨a, c, b, o, rfl, -⟩ := hh.parts
  generalize l.all slK = r at *
  generalize l.length = n at *
  clear B0 x0 hlt hs h
  go_enter Tryz.func38, Tryz.ntmps38
  go_wp2_with (go_at_call 62; (with_reducible refine C.mono ?_); rintro e w1 ⟨rfl, hb⟩; have HB := Lib.hid (HB0.out.trans (hb.mono HB0.out.size)); clear hb)
  go_ret
  exact ⟨by simp, HB.out⟩
set_option maxRecDepth 100000 in
set_option maxHeartbeats 4000000 in
theorem everyT_any (v : Value) (l : List Bs) (hl : l.length ≤ 90000) (hs : ∀ x ∈ l, x.length ≤ 4000) (w : World) (h : LaidA w) (hh : HoldT w v l) :
    Calls Tryz.prog 40 #[v, .func (.func 41) #[] #[]] w fun e w' => e = .returned (.bool (l.all (orK plK))) ∧ Below w.heap.size w w' := by
  have B0 := (Below.refl w.heap.size w).alloc (Nat.le_refl _) (.cells #[.func (.func 41) #[] #[]] 47)
  have x0 := boxV1 w (.func (.func 41) #[] #[]) 47
  have hlt : w.heap.size < (w.alloc (.cells #[.func (.func 41) #[] #[]] 47)).heap.size := by rw [World.size_alloc]; omega
  have C := contT_any 65 #[.pointer (some ⟨w.heap.size, 0, none⟩)] (fun args w => rfl) (fun x => !orK plK x) v l hl (w.alloc (.cells #[.func (.func 41) #[] #[]] 47)) (hh.on B0) (fun W x hx hb => by
    have c0 := (hb.cell (p := ⟨w.heap.size, 0, none⟩) hlt).trans x0
    have S := sl2K_any ⟨x.toArray⟩ (by rw [sizeOf, bytesOf]; exact hs x hx) W (h.on (B0.trans (hb.mono B0.size)))
    rw [bytesOf] at S
    try dsimp only
    generalize orK plK x = r at *
    generalize (⟨x.toArray⟩ : ByteArray) = X at *
    clear hs h hh B0 x0 hlt hb hx
    go_enter Tryz.func65, Tryz.ntmps65
    go_wp2_with (go_at_call 41; (with_reducible refine S.mono ?_); rintro e w1 ⟨rfl, hb⟩; have HB := Lib.hid hb; clear hb)
    go_ret
    exact ⟨rfl, HB.out⟩)
  rw [any_not] at C
  have HB0 := Lib.hid B0
  obtain ⟨a, c, b, o, rfl, -⟩ := hh
  generalize l.all (orK plK) = r at *
  generalize l.length = n at *
  clear B0 x0 hlt hs h
  go_enter Tryz.func40, Tryz.ntmps40
  go_wp2_with (go_at_call 64; (with_reducible refine C.mono ?_); rintro e w1 ⟨rfl, hb⟩; have HB := Lib.hid (HB0.out.trans (hb.mono HB0.out.size)); clear hb)
  go_ret
  exact ⟨by simp, HB.out⟩
end Go.Proofs.YtolpcnhgmmnmcaaGreatDoor
