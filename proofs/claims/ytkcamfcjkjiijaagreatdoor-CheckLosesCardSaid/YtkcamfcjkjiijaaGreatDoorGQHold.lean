/-
  Relations in memory: held, owned; slices.IndexFunc and ContainsFunc of them.
-/
import Derived.Test.YtkcamfcjkjiijaaGreatDoorGPName
import Derived.Test.YtkcamfcjkjiijaaGreatDoorGSPLines
import Derived.Lib.Split
import Derived.Lib.Join
import Derived.Test.YtkcamfcjkjiijaaGreatDoorGZHold
import Derived.Test.YtkcamfcjkjiijaaGreatDoorGBoxV
import Derived.Lib.SliceRun
import Derived.RangeFuncRecord
namespace Go.Proofs.YtkcamfcjkjiijaaGreatDoor
open Go.RowKit Go.Sort
theorem cls (n : Nat) : (97 ≤ n ∧ n ≤ 122) ∨ (48 ≤ n ∧ n ≤ 57) ∨ (n = 43 ∨ n = 45 ∨ n = 46) ∨ (122 < n ∨ (57 < n ∧ n < 97) ∨ (n < 48 ∧ ¬ n = 43 ∧ ¬ n = 45 ∧ ¬ n = 46)) := by omega
theorem alB_iff (c : UInt8) : alB c = true ↔ (97 ≤ c.toNat ∧ c.toNat ≤ 122) ∨ (48 ≤ c.toNat ∧ c.toNat ≤ 57) := by
  unfold alB; simp only [Bool.or_eq_true, Bool.and_eq_true, decide_eq_true_eq]
theorem markB_iff (c : UInt8) : markB c = true ↔ c.toNat = 43 ∨ c.toNat = 45 ∨ c.toNat = 46 := by
  unfold markB
  simp only [Bool.or_eq_true, beq_iff_eq, nat_of_u8]
  show (c.toNat = 43 ∨ c.toNat = 45) ∨ c.toNat = 46 ↔ _
  omega
theorem inB_iff (c : UInt8) : inB c = true ↔ alB c = true ∨ markB c = true := by unfold inB; rw [Bool.or_eq_true]
theorem inB_no {c : UInt8} (h1 : ¬ alB c = true) (h2 : ¬ markB c = true) : inB c = false := by
  cases h : inB c with
  | false => rfl
  | true => exact absurd ((inB_iff c).1 h) (fun h => h.elim h1 h2)
/-- What is known of the first k bytes. -/
def NameTo (l : Bs) (k : Nat) : Prop := (l.take k).all inB = true ∧ (0 < k → headB l = true)
theorem nameTo_next {s : ByteArray} {k : Nat} (h : k < s.size) (H : NameTo s.data.toList k) (hi : inB s[k] = true) (h0 : k = 0 → alB s[k] = true) : NameTo s.data.toList (k + 1) := by
  refine ⟨all_next h H.1 hi, fun _ => ?_⟩
  by_cases hk : k = 0
  · subst hk
    have hl := Lib.size_eq s
    have := List.drop_eq_getElem_cons (l := s.data.toList) (i := 0) (by omega)
    rw [List.drop_zero] at this
    rw [this]
    exact h0 rfl
  · exact H.2 (by omega)
theorem name_bad {s : ByteArray} {k : Nat} (h : k < s.size) (hi : inB s[k] = false) : nameB s.data.toList = false := by
  unfold nameB; rw [all_stop h hi, Bool.and_false]
theorem name_bad0 {s : ByteArray} (h : 0 < s.size) (hi : ¬ alB s[0] = true) : nameB s.data.toList = false := by
  have hl := Lib.size_eq s
  have := List.drop_eq_getElem_cons (l := s.data.toList) (i := 0) (by omega)
  rw [List.drop_zero] at this
  have e : headB s.data.toList = false := by
    rw [this]
    cases h : headB (s.data.toList[0] :: List.drop (0 + 1) s.data.toList) with
    | false => rfl
    | true => exact absurd h hi
  unfold nameB; rw [e, Bool.and_false, Bool.false_and]
theorem name_end {s : ByteArray} (H : NameTo s.data.toList s.size) : nameB s.data.toList = (decide (1 ≤ s.size) && decide (s.size ≤ 60)) := by
  have hl := Lib.size_eq s
  unfold nameB
  rw [all_done H.1, ← hl]
  by_cases h : 1 ≤ s.size
  · rw [H.2 h]; simp
  · rw [decide_eq_false h]; simp
end Go.Proofs.YtkcamfcjkjiijaaGreatDoor
namespace Go.Proofs.YtkcamfcjkjiijaaGreatDoor
open Go.RowKit
end Go.Proofs.YtkcamfcjkjiijaaGreatDoor
namespace Go.Proofs.YtkcamfcjkjiijaaGreatDoor
open Go.RowKit
abbrev Rl := Bs × Bs × Bs
def opB (o : Bs) : Bool := decide (o = [60, 60]) || decide (o = [60, 61]) || decide (o = [61]) || decide (o = [62, 61]) || decide (o = [62, 62])
def rightR (x : Rl) : Bool := nameB x.1 && if x.2.1 = [] then decide (x.2.2 = []) else opB x.2.1 && decide ((parseE x.2.2).2 = 0)
def textR (x : Rl) : Bs := if x.2.1 = [] then x.1 else x.1 ++ 32 :: 40 :: (x.2.1 ++ 32 :: (x.2.2 ++ [41]))
end Go.Proofs.YtkcamfcjkjiijaaGreatDoor
namespace Go.Proofs.YtkcamfcjkjiijaaGreatDoor
open Go.RowKit
set_option maxRecDepth 100000 in
set_option maxHeartbeats 4000000 in
theorem text_ref7 (n o v : ByteArray) (hn : n.size ≤ 100000) (ho : o.size ≤ 100000) (hv : v.size ≤ 100000) (w : World) :
    Calls Tryz.prog 91 #[.agg #[.string n, .string o, .string v]] w fun e w' => e = .returned (.string ⟨(textR (n.data.toList, o.data.toList, v.data.toList)).toArray⟩) ∧ Below w.heap.size w w' := by
  obtain ⟨T, hT⟩ : ∃ T : ByteArray, T = ⟨(textR (n.data.toList, o.data.toList, v.data.toList)).toArray⟩ := ⟨_, rfl⟩
  rw [← hT]
  have h1s : ∀ x, (ByteArray.mk #[x]).size = 1 := fun _ => rfl
  have h2s : ∀ x y, (ByteArray.mk #[x, y]).size = 2 := fun _ _ => rfl
  have hez := emptyT o
  by_cases h0 : o.size = 0
  · rw [decide_eq_true h0] at hez
    have HT : Hid (T = n) := Lib.hid (by
      rw [hT]; unfold textR
      rw [if_pos (List.eq_nil_of_length_eq_zero (by rw [← sizeOf]; exact h0))])
    clear hT h0
    go_enter Tryz.func91, Tryz.ntmps91
    go_wp2
    go_ret
    exact ⟨by rw [HT.out]; rfl, (Below.refl _ _).alloc (Nat.le_refl _) _⟩
  · rw [decide_eq_false h0] at hez
    have HT : Hid (T = ((((n ++ ⟨#[32, 40]⟩) ++ o) ++ ⟨#[32]⟩) ++ v) ++ ⟨#[41]⟩) := Lib.hid (by
      rw [hT]; unfold textR
      rw [if_neg (fun e => h0 (by rw [sizeOf, show o.data.toList = [] from e]; rfl))]
      refine (strOf ?_).symm
      simp only [ByteArray.data_append, Array.toList_append]
      simp)
    clear hT h0
    go_enter Tryz.func91, Tryz.ntmps91
    go_wp2
    go_ret
    exact ⟨by rw [HT.out]; rfl, (Below.refl _ _).alloc (Nat.le_refl _) _⟩
end Go.Proofs.YtkcamfcjkjiijaaGreatDoor
namespace Go.Proofs.YtkcamfcjkjiijaaGreatDoor
open Go.RowKit Go.Lib
end Go.Proofs.YtkcamfcjkjiijaaGreatDoor
namespace Go.Proofs.YtkcamfcjkjiijaaGreatDoor
open Go.RowKit Go.Lib
end Go.Proofs.YtkcamfcjkjiijaaGreatDoor
namespace Go.Proofs.YtkcamfcjkjiijaaGreatDoor
open Go.RowKit Go.Lib
abbrev sepG : Bs := [32, 124, 32]
abbrev sepA : Bs := [44, 32]
def textG (g : List Rl) : Bs := Lib.join (g.map textR) sepG
def textA (l : List (List Rl)) : Bs := Lib.join (l.map textG) sepA
-- The document's reading.
theorem join_two (p q : Bs) (ps : List Bs) (sep : Bs) : Lib.join (p :: q :: ps) sep = p ++ (sep ++ Lib.join (q :: ps) sep) := by
  rw [join_cons, join_cons]; simp [joinTail]
end Go.Proofs.YtkcamfcjkjiijaaGreatDoor
namespace Go.Proofs.YtkcamfcjkjiijaaGreatDoor
open Go.RowKit
abbrev bsT (l : Bs) : ByteArray := ⟨l.toArray⟩
abbrev cellsQ (x : Rl) : Rw := [.string (bsT x.1), .string (bsT x.2.1), .string (bsT x.2.2)]
abbrev aggQ (x : Rl) : Value := .agg #[.string (bsT x.1), .string (bsT x.2.1), .string (bsT x.2.2)]
abbrev HoldQ (w : World) (v : Value) (l : List (Rl)) : Prop := HoldV 3 w v (l.map cellsQ)
theorem HoldQ.parts {w : World} {v : Value} {l : List (Rl)} (h : HoldQ w v l) : ∃ (a : Option Addr) (c b o : Nat), v = .slice a l.length c ∧ l.length ≤ c ∧ (0 < l.length → a = some ⟨b, o, none⟩ ∧ b < w.heap.size) ∧
    ∀ (j : Nat) x, l[j]? = some x → w.cell? ⟨b, o + j * 3, none⟩ = some (.string (bsT x.1)) ∧ w.cell? ⟨b, o + j * 3 + 1, none⟩ = some (.string (bsT x.2.1)) ∧ w.cell? ⟨b, o + j * 3 + 2, none⟩ = some (.string (bsT x.2.2)) := by
  obtain ⟨a, c, b, o, e, hc, ha, hcell⟩ := h
  rw [List.length_map] at e hc ha
  refine ⟨a, c, b, o, e, hc, ha, fun j x hx => ?_⟩
  have := hcell j (cellsQ x) (by rw [List.getElem?_map, hx]; rfl)
  exact ⟨this 0 _ (by omega) rfl, this 1 _ (by omega) rfl, this 2 _ (by omega) rfl⟩
abbrev OwnQ (w : World) (base : Nat) (v : Value) (l : List (Rl)) : Prop := OwnV 75 3 w base v (l.map cellsQ)
theorem cellsQ_len (l : List (Rl)) : ∀ r ∈ l.map cellsQ, r.length = 3 := fun r hr => by obtain ⟨x, _, rfl⟩ := List.mem_map.1 hr; rfl
theorem OwnQ.app {w' : World} {base : Nat} {v' : Value} {l : List (Rl)} {x : Rl} {c0 : ByteArray} {c1 : ByteArray} {c2 : ByteArray} (h0 : c0.data.toList = x.1) (h1 : c1.data.toList = x.2.1) (h2 : c2.data.toList = x.2.2) (h : w'.ownsRow base 75 3 v' (l.length + 1) ((l.map cellsQ).flatten ++ [.string c0, .string c1, .string c2])) : OwnQ w' base v' (l ++ [x]) := by
  have := OwnV.app (T := 75) (k := 3) (rows := l.map cellsQ) (r := cellsQ x) (cellsQ_len l) rfl (by rw [List.length_map]; rw [strOf h0, strOf h1, strOf h2] at h; exact h)
  unfold OwnQ; rw [List.map_append]; exact this
theorem OwnQ.one (l : List (Rl)) : ∀ u ∈ (l.map cellsQ).flatten, u.oneCell' = true := fun u hu => by
  obtain ⟨r, hr, hu⟩ := List.mem_flatten.1 hu
  obtain ⟨x, _, rfl⟩ := List.mem_map.1 hr
  simp only [List.mem_cons, List.not_mem_nil, or_false] at hu
  rcases hu with rfl | rfl | rfl <;> rfl
theorem infoQ : (Tryz.prog.info? 75).map (fun i => (i.zero, i.size, i.bytes)) = some (some (.agg #[.string ⟨#[]⟩, .string ⟨#[]⟩, .string ⟨#[]⟩]), 3, 48) := by kernel_rfl
def PredQ (l : List Rl) (g : Nat) (lb : Array Value) (p : Rl → Bool) (w : World) : Prop :=
  ∀ W x, x ∈ l → Below w.heap.size w W → Calls Tryz.prog g (#[aggQ x] ++ lb) W fun e w' => e = .returned (.bool (p x)) ∧ Below W.heap.size W w'
def idxQ (l : List (Rl)) (p : Rl → Bool) : Int := match l.findIdx? p with
  | some k => (k : Int)
  | none => -1
theorem idxQ_hit {l : List (Rl)} {p : Rl → Bool} {k : Nat} {x : Rl} (hx : l[k]? = some x) (hp : p x = true) (hb : ∀ (j : Nat) y, j < k → l[j]? = some y → p y = false) : l.findIdx? p = some k := by
  rw [List.findIdx?_eq_some_iff_getElem]
  obtain ⟨hk, e⟩ := List.getElem?_eq_some_iff.1 hx
  exact ⟨hk, by rw [e]; exact hp, fun j hj => by rw [hb j _ hj (List.getElem?_eq_getElem (by omega))]; simp⟩
theorem idxQ_miss {l : List (Rl)} {p : Rl → Bool} (hb : ∀ (j : Nat) y, l[j]? = some y → p y = false) : l.findIdx? p = none := by
  rw [List.findIdx?_eq_none_iff]
  intro y hy
  obtain ⟨j, hj⟩ := List.mem_iff_getElem?.1 hy
  exact hb j y hj
set_option maxRecDepth 100000 in
set_option maxHeartbeats 4000000 in
theorem idxQ_any (g : Nat) (lb : Array Value) (eg : ∀ args w, (callFunc g args).run Tryz.prog w = .ok (.enter g args) w) (p : Rl → Bool) (v : Value) (l : List (Rl)) (hl : l.length ≤ 90000) (w : World) (h : HoldQ w v l) (hp : PredQ l g lb p w) :
    Calls Tryz.prog 93 #[v, .func (.func g) #[] lb] w fun e w' => e = .returned (.int .i64 (idxQ l p)) ∧ Below w.heap.size w w' := by
  obtain ⟨a, c, b, o, rfl, hc, ha, hcell⟩ := h.parts
  have HC := Lib.hid hcell
  obtain ⟨Z, HZ⟩ : ∃ Z, Hid (idxQ l p = Z) := ⟨_, rfl⟩
  rw [HZ.out]
  have HP := Lib.hid hp
  obtain ⟨n, hN⟩ : ∃ n, l.length = n := ⟨_, rfl⟩
  rw [hN] at hc ha hl ⊢
  have HN := Lib.hid hN
  clear hcell hp hN h
  go_enter Tryz.func93, Tryz.ntmps93
  go_wp2
  go_loopw [8] (fun i wr => ∃ k : Nat, k ≤ n ∧ i = .int .i64 k ∧ Hid (∀ (j : Nat) y, j < k → l[j]? = some y → p y = false) ∧ Hid (Below w.heap.size w wr)) (fun i _ => n - (intOf i).toNat)
  case atStart => exact ⟨0, by omega, rfl, Lib.hid (fun j y hj => by omega), Lib.hid (Below.refl _ _)⟩
  case round =>
    obtain ⟨k, hk, rfl, H, HB⟩ := hrel
    by_cases hlt : k < n
    · obtain ⟨rfl, hbw⟩ := ha (by omega)
      obtain ⟨⟨a0, a1, a2⟩, hx⟩ : ∃ x, l[k]? = some x := ⟨_, List.getElem?_eq_getElem (by rw [HN.out]; exact hlt)⟩
      obtain ⟨c0, c1, c2⟩ := HC.out k (a0, a1, a2) hx
      dsimp only at c0 c1 c2
      rw [← HB.out.cell (p := ⟨b, o + k * 3, none⟩) hbw] at c0
      rw [← HB.out.cell (p := ⟨b, o + k * 3 + 1, none⟩) hbw] at c1
      rw [← HB.out.cell (p := ⟨b, o + k * 3 + 2, none⟩) hbw] at c2
      have hcall := HP.out wr (a0, a1, a2) (List.mem_of_getElem? hx) HB.out
      unfold aggQ at hcall
      dsimp only at hcall
      have HX := Lib.hid hx
      clear hx
      cases hq : p (a0, a1, a2)
      · rw [hq] at hcall
        have HK : Hid (∀ (j : Nat) y, j < k + 1 → l[j]? = some y → p y = false) := Lib.hid (fun j y hj hy => by
          by_cases e : j = k
          · subst e
            rw [HX.out] at hy; cases hy
            exact hq
          · exact H.out j y (by omega) hy)
        clear hq H
        generalize bsT a0 = X0 at *
        generalize bsT a1 = X1 at *
        generalize bsT a2 = X2 at *
        go_wp2_with (go_at_fn g; refine hcall.mono ?_; rintro e w1 ⟨rfl, hb1⟩; have HB1 := Lib.hid (HB.out.trans (hb1.mono HB.out.size)); clear hb1)
        go_roundw
        case rel => exact ⟨k + 1, by omega, by go_num, HK, HB1⟩
        case measure => simp [intOf]; omega
      · rw [hq] at hcall
        have HF : Hid ((k : Int) = Z) := Lib.hid (by rw [← HZ.out, idxQ, idxQ_hit HX.out hq H.out])
        clear hq H
        generalize bsT a0 = X0 at *
        generalize bsT a1 = X1 at *
        generalize bsT a2 = X2 at *
        go_wp2_with (go_at_fn g; refine hcall.mono ?_; rintro e w1 ⟨rfl, hb1⟩; have HB1 := Lib.hid (HB.out.trans (hb1.mono HB.out.size)); clear hb1)
        go_ret
        exact ⟨reti HF.out, HB1.out⟩
    · obtain rfl : k = n := by omega
      have HF : Hid ((-1 : Int) = Z) := Lib.hid (by rw [← HZ.out, idxQ, idxQ_miss (fun j y hy => H.out j y (by have := (List.getElem?_eq_some_iff.1 hy).1; rw [HN.out] at this; exact this) hy)])
      clear hlt H
      go_wp2
      go_ret
      exact ⟨reti HF.out, HB.out⟩
theorem idxQ_neg {l : List Rl} {p : Rl → Bool} : (0 ≤ idxQ l p) = (l.any p = true) := by
  unfold idxQ
  cases h : l.findIdx? p with
  | none =>
    rw [List.findIdx?_eq_none_iff] at h
    have : l.any p = false := by rw [List.any_eq_false]; intro x hx; rw [h x hx]; simp
    rw [this]; simp
  | some k =>
    obtain ⟨hk, hp, _⟩ := List.findIdx?_eq_some_iff_getElem.1 h
    have : l.any p = true := List.any_eq_true.2 ⟨_, List.getElem_mem hk, hp⟩
    rw [this]; simp
set_option maxHeartbeats 4000000 in
theorem contQ_any (g : Nat) (lb : Array Value) (eg : ∀ args w, (callFunc g args).run Tryz.prog w = .ok (.enter g args) w) (p : Rl → Bool) (v : Value) (l : List Rl) (hl : l.length ≤ 90000) (w : World) (h : HoldQ w v l) (hp : PredQ l g lb p w) :
    Calls Tryz.prog 69 #[v, .func (.func g) #[] lb] w fun e w' => e = .returned (.bool (l.any p)) ∧ Below w.heap.size w w' := by
  have C := idxQ_any g lb eg p v l hl w h hp
  obtain ⟨a, c, b, o, rfl, -⟩ := h.parts
  have HN := Lib.hid (idxQ_neg (l := l) (p := p))
  generalize idxQ l p = z at *
  generalize hq : l.any p = q at *
  have hz : decide (0 ≤ z) = q := by
    have := HN.out
    cases q
    · rw [decide_eq_false_iff_not, this]; simp
    · rw [decide_eq_true_iff, this]
  generalize l.length = n at *
  clear hp h hl hq
  cases q
  all_goals
    go_enter Tryz.func69, Tryz.ntmps69
    go_wp2_with (go_at_call 93; (with_reducible refine C.mono ?_); rintro e w1 ⟨rfl, hb⟩; have HB := Lib.hid hb; clear hb)
    go_ret
    exact ⟨rfl, HB.out⟩
end Go.Proofs.YtkcamfcjkjiijaaGreatDoor
