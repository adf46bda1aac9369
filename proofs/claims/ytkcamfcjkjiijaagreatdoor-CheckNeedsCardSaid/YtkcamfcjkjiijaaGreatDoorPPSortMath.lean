/-
  A list's texts rising, each once: what the sort and the compaction leave, and what the reference's choosing leaves, are one list; nothing of the program.
-/
import Derived.Lib.SplitLaws
import Derived.Lib.Join
import Derived.Lib.LastIndexLaws
import Derived.Test.YtkcamfcjkjiijaaGreatDoorPShelf
import Derived.WalkKit
import Derived.Lib.Hide
import Derived.WalkSmall
import Derived.Lib.OwnBridge
import Derived.OwnWalk
import Derived.Lib.SlicesCompact
namespace Go.Proofs.YtkcamfcjkjiijaaGreatDoor
open Go.Lib

abbrev Bs := List UInt8
def parts0 (u : Bs) : Bs → List Bs
  | [] => if u = [] then [] else [u]
  | c :: l => if c = 47 then (if u = [] then parts0 [] l else u :: parts0 [] l) else parts0 (u ++ [c]) l
def parts (s : Bs) : List Bs := parts0 [] s

-- Joined
def jn : List Bs → Bs
  | [] => []
  | p :: ps => 47 :: (p ++ jn ps)
def joined (ps : List Bs) : Bs := if ps = [] then [47] else jn ps
-- Resolved
def rstep (out : List Bs) (p : Bs) : List Bs := if p = [46, 46] then out.dropLast else if p = [46] then out else out ++ [p]
def resolve (ps : List Bs) : List Bs := ps.foldl rstep []
-- Parts are no empty texts without slashes.
-- The one form, or the error's number.
def okb (c : UInt8) : Bool := decide (33 ≤ c.toNat) && decide (c.toNat ≤ 126)
def cleanE (s : Bs) : Bs × Int :=
  if s.head? = some 47 ∧ s.all okb = true then (if 200 < (joined (resolve (parts s))).length then ([], 8) else (joined (resolve (parts s)), 0)) else ([], 1)
def right (s : Bs) : Bool := decide (cleanE s = (s, 0))
-- Directories: with a slash at the end; above; below.
end Go.Proofs.YtkcamfcjkjiijaaGreatDoor
namespace Go.Proofs.YtkcamfcjkjiijaaGreatDoor
open Go.RowKit Go.Sort
theorem str_of {x : ByteArray} {l : Bs} (h : x.data.toList = l) : x = ⟨l.toArray⟩ := by subst h; simp
theorem ret_bool {a b : Bool} (h : a = b) : Ending.returned (.bool a) = Ending.returned (.bool b) := congrArg (fun b => Ending.returned (.bool b)) h
end Go.Proofs.YtkcamfcjkjiijaaGreatDoor
namespace Go.Proofs.YtkcamfcjkjiijaaGreatDoor
open Go.RowKit Go.Sort
def alB (c : UInt8) : Bool := decide (97 ≤ c.toNat) && decide (c.toNat ≤ 122) || decide (48 ≤ c.toNat) && decide (c.toNat ≤ 57)
def markB (c : UInt8) : Bool := c == 43 || c == 45 || c == 46
def inB (c : UInt8) : Bool := alB c || markB c
def headB : Bs → Bool
  | [] => false
  | c :: _ => alB c
def nameB (l : Bs) : Bool := decide (1 ≤ l.length) && decide (l.length ≤ 60) && headB l && l.all inB
theorem take_snoc (s : ByteArray) (k : Nat) (h : k < s.size) : s.data.toList.take (k + 1) = s.data.toList.take k ++ [s[k]] := by
  have hl : k < s.data.toList.length := by rw [← Lib.size_eq]; exact h
  rw [List.take_add_one, List.getElem?_eq_getElem hl]
  simp; rfl
theorem all_false {l : Bs} {f : UInt8 → Bool} (k : Nat) (x : UInt8) (h : x ∈ l.take k) (hf : f x = false) : l.all f = false := by
  rw [List.all_eq_false]
  exact ⟨x, List.mem_of_mem_take h, by simp [hf]⟩
theorem all_next {s : ByteArray} {f : UInt8 → Bool} {k : Nat} (h : k < s.size) (ha : (s.data.toList.take k).all f = true) (hf : f s[k] = true) : (s.data.toList.take (k + 1)).all f = true := by
  rw [take_snoc s k h, List.all_append, ha]; simp [hf]
theorem all_stop {s : ByteArray} {f : UInt8 → Bool} {k : Nat} (h : k < s.size) (hf : f s[k] = false) : s.data.toList.all f = false :=
  all_false (k + 1) s[k] (by rw [take_snoc s k h]; simp) hf
theorem all_done {s : ByteArray} {f : UInt8 → Bool} (ha : (s.data.toList.take s.size).all f = true) : s.data.toList.all f = true := by
  rwa [List.take_of_length_le (by rw [← Lib.size_eq]; exact Nat.le_refl _)] at ha
theorem nat_of_u8 {a b : UInt8} : a = b ↔ a.toNat = b.toNat := UInt8.toNat_inj.symm
end Go.Proofs.YtkcamfcjkjiijaaGreatDoor
namespace Go.Proofs.YtkcamfcjkjiijaaGreatDoor
open Go.RowKit Go.Sort
theorem infoS : (Tryz.prog.info? 9).map (fun i => (i.zero, i.size, i.bytes)) = some (some (.string ⟨#[]⟩), 1, 16) := by kernel_rfl
/-- The slice value v holds the texts ls, wherever it lies. -/
def Holds' (w : World) (v : Value) (ls : List Bs) : Prop :=
  ∃ (a : Option Addr) (c b o : Nat), v = .slice a ls.length c ∧ ls.length ≤ c ∧ (0 < ls.length → a = some ⟨b, o, none⟩ ∧ b < w.heap.size) ∧ ∀ (j : Nat) l, ls[j]? = some l → w.cell? ⟨b, o + j, none⟩ = some (.string ⟨l.toArray⟩)
theorem Holds'.on {w w' : World} {v : Value} {ls : List Bs} (h : Holds' w v ls) (hb : Below w.heap.size w w') : Holds' w' v ls := by
  obtain ⟨a, c, b, o, rfl, hc, ha, hcell⟩ := h
  refine ⟨a, c, b, o, rfl, hc, fun h0 => ⟨(ha h0).1, Nat.lt_of_lt_of_le (ha h0).2 hb.size⟩, fun j l hj => ?_⟩
  have h0 : 0 < ls.length := by
    have := (List.getElem?_eq_some_iff.1 hj).1; omega
  rw [hb.cell (ha h0).2]
  exact hcell j l hj
abbrev strs (ls : List Bs) : List Value := ls.map fun l => Value.string ⟨l.toArray⟩
/-- The slice value v owns the texts ls (in blocks from base on). -/
def OwnS (w : World) (base : Nat) (v : Value) (ls : List Bs) : Prop := w.ownsRow base 9 1 v ls.length (strs ls)
theorem OwnS.nil (w : World) (base : Nat) : OwnS w base (.slice none 0 0) [] := World.ownsRow_nil _ _ _ _
theorem OwnS.holds {w : World} {base : Nat} {v : Value} {ls : List Bs} (h : OwnS w base v ls) : Holds' w v ls := by
  rcases h.2 with ⟨rfl, h0⟩ | ⟨g, cap, cur, rfl, hb, hg, hn, hm, hs, ht⟩
  · have : ls = [] := List.eq_nil_of_length_eq_zero h0
    subst this
    exact ⟨none, 0, 0, 0, rfl, Nat.le_refl _, fun h => absurd h (by simp), fun j l hj => by simp at hj⟩
  · refine ⟨some ⟨g, 0, none⟩, cap, g, 0, rfl, hn, fun _ => ⟨rfl, (Array.getElem?_eq_some_iff.1 hg).1⟩, fun j l hj => ?_⟩
    have hj' := (List.getElem?_eq_some_iff.1 hj).1
    have e1 : (cur.toList.take (ls.length * 1))[j]? = (strs ls)[j]? := by rw [ht]
    rw [List.getElem?_take, if_pos (by omega), Array.getElem?_toList, List.getElem?_map, hj] at e1
    rw [Nat.zero_add, cell_of_row w g j cur 9 (0, 0) hg, e1]
    rfl
theorem OwnS.mono {w : World} {base base' : Nat} {v : Value} {ls : List Bs} (h : OwnS w base v ls) (hb : base' ≤ base) : OwnS w base' v ls := by
  refine ⟨h.1, ?_⟩
  rcases h.2 with hn | ⟨g, cap, cur, hv, hb', rest⟩
  · exact .inl hn
  · exact .inr ⟨g, cap, cur, hv, by omega, rest⟩
theorem OwnS.app {w' : World} {base : Nat} {v' : Value} {ls : List Bs} {x : ByteArray} {l : Bs} (hx : x.data.toList = l) (h : w'.ownsRow base 9 1 v' (ls.length + 1) (strs ls ++ [.string x])) : OwnS w' base v' (ls ++ [l]) := by
  have e : strs (ls ++ [l]) = strs ls ++ [.string x] := by simp [strs, str_of hx]
  unfold OwnS
  rw [e, List.length_append]
  exact h
/-- Of a slice whose block the row turned: everything below base stays. -/
theorem below_grown {B : Nat} {w0 w w' : World} {o : Obj} {base : Nat} {v : Value} {ls : List Bs} (h : Below B w0 w) (hown : OwnS w base v ls) (hg : (w.alloc o).grownBy w' v.ownBlock) (hB : B ≤ base) (hBw : B ≤ w.heap.size) : Below B w0 w' :=
  (h.alloc hBw o).grown hg (by simp; omega) (fun k hk => by have := (hown.lt k hk).1; omega)
end Go.Proofs.YtkcamfcjkjiijaaGreatDoor
namespace Go.Proofs.YtkcamfcjkjiijaaGreatDoor
theorem bs_le_refl (x : Bs) : x ≤ x := List.le_refl x
theorem bs_le_trans {x y z : Bs} (h : x ≤ y) (g : y ≤ z) : x ≤ z := List.le_trans h g
theorem bs_antisymm {x y : Bs} (h : x ≤ y) (g : y ≤ x) : x = y := List.le_antisymm h g
theorem bs_total (x y : Bs) : x ≤ y ∨ y ≤ x := List.le_total x y
theorem bs_lt (x y : Bs) : x < y ↔ ¬ y ≤ x := List.not_le.symm
theorem bs_lt_trans {x y z : Bs} (h : x < y) (g : y < z) : x < z := List.lt_trans h g
theorem bs_lt_irrefl (x : Bs) : ¬ x < x := List.lt_irrefl x
theorem bs_lt_ne {x y : Bs} (h : x ≤ y) (g : x ≠ y) : x < y := (bs_lt x y).2 fun e => g (bs_antisymm h e)
theorem bs_lt_le {x y : Bs} (h : x < y) : x ≤ y := (bs_total x y).elim id fun g => absurd g ((bs_lt x y).1 h)
theorem bs_lt_of_le {x y z : Bs} (h : x ≤ y) (g : y < z) : x < z := (bs_lt x z).2 fun e => (bs_lt y z).1 g (bs_le_trans e h)

/-- Sorted, and each once. -/
def srt (ls : List Bs) : List Bs := Lib.compact (ls.mergeSort fun x y => decide (x ≤ y))
def Rise (l : List Bs) : Prop := l.Pairwise (· < ·)

theorem cut_props (d : Array Bs) (hs : ∀ i j, i ≤ j → j < d.size → d[i]! ≤ d[j]!) : ∀ m, m ≤ d.size →
    Rise (Lib.compactUpTo d m) ∧ (∀ x, x ∈ Lib.compactUpTo d m ↔ ∃ j, j < m ∧ d[j]! = x) ∧ (∀ x ∈ Lib.compactUpTo d m, 0 < m → x ≤ d[m - 1]!)
  | 0, _ => by
    refine ⟨List.Pairwise.nil, fun x => ⟨fun h => by simp [Lib.compactUpTo] at h, fun ⟨j, hj, _⟩ => by omega⟩, fun x h => by simp [Lib.compactUpTo] at h⟩
  | m + 1, hm => by
    obtain ⟨h1, h2, h3⟩ := cut_props d hs m (by omega)
    have hx : ∀ x, x ∈ Lib.compactUpTo d m → x ≤ d[m]! := fun x h => by
      obtain ⟨j, hj, rfl⟩ := (h2 x).1 h
      exact hs j m (by omega) (by omega)
    have h5 : ∀ x, x ∈ Lib.compactUpTo d (m + 1) ↔ ∃ j, j < m + 1 ∧ d[j]! = x := by
      intro x
      rw [Lib.compactUpTo_succ]
      cases hk : Lib.keeps d m
      · rw [if_neg (by simp), List.append_nil, h2]
        constructor
        · rintro ⟨j, hj, e⟩; exact ⟨j, by omega, e⟩
        · rintro ⟨j, hj, e⟩
          by_cases hjm : j = m
          · subst hjm
            have hm0 : j ≠ 0 ∧ d[j]! = d[j - 1]! := by
              unfold Lib.keeps at hk
              simp only [decide_eq_false_iff_not, not_or, ne_eq, Classical.not_not] at hk
              exact hk
            exact ⟨j - 1, by omega, by rw [← hm0.2]; exact e⟩
          · exact ⟨j, by omega, e⟩
      · rw [if_pos rfl, List.mem_append, h2, List.mem_singleton]
        constructor
        · rintro (⟨j, hj, e⟩ | e)
          · exact ⟨j, by omega, e⟩
          · exact ⟨m, by omega, e.symm⟩
        · rintro ⟨j, hj, e⟩
          by_cases hjm : j = m
          · subst hjm; exact .inr e.symm
          · exact .inl ⟨j, by omega, e⟩
    refine ⟨?_, h5, fun x h _ => ?_⟩
    · rw [Lib.compactUpTo_succ]
      cases hk : Lib.keeps d m
      · rw [if_neg (by simp), List.append_nil]; exact h1
      · rw [if_pos rfl]
        refine List.pairwise_append.2 ⟨h1, List.pairwise_singleton _ _, fun x h y hy => ?_⟩
        obtain rfl := List.mem_singleton.1 hy
        unfold Lib.keeps at hk
        simp only [decide_eq_true_eq] at hk
        rcases hk with h0 | hne
        · subst h0
          obtain ⟨j, hj, _⟩ := (h2 x).1 h
          omega
        · obtain ⟨j, hj, _⟩ := (h2 x).1 h
          have g := h3 x h (by omega)
          exact bs_lt_of_le g (bs_lt_ne (hs (m - 1) m (by omega) (by omega)) (fun e => hne e.symm))
    · obtain ⟨j, hj, rfl⟩ := (h5 x).1 h
      exact hs j m (by omega) (by omega)
theorem compact_props (zs : List Bs) (h : zs.Pairwise (· ≤ ·)) : Rise (Lib.compact zs) ∧ ∀ x, x ∈ Lib.compact zs ↔ x ∈ zs := by
  have hs : ∀ i j, i ≤ j → j < zs.toArray.size → zs.toArray[i]! ≤ zs.toArray[j]! := by
    intro i j hij hj
    have hj' : j < zs.length := by simpa using hj
    rw [getElem!_pos zs.toArray i (by simp; omega), getElem!_pos zs.toArray j hj]
    by_cases e : i = j
    · subst e; exact bs_le_refl _
    · exact List.pairwise_iff_getElem.1 h i j (by omega) hj' (by omega)
  obtain ⟨h1, h2, _⟩ := cut_props zs.toArray hs zs.length (by simp)
  refine ⟨h1, fun x => (h2 x).trans ⟨?_, fun hx => ?_⟩⟩
  · rintro ⟨j, hj, rfl⟩
    rw [getElem!_pos zs.toArray j (by simpa using hj)]
    simp
  · obtain ⟨j, hj, rfl⟩ := List.mem_iff_getElem.1 hx
    exact ⟨j, hj, by rw [getElem!_pos zs.toArray j (by simpa using hj)]; simp⟩
theorem sorted_le (ls : List Bs) : (ls.mergeSort fun x y => decide (x ≤ y)).Pairwise (· ≤ ·) := by
  have h := List.pairwise_mergeSort (le := fun x y : Bs => decide (x ≤ y)) (fun a b c h1 h2 => by simp only [decide_eq_true_eq] at *; exact bs_le_trans h1 h2) (fun a b => by simp only [Bool.or_eq_true, decide_eq_true_eq]; exact bs_total a b) ls
  exact h.imp fun h => by simpa using h
theorem srt_rise (ls : List Bs) : Rise (srt ls) := (compact_props _ (sorted_le ls)).1
theorem srt_mem (ls : List Bs) (x : Bs) : x ∈ srt ls ↔ x ∈ ls := ((compact_props _ (sorted_le ls)).2 x).trans List.mem_mergeSort
theorem rise_eq : ∀ {a b : List Bs}, Rise a → Rise b → (∀ x, x ∈ a ↔ x ∈ b) → a = b
  | [], [], _, _, _ => rfl
  | [], y :: b, _, _, h => by have := (h y).2 (by simp); simp at this
  | x :: a, [], _, _, h => by have := (h x).1 (by simp); simp at this
  | x :: a, y :: b, ha, hb, h => by
    have ha' := List.pairwise_cons.1 ha
    have hb' := List.pairwise_cons.1 hb
    have e : x = y := by
      rcases List.mem_cons.1 ((h x).1 (by simp)) with e | h1
      · exact e
      · rcases List.mem_cons.1 ((h y).2 (by simp)) with e | h2
        · exact e.symm
        · exact absurd (bs_lt_trans (hb'.1 x h1) (ha'.1 y h2)) (bs_lt_irrefl _)
    subst e
    refine congrArg (x :: ·) (rise_eq ha'.2 hb'.2 fun z => ⟨fun hz => ?_, fun hz => ?_⟩)
    · rcases List.mem_cons.1 ((h z).1 (by simp [hz])) with e | g
      · subst e; exact absurd (ha'.1 z hz) (bs_lt_irrefl _)
      · exact g
    · rcases List.mem_cons.1 ((h z).2 (by simp [hz])) with e | g
      · subst e; exact absurd (hb'.1 z hz) (bs_lt_irrefl _)
      · exact g
theorem srt_nil : srt [] = [] := rise_eq (srt_rise _) List.Pairwise.nil (fun x => by rw [srt_mem])
theorem srt_len (ls : List Bs) : (srt ls).length ≤ ls.length := by
  have h1 := List.length_filter_le (Lib.keeps (ls.mergeSort fun x y => decide (x ≤ y)).toArray) (List.range (ls.mergeSort fun x y => decide (x ≤ y)).length)
  unfold srt Lib.compact Lib.compactUpTo
  rw [List.length_map]
  simpa using h1
-- The reference chooses the least one that is not there yet.
def left (ls out : List Bs) : Nat := (ls.filter fun x => decide (x ∉ out)).length
structure Sel (ls out : List Bs) (k : Nat) : Prop where
  rise : Rise out
  sub : ∀ x ∈ out, x ∈ ls
  over : ∀ x ∈ ls, x ∉ out → ∀ y ∈ out, y < x
  less : left ls out ≤ ls.length - k
  len : out.length ≤ k
theorem Sel.start (ls : List Bs) : Sel ls [] 0 := ⟨List.Pairwise.nil, (fun x h => by cases h), (fun x _ _ y h => by cases h), List.length_filter_le _ _, Nat.le_refl _⟩
theorem filter_less {α : Type} (p q : α → Bool) (l : List α) (h : ∀ x, q x = true → p x = true) (v : α) (hv : v ∈ l) (hp : p v = true) (hq : q v = false) : (l.filter q).length < (l.filter p).length := by
  induction l with
  | nil => cases hv
  | cons x l ih =>
    have hle : (l.filter q).length ≤ (l.filter p).length := by
      clear ih hv
      induction l with
      | nil => simp
      | cons y l ih2 =>
        rw [List.filter_cons, List.filter_cons]
        cases hqy : q y
        · cases p y <;> simp <;> omega
        · rw [h y hqy]; simp; omega
    rw [List.filter_cons, List.filter_cons]
    rcases List.mem_cons.1 hv with e | hv
    · subst e
      rw [hp, hq]; simp; omega
    · have := ih hv
      cases hqx : q x
      · cases p x <;> simp <;> omega
      · rw [h x hqx]; simp; omega
theorem Sel.next {ls out : List Bs} {k : Nat} (h : Sel ls out k) {v : Bs} (hv : v ∈ ls) (hn : v ∉ out) (hb : ∀ x ∈ ls, x ∉ out → v ≤ x) : Sel ls (out ++ [v]) (k + 1) where
  rise := List.pairwise_append.2 ⟨h.rise, List.pairwise_singleton _ _, fun x hx y hy => by obtain rfl := List.mem_singleton.1 hy; exact h.over _ hv hn x hx⟩
  sub := fun x hx => by
    rcases List.mem_append.1 hx with hx | hx
    · exact h.sub x hx
    · obtain rfl := List.mem_singleton.1 hx; exact hv
  over := fun x hx hxo y hy => by
    simp only [List.mem_append, List.mem_singleton, not_or] at hxo
    rcases List.mem_append.1 hy with hy | hy
    · exact h.over x hx hxo.1 y hy
    · obtain rfl := List.mem_singleton.1 hy
      exact bs_lt_ne (hb x hx hxo.1) (fun e => hxo.2 e.symm)
  less := by
    have h1 := filter_less (fun x => decide (x ∉ out)) (fun x => decide (x ∉ out ++ [v])) ls (fun x hx => by simp only [decide_eq_true_eq, List.mem_append, not_or] at *; exact hx.1) v hv (by simpa using hn) (by simp)
    have h2 := h.less
    unfold left at *
    omega
  len := by have := h.len; simp; omega
theorem Sel.stay {ls out : List Bs} {k : Nat} (h : Sel ls out k) (hall : ∀ x ∈ ls, x ∈ out) : Sel ls out (k + 1) where
  rise := h.rise
  sub := h.sub
  over := h.over
  less := by
    have e : ls.filter (fun x => decide (x ∉ out)) = [] := List.filter_eq_nil_iff.2 (fun x hx => by simpa using hall x hx)
    unfold left; rw [e]; simp
  len := by have := h.len; omega
theorem Sel.done {ls out : List Bs} (h : Sel ls out ls.length) : out = srt ls := by
  refine rise_eq h.rise (srt_rise _) fun x => ?_
  rw [srt_mem]
  refine ⟨h.sub x, fun hx => ?_⟩
  by_cases hn : x ∈ out
  · exact hn
  · have h1 := h.less
    have h2 : x ∈ ls.filter fun x => decide (x ∉ out) := List.mem_filter.2 ⟨hx, by simpa using hn⟩
    have h3 := List.length_pos_of_mem h2
    unfold left at h1
    omega
/-- The best one that was found of the first i: none, or place m. -/
def Best (ls out : List Bs) (i : Nat) (at' : Int) : Prop :=
  (at' = -1 ∧ ∀ j (_ : j < i) (h : j < ls.length), ls[j] ∈ out) ∨ ∃ (m : Nat) (hm : m < ls.length), m < i ∧ at' = m ∧ ls[m] ∉ out ∧ ∀ j (_ : j < i) (h : j < ls.length), ls[j] ∉ out → ls[m] ≤ ls[j]
theorem Best.start (ls out : List Bs) : Best ls out 0 (-1) := .inl ⟨rfl, fun j h _ => by omega⟩
theorem Best.there {ls out : List Bs} {i : Nat} {a : Int} (h : Best ls out i a) (hi : i < ls.length) (hx : ls[i] ∈ out) : Best ls out (i + 1) a := by
  rcases h with ⟨e, h⟩ | ⟨m, hm, hmi, e, hn, h⟩
  · refine .inl ⟨e, fun j hj hl => ?_⟩
    by_cases ej : j = i
    · subst ej; exact hx
    · exact h j (by omega) hl
  · refine .inr ⟨m, hm, by omega, e, hn, fun j hj hl hjn => ?_⟩
    by_cases ej : j = i
    · subst ej; exact absurd hx hjn
    · exact h j (by omega) hl hjn
theorem Best.first {ls out : List Bs} {i : Nat} (h : Best ls out i (-1)) (hi : i < ls.length) (hx : ls[i] ∉ out) : Best ls out (i + 1) i := by
  rcases h with ⟨_, h⟩ | ⟨m, hm, _, e, _⟩
  · refine .inr ⟨i, hi, by omega, rfl, hx, fun j hj hl hjn => ?_⟩
    by_cases ej : j = i
    · subst ej; exact bs_le_refl _
    · exact absurd (h j (by omega) hl) hjn
  · omega
theorem Best.less {ls out : List Bs} {i m : Nat} (h : Best ls out i m) (hi : i < ls.length) (hm : m < ls.length) (hx : ls[i] ∉ out) (hlt : ls[i] < ls[m]) : Best ls out (i + 1) i := by
  rcases h with ⟨e, _⟩ | ⟨m', hm', _, e, _, h⟩
  · omega
  · obtain rfl : m = m' := by omega
    refine .inr ⟨i, hi, by omega, rfl, hx, fun j hj hl hjn => ?_⟩
    by_cases ej : j = i
    · subst ej; exact bs_le_refl _
    · exact bs_le_trans (bs_lt_le hlt) (h j (by omega) hl hjn)
theorem Best.more {ls out : List Bs} {i m : Nat} (h : Best ls out i m) (hi : i < ls.length) (hm : m < ls.length) (hge : ¬ ls[i] < ls[m]) : Best ls out (i + 1) m := by
  rcases h with ⟨e, _⟩ | ⟨m', hm', hmi, e, hn, h⟩
  · omega
  · obtain rfl : m = m' := by omega
    refine .inr ⟨m, hm, by omega, rfl, hn, fun j hj hl hjn => ?_⟩
    by_cases ej : j = i
    · subst ej
      rcases bs_total ls[m] ls[j] with g | g
      · exact g
      · by_cases e2 : ls[j] = ls[m]
        · rw [e2]; exact bs_le_refl _
        · exact absurd (bs_lt_ne g e2) hge
    · exact h j (by omega) hl hjn
theorem Best.none {ls out : List Bs} {k : Nat} (h : Best ls out ls.length (-1)) (hs : Sel ls out k) : Sel ls out (k + 1) := by
  rcases h with ⟨_, h⟩ | ⟨m, hm, _, e, _⟩
  · refine hs.stay fun x hx => ?_
    obtain ⟨j, hj, rfl⟩ := List.mem_iff_getElem.1 hx
    exact h j hj hj
  · omega
theorem Best.some {ls out : List Bs} {k m : Nat} (h : Best ls out ls.length m) (hs : Sel ls out k) (hm : m < ls.length) : Sel ls (out ++ [ls[m]]) (k + 1) := by
  rcases h with ⟨e, _⟩ | ⟨m', hm', _, e, hn, h⟩
  · omega
  · obtain rfl : m = m' := by omega
    refine hs.next (List.getElem_mem _) hn fun x hx hxn => ?_
    obtain ⟨j, hj, rfl⟩ := List.mem_iff_getElem.1 hx
    exact h j hj hj hxn
end Go.Proofs.YtkcamfcjkjiijaaGreatDoor
