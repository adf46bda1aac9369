import Derived.Test.YtkbkaeefdhkgdaaGreatDoorPBRefR
namespace Go.Proofs.YtkbkaeefdhkgdaaGreatDoor
section
open Go.RowKit Go.Lib
def Apart (sep p : Bs) : Prop := ∀ r : Bs, index (p ++ (sep ++ r)) sep = p.length
def Lone (sep p : Bs) : Prop := index p sep = -1
theorem occ_head {s : Bs} {a : UInt8} {t : Bs} {j : Nat} (h : s[j]? ≠ some a) : occAt s (a :: t) j = false := by
 cases ho : occAt s (a :: t) j
 ·
  rfl
 ·
  exact absurd (occAt_head rfl ho) h
theorem occ_second {s : Bs} {a b : UInt8} {t : Bs} {j : Nat} (h : s[j + 1]? ≠ some b) : occAt s (a :: b :: t) j = false := by
 cases ho : occAt s (a :: b :: t) j
 ·
  rfl
 ·
  exfalso
  apply h
  unfold occAt at ho
  rw [List.isPrefixOf_iff_prefix] at ho
  obtain ⟨u, hu⟩ := ho
  have := congrArg (fun l => l[1]?) hu
  simp only [List.cons_append, List.getElem?_cons_succ, List.getElem?_cons_zero, List.getElem?_drop] at this
  exact this.symm
theorem occ_self (p sep r : Bs) : occAt (p ++ (sep ++ r)) sep p.length = true := by
 unfold occAt
 rw [List.drop_left, List.isPrefixOf_iff_prefix]
 exact List.prefix_append _ _
theorem get_lt {p q : Bs} {j : Nat} {c : UInt8} (h : j < p.length) (hc : c ∉ p) : (p ++ q)[j]? ≠ some c := by
 rw [List.getElem?_append_left h]
 intro e
 exact hc (List.mem_of_getElem? e)
theorem apart_first {a : UInt8} {t p : Bs} (h : a ∉ p) : Apart (a :: t) p := fun r => by
 refine index_first (by simp) (occ_self p (a :: t) r) (fun j hj => occ_head (get_lt hj h))
theorem apart_second {a b : UInt8} {t p : Bs} (h : b ∉ p) (hab : a ≠ b) : Apart (a :: b :: t) p := fun r => by
 refine index_first (by simp) (occ_self p (a :: b :: t) r) (fun j hj => occ_second ?_)
 by_cases e : j + 1 < p.length
 ·
  exact get_lt e h
 ·
  have : j + 1 = p.length := by omega
  rw [this, List.getElem?_append_right (Nat.le_refl _), Nat.sub_self]
  simp [hab]
theorem lone_first {a : UInt8} {t p : Bs} (h : a ∉ p) : Lone (a :: t) p := index_none (fun _ _ => occ_head (fun e => h (List.mem_of_getElem? e)))
theorem lone_second {a b : UInt8} {t p : Bs} (h : b ∉ p) : Lone (a :: b :: t) p := index_none (fun _ _ => occ_second (fun e => h (List.mem_of_getElem? e)))
theorem split_join (sep : Bs) (h0 : 0 < sep.length) : ∀ (ps : List Bs) (k : Nat), ps ≠ [] → ps.length ≤ k + 1 → (∀ p ∈ ps, Apart sep p ∧ Lone sep p) → splitK sep 0 k (Lib.join ps sep) = ps
 | [], _, h, _, _ => absurd rfl h
 | [p], k, _, _, h => by
  rw [join_one]
  cases k with
  | zero => rfl
  | succ k => rw [splitK, if_pos (by rw [(h p (by simp)).2]; rfl)]
 | p :: q :: ps, k, _, hk, h => by
  obtain ⟨k, rfl⟩ : ∃ k', k = k' + 1 := ⟨k - 1, by simp at hk; omega⟩
  have e : Lib.join (p :: q :: ps) sep = p ++ (sep ++ Lib.join (q :: ps) sep) := by
   rw [join_cons, join_cons]; simp [joinTail]
  have hi := (h p (by simp)).1 (Lib.join (q :: ps) sep)
  have ih := split_join sep h0 (q :: ps) k (by simp) (by simp at hk ⊢; omega) (fun x hx => h x (List.mem_cons_of_mem _ hx))
  rw [e, splitK, hi, if_neg (by intro g; have := beq_iff_eq.1 g; omega)]
  have e1 : ((p.length : Int).toNat + 0) = p.length := by omega
  rw [e1, List.take_left, show (p.length : Int).toNat + sep.length = p.length + sep.length by omega, ← List.drop_drop, List.drop_left, List.drop_left, ih]
theorem splitK_ne (sep : Bs) : ∀ (k : Nat) (s : Bs), splitK sep 0 k s ≠ []
 | 0, s => by simp [splitK]
 | k + 1, s => by rw [splitK]; split <;> simp
theorem join_split (sep : Bs) : ∀ (k : Nat) (s : Bs), Lib.join (splitK sep 0 k s) sep = s
 | 0, s => join_one _ _
 | k + 1, s => by
  rw [splitK]
  split
  ·
   exact join_one _ _
  ·
   rename_i h
   have hi : 0 ≤ index s sep := by
    have := index_ge s sep
    have : index s sep ≠ -1 := fun e => h (by rw [e]; rfl)
    omega
   obtain ⟨q, ps, hq⟩ : ∃ q ps, splitK sep 0 k (s.drop ((index s sep).toNat + sep.length)) = q :: ps := by
    cases hs : splitK sep 0 k (s.drop ((index s sep).toNat + sep.length)) with
    | nil => exact absurd hs (splitK_ne _ _ _)
    | cons q ps => exact ⟨q, ps, rfl⟩
   have ih := join_split sep k (s.drop ((index s sep).toNat + sep.length))
   rw [hq] at ih ⊢
   have e : ∀ p, Lib.join (p :: q :: ps) sep = p ++ (sep ++ Lib.join (q :: ps) sep) := fun p => by
    rw [join_cons, join_cons]; simp [joinTail]
   rw [e, ih, Nat.add_zero]
   rcases index_spec s sep with ⟨g, _⟩ | ⟨i, g, hle, ho, _⟩
   ·
    omega
   ·
    rw [g, show (i : Int).toNat = i by omega]
    unfold occAt at ho
    rw [List.isPrefixOf_iff_prefix] at ho
    obtain ⟨u, hu⟩ := ho
    rw [← List.drop_drop, ← hu, List.drop_left, hu, List.take_append_drop]
theorem splitK_len (sep : Bs) : ∀ (k : Nat) (s : Bs), (splitK sep 0 k s).length ≤ k + 1
 | 0, s => by simp [splitK]
 | k + 1, s => by
  rw [splitK]
  split
  ·
   simp
  ·
   have := splitK_len sep k (s.drop ((index s sep).toNat + sep.length))
   simp only [List.length_cons]; omega
theorem splitK_piece (sep : Bs) : ∀ (k : Nat) (s : Bs), ∀ p ∈ splitK sep 0 k s, p.length ≤ s.length
 | 0, s, p, hp => by simp [splitK] at hp; subst hp; exact Nat.le_refl _
 | k + 1, s, p, hp => by
  rw [splitK] at hp
  split at hp
  ·
   simp at hp; subst hp; exact Nat.le_refl _
  ·
   rcases List.mem_cons.1 hp with h | h
   ·
    subst h; exact List.length_take_le' _ _
   ·
    have := splitK_piece sep k _ p h
    rw [List.length_drop] at this; omega
def cutP {α : Type} (parse : Bs → Option α) (sep s : Bs) : Option (List α) := if 64 < (splitN s sep 65).length then none else (splitN s sep 65).mapM parse
theorem join_len (sep : Bs) : ∀ (ps : List Bs), ps.length ≤ (Lib.join ps sep).length + 1 ∨ sep = []
 | [] => .inl (by simp)
 | [p] => .inl (by simp)
 | p :: q :: ps => by
  rcases join_len sep (q :: ps) with h | h
  ·
   by_cases hs : sep = []
   ·
    exact .inr hs
   ·
    left
    have e : Lib.join (p :: q :: ps) sep = p ++ (sep ++ Lib.join (q :: ps) sep) := by
     rw [join_cons, join_cons]; simp [joinTail]
    have : 0 < sep.length := List.length_pos_iff.2 hs
    rw [e, List.length_append, List.length_append]
    simp only [List.length_cons] at h ⊢; omega
  ·
   exact .inr h
theorem mapM_text {α : Type} {parse : Bs → Option α} {text : α → Bs} : ∀ (xs : List α), (∀ x ∈ xs, parse (text x) = some x) → (xs.map text).mapM parse = some xs
 | [], _ => rfl
 | x :: xs, h => by
  rw [List.map_cons, List.mapM_cons, h x (by simp), mapM_text xs (fun y hy => h y (List.mem_cons_of_mem _ hy))]; rfl
theorem cutP_text {α : Type} {parse : Bs → Option α} {text : α → Bs} {sep : Bs} (h0 : 0 < sep.length) {xs : List α} (hne : xs ≠ []) (hl : xs.length ≤ 64) (hp : ∀ x ∈ xs, parse (text x) = some x) (ha : ∀ x ∈ xs, Apart sep (text x) ∧ Lone sep (text x)) : cutP parse sep (Lib.join (xs.map text) sep) = some xs := by
 have hj := join_len sep (xs.map text)
 rw [List.length_map] at hj
 have hj2 : xs.length ≤ (Lib.join (xs.map text) sep).length + 1 := by
  rcases hj with h | h
  ·
   exact h
  ·
   rw [h] at h0; simp at h0
 have hs : splitN (Lib.join (xs.map text) sep) sep 65 = xs.map text := by
  unfold splitN
  refine split_join sep h0 _ _ (by simpa using hne) (by rw [List.length_map]; omega) (fun p hp => ?_)
  obtain ⟨x, hx, rfl⟩ := List.mem_map.1 hp
  exact ha x hx
 unfold cutP
 rw [hs, if_neg (by rw [List.length_map]; omega)]
 exact mapM_text xs hp
theorem mapM_inv {α : Type} {parse : Bs → Option α} {text : α → Bs} (h : ∀ p x, parse p = some x → text x = p) : ∀ (ps : List Bs) (xs : List α), ps.mapM parse = some xs → xs.map text = ps ∧ ∀ x ∈ xs, ∃ p ∈ ps, parse p = some x
 | [], xs, hm => by simp at hm; subst hm; exact ⟨rfl, fun x hx => by simp at hx⟩
 | p :: ps, xs, hm => by
  rw [List.mapM_cons] at hm
  cases hp : parse p with
  | none => rw [hp] at hm; simp at hm
  | some x =>
   rw [hp] at hm
   cases hq : ps.mapM parse with
   | none => rw [hq] at hm; simp at hm
   | some ys =>
    rw [hq] at hm
    simp at hm
    subst hm
    obtain ⟨h1, h2⟩ := mapM_inv h ps ys hq
    refine ⟨by rw [List.map_cons, h p x hp, h1], fun y hy => ?_⟩
    rcases List.mem_cons.1 hy with e | e
    ·
     subst e; exact ⟨p, by simp, hp⟩
    ·
     obtain ⟨q, hq1, hq2⟩ := h2 y e
     exact ⟨q, List.mem_cons_of_mem _ hq1, hq2⟩
theorem cutP_inv {α : Type} {parse : Bs → Option α} {text : α → Bs} {sep s : Bs} {xs : List α} (h : ∀ p x, parse p = some x → text x = p) (hc : cutP parse sep s = some xs) : Lib.join (xs.map text) sep = s ∧ xs ≠ [] ∧ xs.length ≤ 64 ∧ ∀ x ∈ xs, ∃ p, parse p = some x := by
 unfold cutP at hc
 split at hc
 ·
  cases hc
 ·
  rename_i hl
  obtain ⟨h1, h2⟩ := mapM_inv h _ _ hc
  have hlen := congrArg List.length h1
  rw [List.length_map] at hlen
  refine ⟨by rw [h1]; exact join_split sep _ s, fun e => ?_, by omega, fun x hx => ?_⟩
  ·
   subst e
   exact splitK_ne sep _ s (by unfold splitN at h1; exact h1.symm)
  ·
   obtain ⟨p, _, hp⟩ := h2 x hx
   exact ⟨p, hp⟩
end
section
open Go.RowKit Go.Lib
def OddC (c : UInt8) : Prop := dgB c = false ∧ ltB c = false ∧ c ∉ ([46, 43, 45, 126, 58, 60, 61, 62, 32, 40, 41] : Bs) ∧ inB c = false
theorem odd44 : OddC 44 := by unfold OddC; decide
theorem odd124 : OddC 124 := by unfold OddC; decide
theorem name_odd {c : UInt8} (hc : OddC c) {n : Bs} (h : nameB n = true) : c ∉ n := fun hm => by
 unfold nameB at h
 simp only [Bool.and_eq_true, List.all_eq_true] at h
 have := h.2 _ hm
 rw [hc.2.2.2] at this; cases this
theorem op_odd {c : UInt8} (hc : OddC c) {o : Bs} (h : opB o = true) : c ∉ o := by
 have h60 : c ≠ 60 := fun e => hc.2.2.1 (by rw [e]; decide)
 have h61 : c ≠ 61 := fun e => hc.2.2.1 (by rw [e]; decide)
 have h62 : c ≠ 62 := fun e => hc.2.2.1 (by rw [e]; decide)
 unfold opB at h
 simp only [Bool.or_eq_true, decide_eq_true_eq] at h
 rcases h with (((h | h) | h) | h) | h <;> subst h <;> simp [h60, h61, h62]
theorem only_odd {c : UInt8} (hc : OddC c) {m s : Bs} (hm : c ∉ m) (h : onlyB m s = true) : c ∉ s := fun hs => by
 unfold onlyB at h
 rw [List.all_eq_true] at h
 have := h _ hs
 rw [hc.1, hc.2.1] at this
 simp at this
 exact hm this
theorem rest_odd {c : UInt8} (hc : OddC c) {e : Int} {m s : Bs} {v : Ver} (hm : c ∉ m) (h : restV e m s = some v) : c ∉ s := fun hs => by
 have h45 : c ≠ 45 := fun e => hc.2.2.1 (by rw [e]; decide)
 have hm2 : c ∉ ([46, 43, 126] : Bs) := fun e => hc.2.2.1 (by simp at e; rcases e with rfl | rfl | rfl <;> decide)
 unfold restV at h
 split at h
 ·
  rename_i g
  rcases cutHy_mem s c h45 hs with h1 | h1
  ·
   exact only_odd hc hm g.2.1 h1
  ·
   exact only_odd hc hm2 g.2.2.2 h1
 ·
  cases h
theorem ver_odd {c : UInt8} (hc : OddC c) {v : Bs} (h : (parseE v).2 = 0) : c ∉ v := fun hs => by
 have m1 : c ∉ ([46, 43, 45, 126, 58] : Bs) := fun e => hc.2.2.1 (by simp at e; rcases e with rfl | rfl | rfl | rfl | rfl <;> decide)
 have m2 : c ∉ ([46, 43, 45, 126] : Bs) := fun e => hc.2.2.1 (by simp at e; rcases e with rfl | rfl | rfl | rfl <;> decide)
 unfold parseE at h
 split at h
 ·
  simp at h
 ·
  split at h
  ·
   rename_i x hx
   unfold verOf at hx
   split at hx
   ·
    rename_i hcc
    split at hx
    ·
     rename_i g
     have e : v = v.take (colonAt v) ++ v.drop (colonAt v) := (List.take_append_drop _ _).symm
     have hd := List.drop_eq_getElem_cons (l := v) (i := colonAt v) hcc
     have hst := takeWhile_stop (fun c : UInt8 => decide (c ≠ 58)) v hcc
     simp only [decide_eq_false_iff_not, ne_eq, Decidable.not_not] at hst
     have h58 : v[colonAt v] = 58 := hst
     rw [h58] at hd
     rw [hd] at e
     rw [e] at hs
     rcases List.mem_append.1 hs with h1 | h1
     ·
      have := List.all_eq_true.1 g.2.2 _ h1
      rw [hc.1] at this; cases this
     ·
      rcases List.mem_cons.1 h1 with h1 | h1
      ·
       exact hc.2.2.1 (by rw [h1]; decide)
      ·
       exact rest_odd hc m1 hx h1
    ·
     cases hx
   ·
    exact rest_odd hc m2 hx hs
  ·
   simp at h
theorem text_odd {c : UInt8} (hc : OddC c) {x : Rl} (h : rightR x = true) : c ∉ textR x := by
 obtain ⟨n, o, v⟩ := x
 have h32 : c ≠ 32 := fun e => hc.2.2.1 (by rw [e]; decide)
 have h40 : c ≠ 40 := fun e => hc.2.2.1 (by rw [e]; decide)
 have h41 : c ≠ 41 := fun e => hc.2.2.1 (by rw [e]; decide)
 unfold rightR at h
 simp only [Bool.and_eq_true] at h
 obtain ⟨h1, h2⟩ := h
 have g1 := name_odd hc h1
 unfold textR
 simp only []
 by_cases ho : o = []
 ·
  rw [if_pos ho]; exact g1
 ·
  rw [if_neg ho] at h2 ⊢
  simp only [Bool.and_eq_true, decide_eq_true_eq] at h2
  have g2 := op_odd hc h2.1
  have g3 := ver_odd hc h2.2
  simp [g1, g2, g3, h32, h40, h41]
theorem text_ne {x : Rl} (h : rightR x = true) : textR x ≠ [] := by
 unfold rightR at h
 simp only [Bool.and_eq_true] at h
 have := name_ne h.1
 unfold textR
 split
 ·
  exact this
 ·
  simp
end
section
open Go.RowKit Go.Lib
abbrev sepG : Bs := [32, 124, 32]
abbrev sepA : Bs := [44, 32]
def textG (g : List Rl) : Bs := Lib.join (g.map textR) sepG
def textA (l : List (List Rl)) : Bs := Lib.join (l.map textG) sepA
def textQ (l : List Rl) : Bs := Lib.join (l.map textR) sepA
def parseG (s : Bs) : Option (List Rl) := cutP parseR sepG s
def parseA (s : Bs) : Option (List (List Rl)) := if s = [] then some [] else cutP parseG sepA s
def parseQ (s : Bs) : Option (List Rl) := if s = [] then some [] else cutP parseR sepA s
def RightG (g : List Rl) : Prop := g ≠ [] ∧ g.length ≤ 64 ∧ ∀ x ∈ g, rightR x = true
def RightA (l : List (List Rl)) : Prop := l.length ≤ 64 ∧ ∀ g ∈ l, RightG g
def RightL (l : List Rl) : Prop := l.length ≤ 64 ∧ ∀ x ∈ l, rightR x = true
theorem parseG_text {g : List Rl} (h : RightG g) : parseG (textG g) = some g :=
 cutP_text (by decide) h.1 h.2.1 (fun x hx => parse_textR (h.2.2 x hx)) (fun x hx => ⟨apart_second (text_odd odd124 (h.2.2 x hx)) (by decide), lone_second (text_odd odd124 (h.2.2 x hx))⟩)
theorem textG_inv {s : Bs} {g : List Rl} (h : parseG s = some g) : textG g = s ∧ RightG g := by
 obtain ⟨h1, h2, h3, h4⟩ := cutP_inv (text := textR) (fun p x hp => (text_parseR hp).1) h
 exact ⟨h1, h2, h3, fun x hx => by obtain ⟨p, hp⟩ := h4 x hx; exact (text_parseR hp).2⟩
theorem mem_join {sep : Bs} {c : UInt8} : ∀ {ps : List Bs}, c ∈ Lib.join ps sep → c ∈ sep ∨ ∃ p ∈ ps, c ∈ p
 | [], h => by simp [Lib.join, List.intercalate] at h
 | [p], h => by rw [join_one] at h; exact .inr ⟨p, by simp, h⟩
 | p :: q :: ps, h => by
  have e : Lib.join (p :: q :: ps) sep = p ++ (sep ++ Lib.join (q :: ps) sep) := by
   rw [join_cons, join_cons]; simp [joinTail]
  rw [e] at h
  rcases List.mem_append.1 h with h | h
  ·
   exact .inr ⟨p, by simp, h⟩
  ·
   rcases List.mem_append.1 h with h | h
   ·
    exact .inl h
   ·
    rcases mem_join h with g | ⟨x, hx, g⟩
    ·
     exact .inl g
    ·
     exact .inr ⟨x, List.mem_cons_of_mem _ hx, g⟩
theorem textG_44 {g : List Rl} (h : RightG g) : (44 : UInt8) ∉ textG g := fun hm => by
 rcases mem_join hm with h1 | ⟨p, hp, h1⟩
 ·
  revert h1; decide
 ·
  obtain ⟨x, hx, rfl⟩ := List.mem_map.1 hp
  exact text_odd odd44 (h.2.2 x hx) h1
theorem join_ne {sep : Bs} {ps : List Bs} (h0 : ps ≠ []) (h : ∀ p ∈ ps, p ≠ []) : Lib.join ps sep ≠ [] := by
 cases ps with
 | nil => exact absurd rfl h0
 | cons p ps =>
  rw [join_cons]
  intro e
  exact h p (by simp) (List.append_eq_nil_iff.1 e).1
theorem textG_ne {g : List Rl} (h : RightG g) : textG g ≠ [] := join_ne (by simpa using h.1) (fun p hp => by
 obtain ⟨x, hx, rfl⟩ := List.mem_map.1 hp
 exact text_ne (h.2.2 x hx))
theorem parseA_text {l : List (List Rl)} (h : RightA l) : parseA (textA l) = some l := by
 by_cases h0 : l = []
 ·
  subst h0; rfl
 ·
  have hne : textA l ≠ [] := join_ne (by simpa using h0) (fun p hp => by
   obtain ⟨g, hg, rfl⟩ := List.mem_map.1 hp
   exact textG_ne (h.2 g hg))
  unfold parseA
  rw [if_neg hne]
  exact cutP_text (by decide) h0 h.1 (fun g hg => parseG_text (h.2 g hg)) (fun g hg => ⟨apart_first (textG_44 (h.2 g hg)), lone_first (textG_44 (h.2 g hg))⟩)
theorem textA_inv {s : Bs} {l : List (List Rl)} (h : parseA s = some l) : textA l = s ∧ RightA l := by
 unfold parseA at h
 split at h
 ·
  rename_i e; cases h; subst e; exact ⟨rfl, by simp, fun g hg => by simp at hg⟩
 ·
  obtain ⟨h1, -, h3, h4⟩ := cutP_inv (text := textG) (fun p x hp => (textG_inv hp).1) h
  exact ⟨h1, h3, fun g hg => by obtain ⟨p, hp⟩ := h4 g hg; exact (textG_inv hp).2⟩
theorem parseQ_text {l : List Rl} (h : RightL l) : parseQ (textQ l) = some l := by
 by_cases h0 : l = []
 ·
  subst h0; rfl
 ·
  have hne : textQ l ≠ [] := join_ne (by simpa using h0) (fun p hp => by
   obtain ⟨x, hx, rfl⟩ := List.mem_map.1 hp
   exact text_ne (h.2 x hx))
  unfold parseQ
  rw [if_neg hne]
  exact cutP_text (by decide) h0 h.1 (fun x hx => parse_textR (h.2 x hx)) (fun x hx => ⟨apart_first (text_odd odd44 (h.2 x hx)), lone_first (text_odd odd44 (h.2 x hx))⟩)
theorem textQ_inv {s : Bs} {l : List Rl} (h : parseQ s = some l) : textQ l = s ∧ RightL l := by
 unfold parseQ at h
 split at h
 ·
  rename_i e; cases h; subst e; exact ⟨rfl, by simp, fun g hg => by simp at hg⟩
 ·
  obtain ⟨h1, -, h3, h4⟩ := cutP_inv (text := textR) (fun p x hp => (text_parseR hp).1) h
  exact ⟨h1, h3, fun x hx => by obtain ⟨p, hp⟩ := h4 x hx; exact (text_parseR hp).2⟩
-- The document's reading.
def trimL (s : Bs) : Bs := if s.head? = some 32 then s.tail else s
def trimR (s : Bs) : Bs := if s.getLast? = some 32 then s.dropLast else s
def refG (p : Bs) : Option (List Rl) := (spl 124 (trimL p)).mapM fun q => parseR (trimR (trimL q))
def refRead (s : Bs) : Option (List (List Rl)) := (spl 44 s).mapM refG
theorem text_no32 {x : Rl} (h : rightR x = true) : (textR x).head? ≠ some 32 ∧ (textR x).getLast? ≠ some 32 := by
 have h' := h
 unfold rightR at h
 simp only [Bool.and_eq_true] at h
 have hn := name_32 h.1
 have hne := name_ne h.1
 obtain ⟨n, o, v⟩ := x
 simp only [] at hn hne
 constructor
 ·
  cases n with
  | nil => exact absurd rfl hne
  | cons a t =>
   have : a ≠ 32 := fun e => hn (by rw [e]; simp)
   unfold textR
   simp only []
   split <;> simp [this]
 ·
  unfold textR
  simp only []
  split
  ·
   intro e
   exact hn (List.mem_of_getLast? e)
  ·
   have e2 : n ++ 32 :: 40 :: (o ++ 32 :: (v ++ [41])) = (n ++ 32 :: 40 :: (o ++ 32 :: v)) ++ [41] := by simp
   rw [e2, List.getLast?_append]; simp
theorem trimL_no {s : Bs} (h : s.head? ≠ some 32) : trimL s = s := if_neg h
theorem trimR_no {s : Bs} (h : s.getLast? ≠ some 32) : trimR s = s := if_neg h
theorem trimL_32 (s : Bs) : trimL (32 :: s) = s := rfl
theorem trimR_32 (s : Bs) : trimR (s ++ [32]) = s := by unfold trimR; simp
theorem join_two (p q : Bs) (ps : List Bs) (sep : Bs) : Lib.join (p :: q :: ps) sep = p ++ (sep ++ Lib.join (q :: ps) sep) := by
 rw [join_cons, join_cons]; simp [joinTail]
theorem bars_go : ∀ (g : List Rl), g ≠ [] → (∀ x ∈ g, rightR x = true) → ((spl 124 (32 :: textG g)).mapM fun q => parseR (trimR (trimL q))) = some g
 | [], h, _ => absurd rfl h
 | [x], _, h => by
  have hx := h x (by simp)
  have n1 := text_odd odd124 hx
  have e : textG [x] = textR x := join_one _ _
  rw [e, spl_no 124 (32 :: textR x) (by simp [n1]), List.mapM_cons, trimL_32, trimR_no (text_no32 hx).2, parse_textR hx]; rfl
 | x :: y :: g, _, h => by
  have hx := h x (by simp)
  have n1 := text_odd odd124 hx
  have e : (32 :: textG (x :: y :: g) : Bs) = (32 :: textR x ++ [32]) ++ 124 :: (32 :: textG (y :: g)) := by
   unfold textG; rw [List.map_cons, List.map_cons, join_two]; simp
  have ih := bars_go (y :: g) (by simp) (fun z hz => h z (List.mem_cons_of_mem _ hz))
  rw [e, spl_at 124 _ _ (by simp [n1]), List.mapM_cons, ih, List.cons_append, trimL_32, trimR_32, parse_textR hx]; rfl
theorem textG_head {g : List Rl} (h : RightG g) : (textG g).head? ≠ some 32 := by
 obtain ⟨h0, -, h2⟩ := h
 cases g with
 | nil => exact absurd rfl h0
 | cons x g =>
  have := (text_no32 (h2 x (by simp))).1
  have hn := text_ne (h2 x (by simp))
  unfold textG
  rw [List.map_cons, join_cons]
  cases ht : textR x with
  | nil => exact absurd ht hn
  | cons a t => rw [ht] at this; simpa using this
theorem refG_blank {g : List Rl} (h : RightG g) : refG (32 :: textG g) = some g ∧ refG (textG g) = some g := by
 have key : ((spl 124 (textG g)).mapM fun q => parseR (trimR (trimL q))) = some g := by
  obtain ⟨h0, -, h2⟩ := h
  match g, h0, h2 with
  | [x], _, h => 
   have hx := h x (by simp)
   have n1 := text_odd odd124 hx
   have e : textG [x] = textR x := join_one _ _
   rw [e, spl_no 124 (textR x) n1, List.mapM_cons, trimL_no (text_no32 hx).1, trimR_no (text_no32 hx).2, parse_textR hx]; rfl
  | x :: y :: g, _, h =>
   have hx := h x (by simp)
   have n1 := text_odd odd124 hx
   have e : textG (x :: y :: g) = (textR x ++ [32]) ++ 124 :: (32 :: textG (y :: g)) := by
    unfold textG; rw [List.map_cons, List.map_cons, join_two]; simp
   have ih := bars_go (y :: g) (by simp) (fun z hz => h z (List.mem_cons_of_mem _ hz))
   have hh : (textR x ++ [32]).head? ≠ some 32 := by
    have := (text_no32 hx).1
    have hn := text_ne hx
    cases ht : textR x with
    | nil => exact absurd ht hn
    | cons a t => rw [ht] at this; simpa using this
   rw [e, spl_at 124 _ _ (by simp [n1]), List.mapM_cons, ih, trimL_no hh, trimR_32, parse_textR hx]; rfl
 unfold refG
 rw [trimL_32, trimL_no (textG_head h)]
 exact ⟨key, key⟩
theorem commas_go : ∀ (l : List (List Rl)), l ≠ [] → (∀ g ∈ l, RightG g) → (spl 44 (32 :: textA l)).mapM refG = some l
 | [], h, _ => absurd rfl h
 | [g], _, h => by
  have hg := h g (by simp)
  have e : textA [g] = textG g := join_one _ _
  rw [e, spl_no 44 (32 :: textG g) (by simp [textG_44 hg]), List.mapM_cons, (refG_blank hg).1]; rfl
 | g :: k :: l, _, h => by
  have hg := h g (by simp)
  have e : (32 :: textA (g :: k :: l) : Bs) = (32 :: textG g) ++ 44 :: (32 :: textA (k :: l)) := by
   unfold textA; rw [List.map_cons, List.map_cons, join_two]; simp
  have ih := commas_go (k :: l) (by simp) (fun z hz => h z (List.mem_cons_of_mem _ hz))
  rw [e, spl_at 44 _ _ (by simp [textG_44 hg]), List.mapM_cons, ih, (refG_blank hg).1]; rfl
theorem refRead_text {l : List (List Rl)} (h0 : l ≠ []) (h : RightA l) : refRead (textA l) = some l := by
 unfold refRead
 match l, h0, h.2 with
 | [g], _, h =>
  have hg := h g (by simp)
  have e : textA [g] = textG g := join_one _ _
  rw [e, spl_no 44 (textG g) (textG_44 hg), List.mapM_cons, (refG_blank hg).2]; rfl
 | g :: k :: l, _, h =>
  have hg := h g (by simp)
  have e : textA (g :: k :: l) = textG g ++ 44 :: (32 :: textA (k :: l)) := by
   unfold textA; rw [List.map_cons, List.map_cons, join_two]; simp
  have ih := commas_go (k :: l) (by simp) (fun z hz => h z (List.mem_cons_of_mem _ hz))
  rw [e, spl_at 44 _ _ (textG_44 hg), List.mapM_cons, ih, (refG_blank hg).2]; rfl
end
end Go.Proofs.YtkbkaeefdhkgdaaGreatDoor
