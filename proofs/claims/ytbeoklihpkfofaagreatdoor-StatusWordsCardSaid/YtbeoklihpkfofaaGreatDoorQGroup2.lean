/-
  Groups of relations as lists: their texts, and what is read of a text; nothing of the program. What the program and the document's answer read of a text of groups: the same; nothing of the program.
-/
import Derived.Test.YtbeoklihpkfofaaGreatDoorQPParse
namespace Go.Proofs.YtbeoklihpkfofaaGreatDoor
open Go.RowKit Go.Lib
/-- A byte that is in no relation's text. -/
def OddC (c : UInt8) : Prop := dgB c = false ∧ ltB c = false ∧ c ∉ ([46, 43, 45, 126, 58, 60, 61, 62, 32, 40, 41] : Bs) ∧ inB c = false
theorem odd44 : OddC 44 := by unfold OddC; decide
theorem odd124 : OddC 124 := by unfold OddC; decide
theorem name_odd {c : UInt8} (hc : OddC c) {n : Bs} (h : nameB n = true) : c ∉ n := fun hm => by
  unfold nameB at h
  simp only [Bool.and_eq_true, List.all_eq_true] at h
  have := h.2 _ hm
  rw [hc.2.2.2] at this; cases this
theorem op_odd {c : UInt8} (hc : OddC c) {o : Bs} (h : opB o = true) : c ∉ o := by
  have h60 : c ≠ 60 := fun e => hc.2.2.1 (by rw [e]; decide)
  have h61 : c ≠ 61 := fun e => hc.2.2.1 (by rw [e]; decide)
  have h62 : c ≠ 62 := fun e => hc.2.2.1 (by rw [e]; decide)
  unfold opB at h
  simp only [Bool.or_eq_true, decide_eq_true_eq] at h
  rcases h with (((h | h) | h) | h) | h <;> subst h <;> simp [h60, h61, h62]
theorem only_odd {c : UInt8} (hc : OddC c) {m s : Bs} (hm : c ∉ m) (h : onlyB m s = true) : c ∉ s := fun hs => by
  unfold onlyB at h
  rw [List.all_eq_true] at h
  have := h _ hs
  rw [hc.1, hc.2.1] at this
  simp at this
  exact hm this
theorem rest_odd {c : UInt8} (hc : OddC c) {e : Int} {m s : Bs} {v : Ver} (hm : c ∉ m) (h : restV e m s = some v) : c ∉ s := fun hs => by
  have h45 : c ≠ 45 := fun e => hc.2.2.1 (by rw [e]; decide)
  have hm2 : c ∉ ([46, 43, 126] : Bs) := fun e => hc.2.2.1 (by simp at e; rcases e with rfl | rfl | rfl <;> decide)
  unfold restV at h
  split at h
  · rename_i g
    rcases cutHy_mem s c h45 hs with h1 | h1
    · exact only_odd hc hm g.2.1 h1
    · exact only_odd hc hm2 g.2.2.2 h1
  · cases h
theorem ver_odd {c : UInt8} (hc : OddC c) {v : Bs} (h : (parseE v).2 = 0) : c ∉ v := fun hs => by
  have m1 : c ∉ ([46, 43, 45, 126, 58] : Bs) := fun e => hc.2.2.1 (by simp at e; rcases e with rfl | rfl | rfl | rfl | rfl <;> decide)
  have m2 : c ∉ ([46, 43, 45, 126] : Bs) := fun e => hc.2.2.1 (by simp at e; rcases e with rfl | rfl | rfl | rfl <;> decide)
  unfold parseE at h
  split at h
  · simp at h
  · split at h
    · rename_i x hx
      unfold verOf at hx
      split at hx
      · rename_i hcc
        split at hx
        · rename_i g
          have e : v = v.take (colonAt v) ++ v.drop (colonAt v) := (List.take_append_drop _ _).symm
          have hd := List.drop_eq_getElem_cons (l := v) (i := colonAt v) hcc
          have hst := takeWhile_stop (fun c : UInt8 => decide (c ≠ 58)) v hcc
          simp only [decide_eq_false_iff_not, ne_eq, Decidable.not_not] at hst
          have h58 : v[colonAt v] = 58 := hst
          rw [h58] at hd
          rw [hd] at e
          rw [e] at hs
          rcases List.mem_append.1 hs with h1 | h1
          · have := List.all_eq_true.1 g.2.2 _ h1
            rw [hc.1] at this; cases this
          · rcases List.mem_cons.1 h1 with h1 | h1
            · exact hc.2.2.1 (by rw [h1]; decide)
            · exact rest_odd hc m1 hx h1
        · cases hx
      · exact rest_odd hc m2 hx hs
    · simp at h
theorem text_odd {c : UInt8} (hc : OddC c) {x : Rl} (h : rightR x = true) : c ∉ textR x := by
  obtain ⟨n, o, v⟩ := x
  have h32 : c ≠ 32 := fun e => hc.2.2.1 (by rw [e]; decide)
  have h40 : c ≠ 40 := fun e => hc.2.2.1 (by rw [e]; decide)
  have h41 : c ≠ 41 := fun e => hc.2.2.1 (by rw [e]; decide)
  unfold rightR at h
  simp only [Bool.and_eq_true] at h
  obtain ⟨h1, h2⟩ := h
  have g1 := name_odd hc h1
  unfold textR
  simp only []
  by_cases ho : o = []
  · rw [if_pos ho]; exact g1
  · rw [if_neg ho] at h2 ⊢
    simp only [Bool.and_eq_true, decide_eq_true_eq] at h2
    have g2 := op_odd hc h2.1
    have g3 := ver_odd hc h2.2
    simp [g1, g2, g3, h32, h40, h41]
theorem text_ne {x : Rl} (h : rightR x = true) : textR x ≠ [] := by
  unfold rightR at h
  simp only [Bool.and_eq_true] at h
  have := name_ne h.1
  unfold textR
  split
  · exact this
  · simp
end Go.Proofs.YtbeoklihpkfofaaGreatDoor
namespace Go.Proofs.YtbeoklihpkfofaaGreatDoor
open Go.RowKit Go.Lib
abbrev sepG : Bs := [32, 124, 32]
abbrev sepA : Bs := [44, 32]
def textG (g : List Rl) : Bs := Lib.join (g.map textR) sepG
def textA (l : List (List Rl)) : Bs := Lib.join (l.map textG) sepA
def textQ (l : List Rl) : Bs := Lib.join (l.map textR) sepA
def parseG (s : Bs) : Option (List Rl) := cutP parseR sepG s
def parseA (s : Bs) : Option (List (List Rl)) := if s = [] then some [] else cutP parseG sepA s
def parseQ (s : Bs) : Option (List Rl) := if s = [] then some [] else cutP parseR sepA s
def RightG (g : List Rl) : Prop := g ≠ [] ∧ g.length ≤ 64 ∧ ∀ x ∈ g, rightR x = true
def RightA (l : List (List Rl)) : Prop := l.length ≤ 64 ∧ ∀ g ∈ l, RightG g
def RightL (l : List Rl) : Prop := l.length ≤ 64 ∧ ∀ x ∈ l, rightR x = true
theorem parseG_text {g : List Rl} (h : RightG g) : parseG (textG g) = some g :=
  cutP_text (by decide) h.1 h.2.1 (fun x hx => parse_textR (h.2.2 x hx)) (fun x hx => ⟨apart_second (text_odd odd124 (h.2.2 x hx)) (by decide), lone_second (text_odd odd124 (h.2.2 x hx))⟩)
theorem textG_inv {s : Bs} {g : List Rl} (h : parseG s = some g) : textG g = s ∧ RightG g := by
  obtain ⟨h1, h2, h3, h4⟩ := cutP_inv (text := textR) (fun p x hp => (text_parseR hp).1) h
  exact ⟨h1, h2, h3, fun x hx => by obtain ⟨p, hp⟩ := h4 x hx; exact (text_parseR hp).2⟩
theorem mem_join {sep : Bs} {c : UInt8} : ∀ {ps : List Bs}, c ∈ Lib.join ps sep → c ∈ sep ∨ ∃ p ∈ ps, c ∈ p
  | [], h => by simp [Lib.join, List.intercalate] at h
  | [p], h => by rw [join_one] at h; exact .inr ⟨p, by simp, h⟩
  | p :: q :: ps, h => by
    have e : Lib.join (p :: q :: ps) sep = p ++ (sep ++ Lib.join (q :: ps) sep) := by
      rw [join_cons, join_cons]; simp [joinTail]
    rw [e] at h
    rcases List.mem_append.1 h with h | h
    · exact .inr ⟨p, by simp, h⟩
    · rcases List.mem_append.1 h with h | h
      · exact .inl h
      · rcases mem_join h with g | ⟨x, hx, g⟩
        · exact .inl g
        · exact .inr ⟨x, List.mem_cons_of_mem _ hx, g⟩
theorem textG_44 {g : List Rl} (h : RightG g) : (44 : UInt8) ∉ textG g := fun hm => by
  rcases mem_join hm with h1 | ⟨p, hp, h1⟩
  · revert h1; decide
  · obtain ⟨x, hx, rfl⟩ := List.mem_map.1 hp
    exact text_odd odd44 (h.2.2 x hx) h1
theorem join_ne {sep : Bs} {ps : List Bs} (h0 : ps ≠ []) (h : ∀ p ∈ ps, p ≠ []) : Lib.join ps sep ≠ [] := by
  cases ps with
  | nil => exact absurd rfl h0
  | cons p ps =>
    rw [join_cons]
    intro e
    exact h p (by simp) (List.append_eq_nil_iff.1 e).1
theorem textG_ne {g : List Rl} (h : RightG g) : textG g ≠ [] := join_ne (by simpa using h.1) (fun p hp => by
  obtain ⟨x, hx, rfl⟩ := List.mem_map.1 hp
  exact text_ne (h.2.2 x hx))
theorem parseA_text {l : List (List Rl)} (h : RightA l) : parseA (textA l) = some l := by
  by_cases h0 : l = []
  · subst h0; rfl
  · have hne : textA l ≠ [] := join_ne (by simpa using h0) (fun p hp => by
      obtain ⟨g, hg, rfl⟩ := List.mem_map.1 hp
      exact textG_ne (h.2 g hg))
    unfold parseA
    rw [if_neg hne]
    exact cutP_text (by decide) h0 h.1 (fun g hg => parseG_text (h.2 g hg)) (fun g hg => ⟨apart_first (textG_44 (h.2 g hg)), lone_first (textG_44 (h.2 g hg))⟩)
theorem textA_inv {s : Bs} {l : List (List Rl)} (h : parseA s = some l) : textA l = s ∧ RightA l := by
  unfold parseA at h
  split at h
  · rename_i e; cases h; subst e; exact ⟨rfl, by simp, fun g hg => by simp at hg⟩
  · obtain ⟨h1, -, h3, h4⟩ := cutP_inv (text := textG) (fun p x hp => (textG_inv hp).1) h
    exact ⟨h1, h3, fun g hg => by obtain ⟨p, hp⟩ := h4 g hg; exact (textG_inv hp).2⟩
theorem parseQ_text {l : List Rl} (h : RightL l) : parseQ (textQ l) = some l := by
  by_cases h0 : l = []
  · subst h0; rfl
  · have hne : textQ l ≠ [] := join_ne (by simpa using h0) (fun p hp => by
      obtain ⟨x, hx, rfl⟩ := List.mem_map.1 hp
      exact text_ne (h.2 x hx))
    unfold parseQ
    rw [if_neg hne]
    exact cutP_text (by decide) h0 h.1 (fun x hx => parse_textR (h.2 x hx)) (fun x hx => ⟨apart_first (text_odd odd44 (h.2 x hx)), lone_first (text_odd odd44 (h.2 x hx))⟩)
theorem textQ_inv {s : Bs} {l : List Rl} (h : parseQ s = some l) : textQ l = s ∧ RightL l := by
  unfold parseQ at h
  split at h
  · rename_i e; cases h; subst e; exact ⟨rfl, by simp, fun g hg => by simp at hg⟩
  · obtain ⟨h1, -, h3, h4⟩ := cutP_inv (text := textR) (fun p x hp => (text_parseR hp).1) h
    exact ⟨h1, h3, fun x hx => by obtain ⟨p, hp⟩ := h4 x hx; exact (text_parseR hp).2⟩
-- The document's reading.
def trimL (s : Bs) : Bs := if s.head? = some 32 then s.tail else s
def trimR (s : Bs) : Bs := if s.getLast? = some 32 then s.dropLast else s
def refG (p : Bs) : Option (List Rl) := (spl 124 (trimL p)).mapM fun q => parseR (trimR (trimL q))
def refRead (s : Bs) : Option (List (List Rl)) := (spl 44 s).mapM refG
theorem text_no32 {x : Rl} (h : rightR x = true) : (textR x).head? ≠ some 32 ∧ (textR x).getLast? ≠ some 32 := by
  have h' := h
  unfold rightR at h
  simp only [Bool.and_eq_true] at h
  have hn := name_32 h.1
  have hne := name_ne h.1
  obtain ⟨n, o, v⟩ := x
  simp only [] at hn hne
  constructor
  · cases n with
    | nil => exact absurd rfl hne
    | cons a t =>
      have : a ≠ 32 := fun e => hn (by rw [e]; simp)
      unfold textR
      simp only []
      split <;> simp [this]
  · unfold textR
    simp only []
    split
    · intro e
      exact hn (List.mem_of_getLast? e)
    · have e2 : n ++ 32 :: 40 :: (o ++ 32 :: (v ++ [41])) = (n ++ 32 :: 40 :: (o ++ 32 :: v)) ++ [41] := by simp
      rw [e2, List.getLast?_append]; simp
theorem trimL_no {s : Bs} (h : s.head? ≠ some 32) : trimL s = s := if_neg h
theorem trimR_no {s : Bs} (h : s.getLast? ≠ some 32) : trimR s = s := if_neg h
theorem trimL_32 (s : Bs) : trimL (32 :: s) = s := rfl
theorem trimR_32 (s : Bs) : trimR (s ++ [32]) = s := by unfold trimR; simp
/-- The pieces between bars: the first without, the next with a blank ahead; all but the last with one behind. -/
def barP (t : Bs → Bs) (last : Bool) (p : Bs) : Bs := if last then t p else t p ++ [32]
theorem join_two (p q : Bs) (ps : List Bs) (sep : Bs) : Lib.join (p :: q :: ps) sep = p ++ (sep ++ Lib.join (q :: ps) sep) := by
  rw [join_cons, join_cons]; simp [joinTail]
theorem spl_tail (c : UInt8) {u s : Bs} (h : c ∉ u) : spl c (u ++ c :: s) = u :: spl c s := spl_at c u s h
/-- What is read of texts behind a blank. -/
theorem bars_go : ∀ (g : List Rl), g ≠ [] → (∀ x ∈ g, rightR x = true) → ((spl 124 (32 :: textG g)).mapM fun q => parseR (trimR (trimL q))) = some g
  | [], h, _ => absurd rfl h
  | [x], _, h => by
    have hx := h x (by simp)
    have n1 := text_odd odd124 hx
    have e : textG [x] = textR x := join_one _ _
    rw [e, spl_no 124 (32 :: textR x) (by simp [n1]), List.mapM_cons, trimL_32, trimR_no (text_no32 hx).2, parse_textR hx]; rfl
  | x :: y :: g, _, h => by
    have hx := h x (by simp)
    have n1 := text_odd odd124 hx
    have e : (32 :: textG (x :: y :: g) : Bs) = (32 :: textR x ++ [32]) ++ 124 :: (32 :: textG (y :: g)) := by
      unfold textG; rw [List.map_cons, List.map_cons, join_two]; simp
    have ih := bars_go (y :: g) (by simp) (fun z hz => h z (List.mem_cons_of_mem _ hz))
    rw [e, spl_at 124 _ _ (by simp [n1]), List.mapM_cons, ih, List.cons_append, trimL_32, trimR_32, parse_textR hx]; rfl
theorem textG_head {g : List Rl} (h : RightG g) : (textG g).head? ≠ some 32 := by
  obtain ⟨h0, -, h2⟩ := h
  cases g with
  | nil => exact absurd rfl h0
  | cons x g =>
    have := (text_no32 (h2 x (by simp))).1
    have hn := text_ne (h2 x (by simp))
    unfold textG
    rw [List.map_cons, join_cons]
    cases ht : textR x with
    | nil => exact absurd ht hn
    | cons a t => rw [ht] at this; simpa using this
theorem refG_blank {g : List Rl} (h : RightG g) : refG (32 :: textG g) = some g ∧ refG (textG g) = some g := by
  have key : ((spl 124 (textG g)).mapM fun q => parseR (trimR (trimL q))) = some g := by
    obtain ⟨h0, -, h2⟩ := h
    match g, h0, h2 with
    | [x], _, h => 
      have hx := h x (by simp)
      have n1 := text_odd odd124 hx
      have e : textG [x] = textR x := join_one _ _
      rw [e, spl_no 124 (textR x) n1, List.mapM_cons, trimL_no (text_no32 hx).1, trimR_no (text_no32 hx).2, parse_textR hx]; rfl
    | x :: y :: g, _, h =>
      have hx := h x (by simp)
      have n1 := text_odd odd124 hx
      have e : textG (x :: y :: g) = (textR x ++ [32]) ++ 124 :: (32 :: textG (y :: g)) := by
        unfold textG; rw [List.map_cons, List.map_cons, join_two]; simp
      have ih := bars_go (y :: g) (by simp) (fun z hz => h z (List.mem_cons_of_mem _ hz))
      have hh : (textR x ++ [32]).head? ≠ some 32 := by
        have := (text_no32 hx).1
        have hn := text_ne hx
        cases ht : textR x with
        | nil => exact absurd ht hn
        | cons a t => rw [ht] at this; simpa using this
      rw [e, spl_at 124 _ _ (by simp [n1]), List.mapM_cons, ih, trimL_no hh, trimR_32, parse_textR hx]; rfl
  unfold refG
  rw [trimL_32, trimL_no (textG_head h)]
  exact ⟨key, key⟩
theorem commas_go : ∀ (l : List (List Rl)), l ≠ [] → (∀ g ∈ l, RightG g) → (spl 44 (32 :: textA l)).mapM refG = some l
  | [], h, _ => absurd rfl h
  | [g], _, h => by
    have hg := h g (by simp)
    have e : textA [g] = textG g := join_one _ _
    rw [e, spl_no 44 (32 :: textG g) (by simp [textG_44 hg]), List.mapM_cons, (refG_blank hg).1]; rfl
  | g :: k :: l, _, h => by
    have hg := h g (by simp)
    have e : (32 :: textA (g :: k :: l) : Bs) = (32 :: textG g) ++ 44 :: (32 :: textA (k :: l)) := by
      unfold textA; rw [List.map_cons, List.map_cons, join_two]; simp
    have ih := commas_go (k :: l) (by simp) (fun z hz => h z (List.mem_cons_of_mem _ hz))
    rw [e, spl_at 44 _ _ (by simp [textG_44 hg]), List.mapM_cons, ih, (refG_blank hg).1]; rfl
theorem refRead_text {l : List (List Rl)} (h0 : l ≠ []) (h : RightA l) : refRead (textA l) = some l := by
  unfold refRead
  match l, h0, h.2 with
  | [g], _, h =>
    have hg := h g (by simp)
    have e : textA [g] = textG g := join_one _ _
    rw [e, spl_no 44 (textG g) (textG_44 hg), List.mapM_cons, (refG_blank hg).2]; rfl
  | g :: k :: l, _, h =>
    have hg := h g (by simp)
    have e : textA (g :: k :: l) = textG g ++ 44 :: (32 :: textA (k :: l)) := by
      unfold textA; rw [List.map_cons, List.map_cons, join_two]; simp
    have ih := commas_go (k :: l) (by simp) (fun z hz => h z (List.mem_cons_of_mem _ hz))
    rw [e, spl_at 44 _ _ (textG_44 hg), List.mapM_cons, ih, (refG_blank hg).2]; rfl
end Go.Proofs.YtbeoklihpkfofaaGreatDoor
