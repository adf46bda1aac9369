/-
  The reference's trimmed: what it returns; the world stays. What the document's answer reads of a text of groups, and of a list: the same as the program; nothing of the program. The reference's All of many groups, or long ones; and of any that are small: what it returns; nothing old turns. The reference's ParseAll: what it returns; nothing old turns. The reference's ParseList: what it returns; nothing old turns.
-/
import Derived.Test.YtbndndpjbhodbaaGreatDoorQOnes
namespace Go.Proofs.YtbndndpjbhodbaaGreatDoor
open Go.RowKit
theorem head32 {s : ByteArray} (h : 0 < s.size) : s.data.toList.head? = some s[0] := by
  have hl := Lib.size_eq s
  have := List.drop_eq_getElem_cons (l := s.data.toList) (i := 0) (by omega)
  rw [List.drop_zero] at this
  rw [this]; rfl
theorem last32 {s : ByteArray} (h : 0 < s.size) : s.data.toList.getLast? = some (s[s.size - 1]'(by omega)) := by
  have hl := Lib.size_eq s
  rw [List.getLast?_eq_getElem?, List.getElem?_eq_getElem (by omega)]
  simp only [← hl]; rfl
theorem ext_tail (s : ByteArray) : (s.extract 1 s.size).data.toList = s.data.toList.tail := by rw [ext_end, List.drop_one]
theorem ext_last (s : ByteArray) : (s.extract 0 (s.size - 1)).data.toList = s.data.toList.dropLast := by
  have hl := Lib.size_eq s
  rw [List.dropLast_eq_take, ← hl]
  simp [ByteArray.data_extract]
  rw [List.dropLast_eq_take, ← hl]
def TrimP (t : Bs) (w : World) (e : Ending) (w' : World) : Prop := ∃ T : ByteArray, e = .returned (.string T) ∧ T.data.toList = t ∧ w = w'
theorem eq32 (c : UInt8) : ((c.toNat : Int) == 32) = decide (c = 32) := by
  by_cases h : c = 32
  · subst h; rfl
  · rw [decide_eq_false h, beq_eq_false_iff_ne]; intro g; exact h (UInt8.toNat_inj.1 (by have : (32 : UInt8).toNat = 32 := rfl; omega))
theorem some32 (c : UInt8) : (some c = some (32 : UInt8)) ↔ c = 32 := by simp
set_option maxHeartbeats 4000000 in
theorem trimL_ref (s : ByteArray) (hs : s.size ≤ 100000) (w : World) : Calls Tryz.prog 48 #[.string s, .bool true] w (TrimP (trimL s.data.toList) w) := by
  by_cases h0 : 0 < s.size
  · have hx := s[0].toNat_lt
    have e0 := eq32 s[0]
    by_cases h : s[0] = 32
    · have G := Lib.hid (show (s.extract 1 s.size).data.toList = trimL s.data.toList by unfold trimL; rw [head32 h0, if_pos (by rw [h]), ext_tail])
      rw [decide_eq_true h] at e0
      clear h
      go_enter Tryz.func48, Tryz.ntmps48
      go_wp2
      go_ret
      exact ⟨_, rfl, G.out, rfl⟩
    · have G := Lib.hid (show s.data.toList = trimL s.data.toList by unfold trimL; rw [head32 h0, if_neg (by rw [some32]; exact h)])
      rw [decide_eq_false h] at e0
      clear h
      go_enter Tryz.func48, Tryz.ntmps48
      go_wp2
      go_ret
      exact ⟨_, rfl, G.out, rfl⟩
  · have hn : s.data.toList = [] := List.eq_nil_of_length_eq_zero (by rw [← sizeOf]; omega)
    have G := Lib.hid (show s.data.toList = trimL s.data.toList by rw [hn]; rfl)
    clear hn
    go_enter Tryz.func48, Tryz.ntmps48
    go_wp2
    go_ret
    exact ⟨_, rfl, G.out, rfl⟩
set_option maxHeartbeats 4000000 in
theorem trimR_ref (s : ByteArray) (hs : s.size ≤ 100000) (w : World) : Calls Tryz.prog 48 #[.string s, .bool false] w (TrimP (trimR s.data.toList) w) := by
  by_cases h0 : 0 < s.size
  · obtain ⟨q, hq⟩ : ∃ q, s.size = q + 1 := ⟨s.size - 1, by omega⟩
    have hqs : q < s.size := by omega
    have hx := s[q].toNat_lt
    have e0 := eq32 s[q]
    have hL : s.data.toList.getLast? = some s[q] := by rw [last32 h0]; congr 1; simp only [hq, Nat.add_sub_cancel]
    have hE : (s.extract 0 q).data.toList = s.data.toList.dropLast := by rw [← ext_last, hq, Nat.add_sub_cancel]
    by_cases h : s[q] = 32
    · have G := Lib.hid (show (s.extract 0 q).data.toList = trimR s.data.toList by unfold trimR; rw [hL, if_pos (by rw [h]), hE])
      rw [decide_eq_true h] at e0
      clear h hL hE h0
      go_enter Tryz.func48, Tryz.ntmps48
      go_wp2
      go_ret
      exact ⟨_, rfl, G.out, rfl⟩
    · have G := Lib.hid (show s.data.toList = trimR s.data.toList by unfold trimR; rw [hL, if_neg (by rw [some32]; exact h)])
      rw [decide_eq_false h] at e0
      clear h hL hE h0
      go_enter Tryz.func48, Tryz.ntmps48
      go_wp2
      go_ret
      exact ⟨_, rfl, G.out, rfl⟩
  · have hn : s.data.toList = [] := List.eq_nil_of_length_eq_zero (by rw [← sizeOf]; omega)
    have G := Lib.hid (show s.data.toList = trimR s.data.toList by rw [hn]; rfl)
    clear hn
    go_enter Tryz.func48, Tryz.ntmps48
    go_wp2
    go_ret
    exact ⟨_, rfl, G.out, rfl⟩
end Go.Proofs.YtbndndpjbhodbaaGreatDoor
namespace Go.Proofs.YtbndndpjbhodbaaGreatDoor
open Go.RowKit Go.Lib
theorem allE_zero7 {l : List (List Rl)} (h : (allE l).2 = 0) : RightA l ∧ (allE l).1 = textA l := by
  unfold allE at *
  by_cases g : (decide (64 < l.length) || l.any longG) = true
  · rw [if_pos g] at h; exact absurd h (by decide)
  · rw [if_neg g] at h ⊢
    simp only [Bool.or_eq_true, decide_eq_true_eq, not_or, Bool.not_eq_true] at g
    by_cases r : l.any badG = true
    · rw [if_pos r] at h; exact absurd h (by decide)
    · rw [if_neg r]
      refine ⟨⟨by omega, fun x hx => ?_⟩, rfl⟩
      have h1 := List.any_eq_false.1 g.2 x hx
      have h2 := List.any_eq_false.1 (by simpa using r : l.any badG = false) x hx
      simp only [longG, badG, decide_eq_true_eq] at h1 h2
      simp only [Bool.or_eq_true, not_or, Bool.not_eq_true, Bool.not_eq_eq_eq_not, Bool.not_true] at h2
      refine ⟨fun e => ?_, by omega, fun y hy => ?_⟩
      · have := h2.1; subst e; simp at this
      · exact List.all_eq_true.1 (by simpa using h2.2) y hy
theorem allE_right {l : List (List Rl)} (h : RightA l) : allE l = (textA l, 0) := by
  unfold allE
  have h1 : l.any longG = false := List.any_eq_false.2 fun g hg => by simp only [longG, decide_eq_true_eq]; have := (h.2 g hg).2.1; omega
  have h2 : l.any badG = false := List.any_eq_false.2 fun g hg => by
    have h3 := (h.2 g hg).1
    have h4 : g.all rightR = true := List.all_eq_true.2 (h.2 g hg).2.2
    simp only [badG]
    rw [h4]
    cases g with
    | nil => exact absurd rfl h3
    | cons a t => simp
  rw [h1, h2, decide_eq_false (by have := h.1; omega)]; rfl
def refP (s : Bs) : Option (List (List Rl)) := if s = [] then some [] else match refRead s with
  | none => none
  | some l => if allE l = (s, 0) then some l else none
theorem refP_eq (s : Bs) : refP s = parseA s := by
  unfold refP
  by_cases h0 : s = []
  · subst h0; rfl
  rw [if_neg h0]
  cases hp : parseA s with
  | some l =>
    obtain ⟨ht, hr⟩ := textA_inv hp
    have hne : l ≠ [] := fun e => h0 (by rw [← ht, e]; rfl)
    have e := refRead_text hne hr
    rw [ht] at e
    rw [e]
    dsimp only
    rw [if_pos (by rw [allE_right hr, ht])]
  | none =>
    cases hq : refRead s with
    | none => rfl
    | some l =>
      dsimp only
      rw [if_neg]
      intro e
      have hz : (allE l).2 = 0 := by rw [e]
      obtain ⟨hr, ht⟩ := allE_zero7 hz
      have : textA l = s := by rw [← ht, e]
      rw [← this, parseA_text hr] at hp
      cases hp
/-- What ParseList makes of groups. -/
def oneG (l : List (List Rl)) : Option (List Rl) := if l.all (fun g => g.length == 1) then some l.flatten else none
theorem onesL_flat : ∀ (l : List (List Rl)), (l.all (fun g => g.length == 1)) = true → onesL l.flatten = l
  | [], _ => rfl
  | g :: l, h => by
    rw [List.all_cons, Bool.and_eq_true] at h
    have ih := onesL_flat l h.2
    match g, h.1 with
    | [x], _ => simp only [List.flatten_cons, onesL, List.singleton_append, List.map_cons]; rw [show List.map (fun x => [x]) l.flatten = l from ih]
theorem flat_ones (l : List Rl) : (onesL l).flatten = l := by
  induction l with
  | nil => rfl
  | cons a t ih => simp only [onesL, List.map_cons, List.flatten_cons, List.singleton_append]; rw [show (List.map (fun x => [x]) t).flatten = t from ih]
theorem right_ones {l : List Rl} : RightA (onesL l) ↔ RightL l := by
  unfold RightA RightL RightG
  rw [List.length_map]
  constructor
  · rintro ⟨h1, h2⟩
    exact ⟨h1, fun x hx => (h2 [x] (List.mem_map.2 ⟨x, hx, rfl⟩)).2.2 x (by simp)⟩
  · rintro ⟨h1, h2⟩
    refine ⟨h1, fun g hg => ?_⟩
    obtain ⟨x, hx, rfl⟩ := List.mem_map.1 hg
    exact ⟨by simp, by simp, fun y hy => by rw [List.mem_singleton.1 hy]; exact h2 x hx⟩
theorem text_ones (l : List Rl) : textA (onesL l) = textQ l := by
  unfold textA textQ
  rw [List.map_map]
  congr 1
  apply List.map_congr_left
  intro x _
  exact Lib.join_one (textR x) sepG
theorem parseQ_eq (s : Bs) : parseQ s = (parseA s).bind oneG := by
  cases hq : parseQ s with
  | some l =>
    obtain ⟨ht, hr⟩ := textQ_inv hq
    have : parseA s = some (onesL l) := by rw [← ht, ← text_ones]; exact parseA_text (right_ones.2 hr)
    rw [this]
    show some l = oneG (onesL l)
    unfold oneG
    rw [if_pos (by simp [onesL]), flat_ones]
  | none =>
    cases hp : parseA s with
    | none => rfl
    | some l =>
      show none = oneG l
      unfold oneG
      by_cases h : (l.all (fun g => g.length == 1)) = true
      · exfalso
        obtain ⟨ht, hr⟩ := textA_inv hp
        have e := onesL_flat l h
        rw [← e] at hr ht
        rw [← ht, text_ones, parseQ_text (right_ones.1 hr)] at hq
        cases hq
      · rw [if_neg h]
theorem mapM_lenQ {α β : Type} {f : α → Option β} : ∀ {l : List α} {r : List β}, l.mapM f = some r → r.length = l.length
  | [], r, h => by simp at h; subst h; rfl
  | a :: l, r, h => by
    rw [List.mapM_cons] at h
    cases ha : f a with
    | none => rw [ha] at h; cases h
    | some b =>
      rw [ha] at h
      cases hl : l.mapM f with
      | none => rw [hl] at h; cases h
      | some t =>
        rw [hl] at h
        cases h
        rw [List.length_cons, List.length_cons, mapM_lenQ hl]
theorem mapM_memQ {α β : Type} {f : α → Option β} : ∀ {l : List α} {r : List β}, l.mapM f = some r → ∀ y ∈ r, ∃ x ∈ l, f x = some y
  | [], r, h => by simp at h; subst h; intro y hy; simp at hy
  | a :: l, r, h => by
    rw [List.mapM_cons] at h
    cases ha : f a with
    | none => rw [ha] at h; cases h
    | some b =>
      rw [ha] at h
      cases hl : l.mapM f with
      | none => rw [hl] at h; cases h
      | some t =>
        rw [hl] at h
        cases h
        intro y hy
        rcases List.mem_cons.1 hy with rfl | hy
        · exact ⟨a, by simp, ha⟩
        · obtain ⟨x, hx, e⟩ := mapM_memQ hl y hy
          exact ⟨x, List.mem_cons_of_mem _ hx, e⟩
theorem trimL_len (s : Bs) : (trimL s).length ≤ s.length := by
  unfold trimL; split
  · rw [List.length_tail]; omega
  · omega
theorem trimR_len (s : Bs) : (trimR s).length ≤ s.length := by
  unfold trimR; split
  · rw [List.length_dropLast]; omega
  · omega
theorem textR_big (x : Rl) (h : rightR x = true) : x.1.length ≤ (textR x).length ∧ x.2.1.length ≤ (textR x).length ∧ x.2.2.length ≤ (textR x).length := by
  obtain ⟨n, o, v⟩ := x
  unfold rightR at h
  unfold textR
  by_cases e : o = []
  · simp [e] at h ⊢; simp [h.2]
  · rw [if_neg e]; simp; omega
theorem read_small {s : Bs} {l : List (List Rl)} (h : refRead s = some l) : l.length ≤ s.length + 1 ∧ ∀ g ∈ l, g.length ≤ s.length + 1 ∧ ∀ x ∈ g, x.1.length ≤ s.length ∧ x.2.1.length ≤ s.length ∧ x.2.2.length ≤ s.length := by
  unfold refRead at h
  have hl := mapM_lenQ h
  refine ⟨by rw [hl]; exact spl_len 44 s, fun g hg => ?_⟩
  obtain ⟨p, hp, hpg⟩ := mapM_memQ h g hg
  have h1 := spl_piece 44 s p hp
  have h2 := trimL_len p
  unfold refG at hpg
  have h3 := spl_len 124 (trimL p)
  refine ⟨by rw [mapM_lenQ hpg]; omega, fun x hx => ?_⟩
  obtain ⟨q, hq, hqx⟩ := mapM_memQ hpg x hx
  have h4 := spl_piece 124 (trimL p) q hq
  have h5 := trimL_len q
  have h6 := trimR_len (trimL q)
  have h7 := (text_parseR hqx).1
  have h8 := textR_big x (text_parseR hqx).2
  rw [h7] at h8
  omega
end Go.Proofs.YtbndndpjbhodbaaGreatDoor
namespace Go.Proofs.YtbndndpjbhodbaaGreatDoor
open Go.RowKit
set_option maxRecDepth 100000 in
set_option maxHeartbeats 8000000 in
theorem allLong_ref (v : Value) (l : List Gv) (hl : l.length ≤ 90000) (hp : ∀ p ∈ l, p.1.length ≤ 90000) (hlong : 64 < l.length ∨ (fsts l).any longG = true) (w : World) (h : HoldGs w v l) : Calls Tryz.prog 18 #[v] w fun e w' => e = .returned (.tuple #[.string ⟨#[]⟩, .int .i64 22]) ∧ Below w.heap.size w w' := by
  obtain ⟨a, c, b, o, rfl, hc, ha, hcell⟩ := h.parts
  have HC := Lib.hid hcell
  have HG := Lib.hid h
  have HS := Lib.hid hp
  have HLO := Lib.hid hlong
  obtain ⟨n, hN⟩ : ∃ n, l.length = n := ⟨_, rfl⟩
  rw [hN] at hc ha hl HLO ⊢
  have HN := Lib.hid hN
  clear hcell hN h hp hlong
  go_enter Tryz.func18, Tryz.ntmps18
  go_wp2
  go_loop [4] (fun i => ∃ k : Nat, k ≤ n ∧ i = .int .i64 k ∧ Hid (∀ (j : Nat) y, j < k → l[j]? = some y → longG y.1 = false)) (fun i => n - (intOf i).toNat)
  case atStart => exact ⟨0, by omega, rfl, Lib.hid (fun j y hj => by omega)⟩
  case round =>
    obtain ⟨k, hk, rfl, H⟩ := hrel
    by_cases hlt : k < n
    · obtain ⟨rfl, hbw⟩ := ha (by omega)
      obtain ⟨⟨g0, sv⟩, hx⟩ : ∃ x, l[k]? = some x := ⟨_, List.getElem?_eq_getElem (by rw [HN.out]; exact hlt)⟩
      have hgx := HG.out.2 _ (List.mem_of_getElem? hx)
      have hsm := HS.out _ (List.mem_of_getElem? hx)
      have c0 := HC.out k _ hx
      dsimp only at c0 hgx hsm
      obtain ⟨sa, sc, -, -, hsv, -⟩ := hgx.parts
      subst hsv
      by_cases h64 : 64 < g0.length
      · generalize g0.length = gn at *
        clear hx hgx H HLO
        go_wp2
        go_ret2
        exact ⟨rfl, Below.refl _ _⟩
      · have HX : Hid (∀ (j : Nat) y, j < k + 1 → l[j]? = some y → longG y.1 = false) := Lib.hid (fun j y hj hy => by
          by_cases e : j = k
          · subst e
            rw [hx] at hy; cases hy
            unfold longG; exact decide_eq_false h64
          · exact H.out j y (by omega) hy)
        generalize g0.length = gn at *
        clear hx hgx H
        go_wp2
        go_round
        case rel => exact ⟨k + 1, by omega, by go_num, HX⟩
        case measure => simp [intOf]; omega
    · obtain rfl : k = n := by omega
      have h64 : 64 < k := by
        rcases HLO.out with g | g
        · exact g
        · rw [long_miss (fun j y hy => H.out j y (by have := (List.getElem?_eq_some_iff.1 hy).1; rw [HN.out] at this; exact this) hy)] at g; cases g
      clear hlt H HLO
      go_wp2
      go_ret2
      exact ⟨rfl, Below.refl _ _⟩
theorem allW_ref (v : Value) (l : List Gv) (hl : l.length ≤ 90000) (hs : ∀ x ∈ l, SmallQ x.1 ∧ x.1.length ≤ 90000) (w : World) (h : HoldGs w v l) : Calls Tryz.prog 18 #[v] w (TwoP (allE (fsts l)) w) := by
  have hfl : (fsts l).length = l.length := List.length_map ..
  by_cases g : 64 < l.length ∨ (fsts l).any longG = true
  · have e : allE (fsts l) = ([], 22) := by
      unfold allE
      rw [if_pos (by rw [hfl]; simpa using g)]
    rw [e]
    exact allLong_ref v l hl (fun p hp => (hs p hp).2) g w h
  · have g1 : ¬ 64 < l.length := fun e => g (.inl e)
    have g2 : (fsts l).any longG = false := by cases e : (fsts l).any longG with | false => rfl | true => exact absurd (.inr e) g
    exact allE_ref v l (by omega) (fun x hx => ⟨(hs x hx).1, by
      have := List.any_eq_false.1 g2 x.1 (List.mem_map_of_mem hx)
      simp only [longG, decide_eq_true_eq] at this; omega⟩) w h
end Go.Proofs.YtbndndpjbhodbaaGreatDoor
namespace Go.Proofs.YtbndndpjbhodbaaGreatDoor
open Go.RowKit
theorem trimLB_ref (p : Bs) (hp : p.length ≤ 100000) (w : World) : Calls Tryz.prog 48 #[.string ⟨p.toArray⟩, .bool true] w fun e w' => e = .returned (.string ⟨(trimL p).toArray⟩) ∧ w = w' := by
  refine (trimL_ref ⟨p.toArray⟩ (by rw [sizeOf, bytesOf]; exact hp) w).mono fun e w' h => ?_
  obtain ⟨T, rfl, hT, hw⟩ := h
  refine ⟨?_, hw⟩
  rw [bytesOf] at hT
  rw [← hT]
theorem trimRB_ref (p : Bs) (hp : p.length ≤ 100000) (w : World) : Calls Tryz.prog 48 #[.string ⟨p.toArray⟩, .bool false] w fun e w' => e = .returned (.string ⟨(trimR p).toArray⟩) ∧ w = w' := by
  refine (trimR_ref ⟨p.toArray⟩ (by rw [sizeOf, bytesOf]; exact hp) w).mono fun e w' h => ?_
  obtain ⟨T, rfl, hT, hw⟩ := h
  refine ⟨?_, hw⟩
  rw [bytesOf] at hT
  rw [← hT]
def refX (q : Bs) : Option Rl := parseR (trimR (trimL q))
theorem refG_def (p : Bs) : refG p = (spl 124 (trimL p)).mapM refX := rfl
/-- What the reference's ParseAll returns. -/
def PostPA (o : Option (List (List Rl))) (w : World) (e : Ending) (w' : World) : Prop := (match o with
  | some l => ∃ v L, e = .returned (.tuple #[v, .bool true]) ∧ fsts L = l ∧ OwnGs w' w.heap.size v L
  | none => e = .returned (.tuple #[.slice none 0 0, .bool false])) ∧ Below w.heap.size w w'
set_option maxRecDepth 100000 in
set_option maxHeartbeats 16000000 in
theorem parseAll_ref (s : ByteArray) (hs : s.size ≤ 3000) (w : World) : Calls Tryz.prog 21 #[.string s] w (PostPA (parseA s.data.toList) w) := by
  have he := emptyT s
  by_cases h0 : s.size = 0
  · have hn : s.data.toList = [] := List.eq_nil_of_length_eq_zero (by rw [← sizeOf]; exact h0)
    rw [decide_eq_true h0] at he
    have HP : Hid (∀ w', Below w.heap.size w w' → PostPA (parseA s.data.toList) w (.returned (.tuple #[.slice none 0 0, .bool true])) w') := Lib.hid (fun w' hb => by rw [hn]; exact ⟨⟨_, [], rfl, rfl, OwnGs.nil _ _⟩, hb⟩)
    clear h0 hn hs
    go_enter Tryz.func21, Tryz.ntmps21
    go_wp2
    go_ret2
    exact HP.out _ (Below.refl _ _)
  have hn : s.data.toList ≠ [] := fun e => h0 (by rw [sizeOf, e]; rfl)
  rw [decide_eq_false h0] at he
  obtain ⟨i0, hi, hz0, hz1, hz2'⟩ := info_parts infoQ
  obtain ⟨j0, hj, hy0, hy1, hy2'⟩ := info_parts infoSl
  have C : ∀ w, Calls Tryz.prog 33 #[.string s, .int .u8 44] w fun e w' => ∃ v, e = .returned v ∧ OwnT w' w.heap.size v (spl 44 s.data.toList) ∧ Below w.heap.size w w' := fun w => split_ref6 s (by omega) 44 w
  have hpc : ∀ p ∈ spl 44 s.data.toList, p.length ≤ 3000 := fun p hp => by have := spl_piece 44 s.data.toList p hp; rw [← sizeOf] at this; omega
  have hln := spl_len 44 s.data.toList
  rw [← sizeOf] at hln
  have HRS : Hid (parseA s.data.toList = match (spl 44 s.data.toList).mapM refG with | none => none | some l => if allE l = (s.data.toList, 0) then some l else none) := Lib.hid (by rw [← refP_eq]; unfold refP; rw [if_neg hn]; rfl)
  have HSM : Hid (∀ l, (spl 44 s.data.toList).mapM refG = some l → l.length ≤ 3001 ∧ ∀ g ∈ l, SmallQ g ∧ g.length ≤ 3001) := Lib.hid (fun l hl => by
    have := read_small (s := s.data.toList) hl
    rw [← sizeOf] at this
    refine ⟨by omega, fun g hg => ⟨fun x hx => ?_, ?_⟩⟩
    · have := (this.2 g hg).2 x hx; omega
    · have := (this.2 g hg).1; omega)
  obtain ⟨ps, hps⟩ : ∃ ps, spl 44 s.data.toList = ps := ⟨_, rfl⟩
  rw [hps] at C hpc hln HRS HSM
  have HPC := Lib.hid hpc
  obtain ⟨m, hm⟩ : ∃ m, ps.length = m := ⟨_, rfl⟩
  rw [hm] at hln
  have HM := Lib.hid hm
  obtain ⟨R, hR⟩ : ∃ R, ps.mapM refG = R := ⟨_, rfl⟩
  have HR0 : Hid (restM refG [] (ps.drop 0) = R) := Lib.hid (by unfold restM; rw [List.drop_zero, hR]; cases R <;> simp)
  rw [hR] at HRS HSM
  obtain ⟨P, hP⟩ : ∃ P, parseA s.data.toList = P := ⟨_, rfl⟩
  rw [hP] at HRS ⊢
  have HYES : Hid (∀ (l : List Gv) v w', R = some (fsts l) → allE (fsts l) = (s.data.toList, 0) → OwnGs w' w.heap.size v l → Below w.heap.size w w' → PostPA P w (.returned (.tuple #[v, .bool true])) w') := Lib.hid (fun l v w' h1 h2 h3 h4 => by
    have e := HRS.out; rw [h1] at e; dsimp only at e; rw [if_pos h2] at e
    rw [e]; exact ⟨⟨v, l, rfl, rfl, h3⟩, h4⟩)
  have HNOT : Hid (∀ (l : List Gv) w', R = some (fsts l) → allE (fsts l) ≠ (s.data.toList, 0) → Below w.heap.size w w' → PostPA P w (.returned (.tuple #[.slice none 0 0, .bool false])) w') := Lib.hid (fun l w' h1 h2 h4 => by
    have e := HRS.out; rw [h1] at e; dsimp only at e; rw [if_neg h2] at e
    rw [e]; exact ⟨rfl, h4⟩)
  have HNO : Hid (R = none → ∀ w', Below w.heap.size w w' → PostPA P w (.returned (.tuple #[.slice none 0 0, .bool false])) w') := Lib.hid (fun h1 w' h4 => by
    have e := HRS.out; rw [h1] at e; dsimp only at e
    rw [e]; exact ⟨rfl, h4⟩)
  clear hps hpc hm hR hP hn h0 HRS
  go_enter Tryz.func21, Tryz.ntmps21
  go_wp2_with (go_at_call 33; (with_reducible refine (C _).mono ?_); rintro e w1 ⟨v1, rfl, ho, hb⟩; obtain ⟨al, cl, bl, ol, rfl, hcl, hal, hlc⟩ := ho.holds; have HLC := Lib.hid hlc; have HB1 := Lib.hid hb; rw [HM.out]; rw [HM.out] at hcl hal; clear ho hlc hb C)
  have hsz1 := HB1.out.size
  go_loopw [4, 6] (fun u i wr => ∃ (k : Nat) (xs : List Gv), k ≤ m ∧ i = .int .i64 k ∧ Hid (xs.length = k) ∧ Hid (restM refG (fsts xs) (ps.drop k) = R) ∧ Hid (OwnGs wr w1.heap.size u xs) ∧ Hid (Below w1.heap.size w1 wr)) (fun _ i _ => m - (intOf i).toNat)
  case atStart => exact ⟨0, [], by omega, rfl, Lib.hid rfl, HR0, Lib.hid (OwnGs.nil _ _), Lib.hid (Below.refl _ _)⟩
  case round =>
    clear HR0
    obtain ⟨k, xs, hk, rfl, HXL, HR, HO, HBX⟩ := hrel
    obtain ⟨wo, rfl⟩ : ∃ wo : World, wo = wr := ⟨_, rfl⟩
    have HB := Lib.hid (HB1.out.trans (HBX.out.mono hsz1))
    have hsz := HB.out.size
    have hszx := HBX.out.size
    by_cases hlt : k < m
    · obtain ⟨rfl, hbw⟩ := hal (by omega)
      obtain ⟨p, hpk⟩ : ∃ p, ps[k]? = some p := ⟨_, List.getElem?_eq_getElem (by rw [HM.out]; exact hlt)⟩
      have c0 := HLC.out k p hpk
      rw [← HBX.out.cell (p := ⟨bl, ol + k, none⟩) hbw] at c0
      have hpl := HPC.out p (List.mem_of_getElem? hpk)
      have hdr := drop_atQ hpk
      have TL := trimLB_ref p (by omega)
      have htl := trimL_len p
      have SP : ∀ w, Calls Tryz.prog 33 #[.string ⟨(trimL p).toArray⟩, .int .u8 124] w fun e w' => ∃ v, e = .returned v ∧ OwnT w' w.heap.size v (spl 124 (trimL p)) ∧ Below w.heap.size w w' := fun w => by
        have := split_ref6 ⟨(trimL p).toArray⟩ (by rw [sizeOf, bytesOf]; omega) 124 w
        rw [bytesOf] at this; exact this
      have hqc : ∀ q ∈ spl 124 (trimL p), q.length ≤ 3000 := fun q hq => by have := spl_piece 124 (trimL p) q hq; omega
      have hql := spl_len 124 (trimL p)
      have hqm : (spl 124 (trimL p)).length ≤ 3001 := by omega
      obtain ⟨RG, hRG⟩ : ∃ RG, refG p = RG := ⟨_, rfl⟩
      have hRG' := hRG
      rw [refG_def] at hRG'
      obtain ⟨qs, hqs⟩ : ∃ qs, spl 124 (trimL p) = qs := ⟨_, rfl⟩
      rw [hqs] at SP hqc hqm hRG'
      have HQC := Lib.hid hqc
      obtain ⟨mm, hmm⟩ : ∃ mm, qs.length = mm := ⟨_, rfl⟩
      rw [hmm] at hqm
      have HMM := Lib.hid hmm
      have HRG0 : Hid (restM refX [] (qs.drop 0) = RG) := Lib.hid (by unfold restM; rw [List.drop_zero, hRG']; cases RG <;> simp)
      have HBAD : Hid (RG = none → R = none) := Lib.hid (fun e => by have := HR.out; rw [hdr, restM_bad (by rw [hRG, e])] at this; exact this.symm)
      have HGO : Hid (∀ ys sv, RG = some ys → restM refG (fsts (xs ++ [(ys, sv)])) (ps.drop (k + 1)) = R) := Lib.hid (fun ys sv e => by have := HR.out; rw [hdr, restM_step (by rw [hRG, e])] at this; rw [show fsts (xs ++ [(ys, sv)]) = fsts xs ++ [ys] by simp [fsts]]; exact this)
      generalize (⟨p.toArray⟩ : ByteArray) = P0 at *
      generalize (⟨(trimL p).toArray⟩ : ByteArray) = P1 at *
      clear hqs hqc hmm hRG hRG' hql htl hpk hpl hdr HR
      go_wp2_with (first
        | (go_at_call 48; (with_reducible refine (TL _).mono ?_); rintro e w3 ⟨rfl, hw3⟩; subst hw3)
        | (go_at_call 33; (with_reducible refine (SP _).mono ?_); rintro e w4 ⟨v4, rfl, ho, hb⟩; obtain ⟨aq, cq, bq, oq, rfl, hcq, haq, hlq⟩ := ho.holds; have HLQ := Lib.hid hlq; have HB4 := Lib.hid hb; rw [HMM.out]; rw [HMM.out] at hcq haq; clear ho hlq hb SP))
      have hsz4 := HB4.out.size
      have hszo : wo.heap.size ≤ w4.heap.size := hsz4
      go_loopw [7, 9] (fun u i wr => ∃ (j : Nat) (ys : List Rl), j ≤ mm ∧ i = .int .i64 j ∧ Hid (ys.length = j) ∧ Hid (restM refX ys (qs.drop j) = RG) ∧ Hid (OwnQ wr w4.heap.size u ys) ∧ Hid (Below w4.heap.size w4 wr)) (fun _ i _ => mm - (intOf i).toNat)
      case atStart => exact ⟨0, [], by omega, rfl, Lib.hid rfl, HRG0, Lib.hid (OwnV.nil _ _ _ _), Lib.hid (Below.refl _ _)⟩
      case round =>
        clear HRG0
        obtain ⟨j, ys, hjm, rfl, HYL, HRX, HOY, HBY⟩ := hrel
        have HB4Y := Lib.hid (HB4.out.trans (HBY.out.mono hsz4))
        have HB1Y := Lib.hid (HBX.out.trans (HB4Y.out.mono hszx))
        have HBW := Lib.hid (HB.out.trans (HB4Y.out.mono hsz))
        have hszy := HBY.out.size
        have hszw := HBW.out.size
        by_cases hjt : j < mm
        · obtain ⟨rfl, hbq⟩ := haq (by omega)
          obtain ⟨q, hqj⟩ : ∃ q, qs[j]? = some q := ⟨_, List.getElem?_eq_getElem (by rw [HMM.out]; exact hjt)⟩
          have c1 := HLQ.out j q hqj
          rw [← HBY.out.cell (p := ⟨bq, oq + j, none⟩) hbq] at c1
          have hql := HQC.out q (List.mem_of_getElem? hqj)
          have hl1 := trimL_len q
          have hl2 := trimR_len (trimL q)
          have TL := trimLB_ref q (by omega)
          have TR := trimRB_ref (trimL q) (by omega)
          have PA := fun W => parse_ref7 ⟨(trimR (trimL q)).toArray⟩ (by rw [sizeOf, bytesOf]; omega) W
          unfold ParsePost7 at PA
          rw [bytesOf] at PA
          have hdr := drop_atQ hqj
          generalize (⟨q.toArray⟩ : ByteArray) = Q0 at *
          generalize (⟨(trimL q).toArray⟩ : ByteArray) = Q1 at *
          cases hq : parseR (trimR (trimL q)) with
          | none =>
            have G := Lib.hid (HNO.out (HBAD.out (by have := HRX.out; rw [hdr, restM_bad (show refX q = none from hq)] at this; exact this.symm)))
            rw [hq] at PA
            unfold parsedR relV at PA
            dsimp only at PA
            generalize (⟨(trimR (trimL q)).toArray⟩ : ByteArray) = Q2 at *
            clear hqj hql hdr hq HRX HOY HYES HNO HNOT HBAD HGO HSM hi hz0 hz1 hz2' hj hy0 hy1 hy2' hl1 hl2
            go_wp2_with (first
              | (go_at_call 48; (with_reducible first | refine (TL _).mono ?_ | refine (TR _).mono ?_); rintro e w5 ⟨rfl, hw5⟩; subst hw5)
              | (go_at_call 11; (with_reducible refine (PA _).mono ?_); rintro e w6 ⟨rfl, hb⟩; have HB6 := Lib.hid (HBW.out.trans (hb.mono hszw)); clear hb PA))
            go_ret2
            exact G.out _ (HB6.out.alloc HB6.out.size _)
          | some x =>
            obtain ⟨x0, x1, x2⟩ := x
            have HR2 : Hid (restM refX (ys ++ [(x0, x1, x2)]) (qs.drop (j + 1)) = RG) := Lib.hid (by have := HRX.out; rw [hdr, restM_step (show refX q = some (x0, x1, x2) from hq)] at this; exact this)
            rw [hq] at PA
            unfold parsedR relV at PA
            dsimp only at PA
            have HXX : Hid ((⟨x0.toArray⟩ : ByteArray).data.toList = x0 ∧ (⟨x1.toArray⟩ : ByteArray).data.toList = x1 ∧ (⟨x2.toArray⟩ : ByteArray).data.toList = x2) := Lib.hid ⟨by simp, by simp, by simp⟩
            have hxl : (ys ++ [(x0, x1, x2)]).length = j + 1 := by rw [List.length_append, HYL.out]; rfl
            have HXL2 := Lib.hid hxl
            generalize (⟨(trimR (trimL q)).toArray⟩ : ByteArray) = Q2 at *
            generalize (⟨x0.toArray⟩ : ByteArray) = X0 at *
            generalize (⟨x1.toArray⟩ : ByteArray) = X1 at *
            generalize (⟨x2.toArray⟩ : ByteArray) = X2 at *
            clear hqj hql hdr hq HRX HYES HNO HNOT HBAD HGO HSM hxl hl1 hl2
            go_wp2_with (first
              | (go_at_call 48; (with_reducible first | refine (TL _).mono ?_ | refine (TR _).mono ?_); rintro e w5 ⟨rfl, hw5⟩; subst hw5)
              | (go_at_call 11; (with_reducible refine (PA _).mono ?_); rintro e w6 ⟨rfl, hb⟩; have HBY6 := Lib.hid (HBY.out.trans (hb.mono hszy)); have HO6 := Lib.hid (OwnV.on HOY.out hb); have hz6 := HBY6.out.size; clear hb PA HOY)
              | (at_builtin; refine wpList_append_own _ rfl _ _ 25 rfl w4.heap.size 23 i0 _ 3 48 Tryz.underlying25 hi hz0 hz1 hz2' rfl (by decide) _ _ _ rfl (World.ownsRow.alloc (World.ownsRow.alloc HO6.out.2 _) _) ⟨w6.heap.size + 1, 0, none⟩ 1 1 [.string X0, .string X1, .string X2] rfl rfl ?c1 ?c2 ?c3 ?c4 ?c5 ?_))
            case c1 =>
              intro j u hj
              match j, hj with
              | 0, hj => simp at hj; subst hj; simp [Addr.add]
              | 1, hj => simp at hj; subst hj; simp [Addr.add]
              | 2, hj => simp at hj; subst hj; simp [Addr.add]
            case c2 => intro u hu; simp at hu; rcases hu with rfl | rfl | rfl <;> rfl
            case c3 => rw [List.length_map, HYL.out]; unfold maxLen; omega
            case c4 => rw [List.length_map, HYL.out]; omega
            case c5 => have := HBY6.out.size; simp; omega
            intro v' w7 hown' hgrow _
            have hO := HO6.out.on ((Below.refl w6.heap.size w6).alloc (Nat.le_refl _) (.cells #[.string X0, .string X1, .string X2] 23))
            have HO7 : Hid (OwnQ w7 w4.heap.size v' (ys ++ [(x0, x1, x2)])) := Lib.hid (OwnQ.app (x := (x0, x1, x2)) HXX.out.1 HXX.out.2.1 HXX.out.2.2 (by simpa using hown'))
            have HB7 : Hid (Below w4.heap.size w4 w7) := Lib.hid (OwnV.below (HBY6.out.alloc HBY6.out.size _) hO hgrow (Nat.le_refl _) (by have := HBY6.out.size; simp; omega))
            clear hown' hgrow hO
            go_wp2
            go_roundw
            case rel => exact ⟨j + 1, _, by omega, by go_num, HXL2, HR2, HO7, HB7⟩
            case measure => simp [intOf]; omega
        · obtain rfl : j = mm := by omega
          have hRG : RG = some ys := by have := HRX.out; rw [List.drop_of_length_le (by rw [HMM.out]; omega), restM_nil] at this; exact this.symm
          obtain ⟨ga, gc, hv⟩ := OwnV.form HOY.out
          rw [List.length_map, HYL.out] at hv
          subst hv
          have HR2 := Lib.hid (HGO.out ys (.slice ga j gc) hRG)
          have HN4 := Lib.hid (OwnV.mono HOY.out (show w1.heap.size ≤ w4.heap.size by omega))
          have HO4 := Lib.hid (OwnGs.on (OwnGs.on HO.out HB4.out) HBY.out)
          have hxl : (xs ++ [(ys, Value.slice ga j gc)]).length = k + 1 := by rw [List.length_append, HXL.out]; rfl
          have HXL5 := Lib.hid hxl
          obtain ⟨wz, rfl⟩ : ∃ wz : World, wz = wr := ⟨_, rfl⟩
          clear hRG HRX HGO HBAD HYES HNOT HNO HSM hjt hxl
          go_wp2_with (at_builtin; refine wpList_append_own _ rfl _ _ 26 rfl w1.heap.size 25 j0 _ 1 24 Tryz.underlying26 hj hy0 hy1 hy2' rfl (by decide) _ _ _ rfl (World.ownsRow.alloc HO4.out.1.2 _) ⟨wz.heap.size, 0, none⟩ 1 1 [.slice ga j gc] rfl rfl ?c1 ?c2 ?c3 ?c4 ?c5 ?_)
          case c1 =>
            intro j u hj
            match j, hj with
            | 0, hj => simp at hj; subst hj; simp [Addr.add]
          case c2 => intro u hu; simp at hu; subst hu; rfl
          case c3 => rw [List.length_map, HXL.out]; unfold maxLen; omega
          case c4 => rw [List.length_map, HXL.out]; omega
          case c5 => have := HB1Y.out.size; simp; omega
          intro v' w5 hown' hgrow _
          have HO5 : Hid (OwnGs w5 w1.heap.size v' (xs ++ [(ys, .slice ga j gc)])) := Lib.hid (OwnGs.app HO4.out HN4.out (by simpa using hown') hgrow)
          have HB5 : Hid (Below w1.heap.size w1 w5) := Lib.hid (OwnV.below HB1Y.out HO4.out.1 hgrow (Nat.le_refl _) HB1Y.out.size)
          clear hown' hgrow
          go_wp2
          go_roundw
          case rel => exact ⟨k + 1, _, by omega, by go_num, HXL5, HR2, HO5, HB5⟩
          case measure => simp [intOf]; omega
    · obtain rfl : k = m := by omega
      have hRS : R = some (fsts xs) := by have := HR.out; rw [List.drop_of_length_le (by rw [HM.out]; omega), restM_nil] at this; exact this.symm
      have hsm := HSM.out _ hRS
      obtain ⟨ga, gc, hv⟩ := OwnV.form HO.out.1
      rw [List.length_map, HXL.out] at hv
      subst hv
      have AW := allW_ref _ xs (by rw [HXL.out]; omega) (fun x hx => by
        have := hsm.2 x.1 (List.mem_map_of_mem hx)
        exact ⟨this.1, by omega⟩) wo (OwnGs.holds HO.out)
      unfold TwoP at AW
      have HYE := Lib.hid (fun w' (h2 : allE (fsts xs) = (s.data.toList, 0)) (hb : Below wo.heap.size wo w') => HYES.out xs (.slice ga k gc) w' hRS h2 (OwnGs.mono (OwnGs.on HO.out hb) hsz1) (HB.out.trans (hb.mono hsz)))
      have HNE := Lib.hid (fun w' (h2 : allE (fsts xs) ≠ (s.data.toList, 0)) (hb : Below wo.heap.size wo w') => HNOT.out xs w' hRS h2 (HB.out.trans (hb.mono hsz)))
      obtain ⟨t, z, htz⟩ : ∃ t z, allE (fsts xs) = (t, z) := ⟨_, _, rfl⟩
      rw [htz] at AW HYE HNE
      dsimp only at AW
      have q1 := eqT (bsT t) s
      rw [bytesOf] at q1
      clear HYES HNOT HNO HSM hRS hsm HR HO HXL htz hlt
      by_cases hz : z = 0
      · subst hz
        by_cases ht : t = s.data.toList
        · have G := Lib.hid (fun w' hb => HYE.out w' (by rw [ht]) hb)
          rw [decide_eq_true ht] at q1
          generalize bsT t = T at *
          clear ht HYE HNE
          go_wp2_with (go_at_call 18; (with_reducible refine AW.mono ?_); rintro e w5 ⟨rfl, hb⟩; have HB5 := Lib.hid hb; clear hb AW)
          go_ret2
          exact G.out _ HB5.out
        · have G := Lib.hid (fun w' hb => HNE.out w' (fun e => ht (by simpa using e)) hb)
          rw [decide_eq_false ht] at q1
          generalize bsT t = T at *
          clear ht HYE HNE
          go_wp2_with (go_at_call 18; (with_reducible refine AW.mono ?_); rintro e w5 ⟨rfl, hb⟩; have HB5 := Lib.hid hb; clear hb AW)
          go_ret2
          exact G.out _ HB5.out
      · have G := Lib.hid (fun w' hb => HNE.out w' (fun e => hz (by have := congrArg Prod.snd e; simpa using this)) hb)
        have hz1 : (z == 0) = false := by rw [beq_eq_false_iff_ne]; exact hz
        generalize bsT t = T at *
        clear HYE HNE
        go_wp2_with (go_at_call 18; (with_reducible refine AW.mono ?_); rintro e w5 ⟨rfl, hb⟩; have HB5 := Lib.hid hb; clear hb AW)
        go_ret2
        exact G.out _ HB5.out
end Go.Proofs.YtbndndpjbhodbaaGreatDoor
namespace Go.Proofs.YtbndndpjbhodbaaGreatDoor
open Go.RowKit
theorem paPost_any {s : Bs} {w w' : World} {e : Ending} (h : PostPA (parseA s) w e w') : ∃ a n c L b, e = .returned (.tuple #[.slice a n c, .bool b]) ∧ L.length = n ∧ n ≤ 64 ∧ (∀ x ∈ L, x.1.length ≤ 64) ∧ OwnGs w' w.heap.size (.slice a n c) L ∧ parseA s = (if b then some (fsts L) else none) ∧ (b = false → L = []) ∧ Below w.heap.size w w' := by
  unfold PostPA at h
  cases hp : parseA s with
  | none =>
    rw [hp] at h
    obtain ⟨rfl, hb⟩ := h
    exact ⟨none, 0, 0, [], false, rfl, rfl, by omega, (fun x hx => (by cases hx)), OwnGs.nil _ _, rfl, fun _ => rfl, hb⟩
  | some l =>
    rw [hp] at h
    obtain ⟨⟨v, L, he, hf, ho⟩, hb⟩ := h
    obtain ⟨a, c, hv⟩ := OwnV.form ho.1
    rw [List.length_map] at hv
    subst hv
    obtain ⟨-, hr⟩ := textA_inv hp
    rw [← hf] at hr
    have h1 := hr.1
    rw [List.length_map] at h1
    exact ⟨a, _, c, L, true, he, rfl, h1, fun x hx => (hr.2 x.1 (List.mem_map_of_mem hx)).2.1, ho, by rw [hf]; rfl, fun e => (by cases e), hb⟩
/-- What the reference's ParseList returns. -/
def PostPL (o : Option (List Rl)) (w : World) (e : Ending) (w' : World) : Prop := (∃ v, e = .returned (.tuple #[v, .bool o.isSome]) ∧ OwnQ w' w.heap.size v (o.getD [])) ∧ Below w.heap.size w w'
theorem pl_yes {s : Bs} {L : List Gv} {b : Bool} (hp : parseA s = (if b then some (fsts L) else none)) (hb : b = false → L = []) (h1 : ∀ x ∈ L, x.1.length = 1) : (parseQ s).isSome = b ∧ (parseQ s).getD [] = (fsts L).flatten := by
  rw [parseQ_eq, hp]
  cases b with
  | false => rw [hb rfl]; exact ⟨rfl, rfl⟩
  | true =>
    have : oneG (fsts L) = some (fsts L).flatten := by
      unfold oneG
      rw [if_pos]
      rw [List.all_eq_true]
      intro g hg
      obtain ⟨x, hx, rfl⟩ := List.mem_map.1 hg
      rw [h1 x hx]; rfl
    rw [if_pos rfl]
    show (oneG (fsts L)).isSome = true ∧ (oneG (fsts L)).getD [] = _
    rw [this]; exact ⟨rfl, rfl⟩
theorem pl_no {s : Bs} {L : List Gv} {b : Bool} (hp : parseA s = (if b then some (fsts L) else none)) (hb : b = false → L = []) {x : Gv} (hx : x ∈ L) (h1 : x.1.length ≠ 1) : parseQ s = none := by
  rw [parseQ_eq, hp]
  cases b with
  | false => rfl
  | true =>
    rw [if_pos rfl]
    show oneG (fsts L) = none
    unfold oneG
    rw [if_neg]
    intro e
    have := List.all_eq_true.1 e x.1 (List.mem_map_of_mem hx)
    simp at this
    exact h1 this
theorem flat_snoc {L : List Gv} {k : Nat} {g : List Rl} {sv : Value} {x : Rl} (h : L[k]? = some (g, sv)) (hg : g = [x]) : (fsts (L.take (k + 1))).flatten = (fsts (L.take k)).flatten ++ [x] := by
  rw [take_snocQ h]; subst hg; simp [fsts]
set_option maxRecDepth 100000 in
set_option maxHeartbeats 8000000 in
theorem parseList_ref (s : ByteArray) (hs : s.size ≤ 3000) (w : World) : Calls Tryz.prog 23 #[.string s] w (PostPL (parseQ s.data.toList) w) := by
  obtain ⟨i0, hi, hz0, hz1, hz2'⟩ := info_parts infoQ
  have C := (parseAll_ref s hs w).mono (fun e w' h => paPost_any h)
  go_enter Tryz.func23, Tryz.ntmps23
  go_wp2_with (go_at_call 21; (with_reducible refine C.mono ?_); rintro e w1 ⟨a0, n, c, L, bo, rfl, hn, hn64, hg64, ho, hpa, hbo, hb⟩; have HN := Lib.hid hn; have HG64 := Lib.hid hg64; have HO := Lib.hid ho; have HPA := Lib.hid hpa; have HBO := Lib.hid hbo; have HB1 := Lib.hid hb; clear hn hg64 ho hpa hbo hb C)
  have hsz1 := HB1.out.size
  obtain ⟨a, c', b, o, e, hc, ha, hcell⟩ := HO.out.holds.parts
  rw [HN.out] at e hc ha
  simp only [Value.slice.injEq] at e
  obtain ⟨rfl, -, rfl⟩ := e
  have HC := Lib.hid hcell
  have HIN := Lib.hid HO.out.holds.2
  have HYES : Hid ((∀ x ∈ L, x.1.length = 1) → ∀ v w', OwnQ w' w.heap.size v (fsts L).flatten → Below w.heap.size w w' → PostPL (parseQ s.data.toList) w (.returned (.tuple #[v, .bool bo])) w') := Lib.hid (fun h v w' h1 h2 => by
    obtain ⟨e1, e2⟩ := pl_yes HPA.out HBO.out h
    exact ⟨⟨v, by rw [e1], by rw [e2]; exact h1⟩, h2⟩)
  have HNO : Hid (∀ x ∈ L, x.1.length ≠ 1 → ∀ w', Below w.heap.size w w' → PostPL (parseQ s.data.toList) w (.returned (.tuple #[.slice none 0 0, .bool false])) w') := Lib.hid (fun x hx h w' h2 => by
    rw [pl_no HPA.out HBO.out hx h]
    exact ⟨⟨_, rfl, OwnV.nil _ _ _ _⟩, h2⟩)
  clear hcell HPA HBO
  go_loopw [4, 7] (fun u i wr => ∃ (k : Nat) (ys : List Rl), k ≤ n ∧ i = .int .i64 k ∧ Hid (∀ (j : Nat) y, j < k → L[j]? = some y → y.1.length = 1) ∧ Hid (ys = (fsts (L.take k)).flatten) ∧ Hid (ys.length = k) ∧ Hid (OwnQ wr w1.heap.size u ys) ∧ Hid (Below w1.heap.size w1 wr)) (fun _ i _ => n - (intOf i).toNat)
  case atStart => exact ⟨0, [], by omega, rfl, Lib.hid (fun j y hj => by omega), Lib.hid rfl, Lib.hid rfl, Lib.hid (OwnV.nil _ _ _ _), Lib.hid (Below.refl _ _)⟩
  case round =>
    obtain ⟨k, ys, hk, rfl, H, HYS, HFL, HOU, HBX⟩ := hrel
    obtain ⟨wo, rfl⟩ : ∃ wo : World, wo = wr := ⟨_, rfl⟩
    have HB := Lib.hid (HB1.out.trans (HBX.out.mono hsz1))
    have hsz := HB.out.size
    have hszx := HBX.out.size
    by_cases hlt : k < n
    · obtain ⟨rfl, hbw⟩ := ha (by omega)
      obtain ⟨⟨g0, sv⟩, hx⟩ : ∃ x, L[k]? = some x := ⟨_, List.getElem?_eq_getElem (by rw [HN.out]; exact hlt)⟩
      have hmx := List.mem_of_getElem? hx
      have hgx := HIN.out _ hmx
      have hsm := HG64.out _ hmx
      have c0 := HC.out k _ hx
      dsimp only at c0 hgx hsm
      rw [← HBX.out.cell (p := ⟨b, o + k, none⟩) hbw] at c0
      obtain ⟨sa, sc, sb, so, hsv, hsc, hsa, hscell⟩ := hgx.parts
      subst hsv
      by_cases h1 : g0.length = 1
      · obtain ⟨⟨p, q, z⟩, hg0⟩ : ∃ x, g0 = [x] := List.length_eq_one_iff.1 h1
        obtain ⟨rfl, hsb⟩ := hsa (by omega)
        have d := hscell 0 (p, q, z) (by rw [hg0]; rfl)
        dsimp only at d
        rw [Nat.zero_mul, Nat.add_zero] at d
        obtain ⟨d0, d1, d2⟩ := d
        rw [← HBX.out.cell (p := ⟨sb, so, none⟩) hsb] at d0
        rw [← HBX.out.cell (p := ⟨sb, so + 1, none⟩) hsb] at d1
        rw [← HBX.out.cell (p := ⟨sb, so + 2, none⟩) hsb] at d2
        have HF2 : Hid (ys ++ [(p, q, z)] = (fsts (L.take (k + 1))).flatten) := Lib.hid (by rw [flat_snoc hx hg0, HYS.out])
        have HX : Hid (∀ (j : Nat) y, j < k + 1 → L[j]? = some y → y.1.length = 1) := Lib.hid (fun j y hj hy => by
          by_cases e : j = k
          · subst e
            rw [hx] at hy; cases hy
            exact h1
          · exact H.out j y (by omega) hy)
        have HXX : Hid ((bsT p).data.toList = p ∧ (bsT q).data.toList = q ∧ (bsT z).data.toList = z) := Lib.hid ⟨by simp, by simp, by simp⟩
        rw [h1] at c0
        generalize bsT p = P at *
        generalize bsT q = Q at *
        generalize bsT z = Z at *
        clear hx hmx hgx hsm hsc hsa hscell h1 hg0 H HYES HNO
        go_wp2_with (first | (at_builtin; refine wpList_append_own _ rfl _ _ 25 rfl w1.heap.size 23 i0 _ 3 48 Tryz.underlying25 hi hz0 hz1 hz2' rfl (by decide) _ _ _ rfl (World.ownsRow.alloc HOU.out.2 _) ⟨wo.heap.size, 0, none⟩ 1 1 [.string P, .string Q, .string Z] rfl rfl ?c1 ?c2 ?c3 ?c4 ?c5 ?_))
        case c2 => exact ⟨rfl, rfl, rfl⟩
        case c3 => rw [HFL.out]; unfold maxLen; omega
        case c4 => rw [HFL.out]; omega
        case c5 => omega
        intro v' w7 hown' hgrow _
        have HO7 : Hid (OwnQ w7 w1.heap.size v' (ys ++ [(p, q, z)])) := Lib.hid (OwnQ.app (x := (p, q, z)) HXX.out.1 HXX.out.2.1 HXX.out.2.2 (by simpa using hown'))
        have HB7 : Hid (Below w1.heap.size w1 w7) := Lib.hid (OwnV.below HBX.out HOU.out hgrow (Nat.le_refl _) HBX.out.size)
        have HL7 : Hid ((ys ++ [(p, q, z)]).length = k + 1) := Lib.hid (by rw [List.length_append, HFL.out]; rfl)
        clear hown' hgrow
        go_wp2
        go_roundw
        case rel => exact ⟨k + 1, _, by omega, by go_num, HX, HF2, HL7, HO7, HB7⟩
        case measure => simp [intOf]; omega
      · have G := Lib.hid (HNO.out _ hmx h1)
        generalize g0.length = gn at *
        clear hx hmx hgx hsa hscell H HYES HNO HOU
        go_wp2
        go_ret2
        exact G.out _ HB.out
    · obtain rfl : k = n := by omega
      have G := Lib.hid (HYES.out (fun x hx => by
        obtain ⟨j, hj⟩ := List.mem_iff_getElem?.1 hx
        exact H.out j x (by have := (List.getElem?_eq_some_iff.1 hj).1; rw [HN.out] at this; exact this) hj))
      have HFE : Hid (L.take k = L) := Lib.hid (List.take_of_length_le (by rw [HN.out]; omega))
      clear hlt H HYES HNO
      go_wp2
      go_ret2
      exact G.out _ _ (OwnV.mono (by have := HOU.out; rw [HYS.out, HFE.out] at this; exact this) hsz1) HB.out
end Go.Proofs.YtbndndpjbhodbaaGreatDoor
