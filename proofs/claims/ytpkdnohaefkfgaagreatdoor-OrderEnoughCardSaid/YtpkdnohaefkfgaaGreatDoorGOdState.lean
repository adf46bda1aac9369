/-
  What the planning holds in memory: the names, the box of what is there, the set of names; how it is carried. Nothing of the program but its types.
-/
import Derived.Test.YtpkdnohaefkfgaaGreatDoorGBTexts
import Derived.Test.YtpkdnohaefkfgaaGreatDoorGQLacks
import Derived.Test.YtpkdnohaefkfgaaGreatDoorGZHold
import Derived.Laws.StructEq
import Derived.Deep.QuietTactic
import Derived.BigQuiet
import Derived.Deep.RegionHeld3
import Derived.Test.YtpkdnohaefkfgaaGreatDoorGOdNext
namespace Go.Proofs.YtpkdnohaefkfgaaGreatDoor
open Go.RowKit
theorem join_snocQ (sep x : Bs) : ∀ (ps : List Bs), ps ≠ [] → Lib.join (ps ++ [x]) sep = Lib.join ps sep ++ (sep ++ x)
  | [], h => absurd rfl h
  | [p], _ => by
    have : [p] ++ [x] = p :: x :: [] := rfl
    rw [this, join_two, Lib.join_one, Lib.join_one]
  | p :: q :: ps, _ => by
    have ih := join_snocQ sep x (q :: ps) (by simp)
    have e : (p :: q :: ps) ++ [x] = p :: q :: (ps ++ [x]) := rfl
    have e2 : (q :: ps) ++ [x] = q :: (ps ++ [x]) := rfl
    rw [e, join_two, ← e2, ih, join_two]
    simp
theorem take_snocQ {α : Type} {l : List α} {k : Nat} {x : α} (h : l[k]? = some x) : l.take (k + 1) = l.take k ++ [x] := by
  rw [List.take_add_one, h]; rfl
set_option maxRecDepth 100000 in
set_option maxHeartbeats 8000000 in
theorem join6_any (sep : ByteArray) (hsep : sep.size ≤ 10) (v : Value) (ls : List Bs) (hl : ls.length ≤ 90000) (hs : ∀ p ∈ ls, p.length ≤ 10000000) (w : World) (h : HoldT w v ls) :
    Calls Tryz.prog 23 #[v, .string sep] w fun e w' => e = .returned (.string (bsT (Lib.join ls sep.data.toList))) ∧ w = w' := by
  obtain ⟨a, c, b, o, rfl, hc, ha, hcell⟩ := h
  have HC := Lib.hid hcell
  have HS := Lib.hid hs
  have HJL : Hid (∀ k, (Lib.join (ls.take k) sep.data.toList).length ≤ 90000 * 10000010) := Lib.hid (fun k => by
    have h1 := joinM_len sep.data.toList 10000000 (ls.take k) (fun p hp => hs p (List.mem_of_mem_take hp))
    have h2 : (ls.take k).length ≤ 90000 := Nat.le_trans (List.length_take_le' _ _) hl
    have h3 : (ls.take k).length * (10000000 + sep.data.toList.length) ≤ 90000 * 10000010 := Nat.mul_le_mul h2 (by rw [← sizeOf]; omega)
    omega)
  obtain ⟨n, hN⟩ : ∃ n, ls.length = n := ⟨_, rfl⟩
  rw [hN] at hc ha hl ⊢
  have HN := Lib.hid hN
  clear hcell hN hs
  go_enter Tryz.func23, Tryz.ntmps23
  go_wp2
  go_loop [5, 6] (fun z i => ∃ (k : Nat) (S : ByteArray), k ≤ n ∧ i = .int .i64 k ∧ z = .string S ∧ S.size ≤ 900000900000 ∧ Hid (S.data.toList = Lib.join (ls.take k) sep.data.toList)) (fun _ i => n - (intOf i).toNat)
  case atStart => exact ⟨0, ⟨#[]⟩, by omega, rfl, rfl, by decide, Lib.hid rfl⟩
  case round =>
    obtain ⟨k, S, hk, rfl, rfl, hS, HZ⟩ := hrel
    by_cases hlt : k < n
    · obtain ⟨rfl, hbw⟩ := ha (by omega)
      obtain ⟨p, hp⟩ : ∃ p, ls[k]? = some p := ⟨_, List.getElem?_eq_getElem (by rw [HN.out]; exact hlt)⟩
      have c0 := HC.out k p hp
      have hpl := HS.out p (List.mem_of_getElem? hp)
      have hj := HJL.out (k + 1)
      have hts := take_snocQ hp
      obtain ⟨P, hP⟩ : ∃ P : ByteArray, (⟨p.toArray⟩ : ByteArray) = P := ⟨_, rfl⟩
      have hPL : P.data.toList = p := by rw [← hP]
      have hPs : P.size ≤ 10000000 := by rw [sizeOf, hPL]; exact hpl
      rw [hP] at c0
      by_cases h0 : k = 0
      · subst h0
        have HZ2 : Hid ((S ++ P).data.toList = Lib.join (ls.take (0 + 1)) sep.data.toList) := Lib.hid (by
          rw [hts, ByteArray.data_append, Array.toList_append, HZ.out, hPL]
          simp [Lib.join, List.intercalate])
        have hs2 : (S ++ P).size ≤ 900000900000 := by rw [sizeOf, HZ2.out]; omega
        have q3 : ¬ 9223372036854775807 < S.size + P.size := by omega
        rw [Nat.add_zero] at c0
        clear hp hP hPL hj hts hpl
        go_wp2
        go_round
        case rel => exact ⟨1, _, by omega, rfl, rfl, hs2, HZ2⟩
        case measure => simp [intOf]; omega
      · have hne : ls.take k ≠ [] := fun e => by
          have := congrArg List.length e
          rw [List.length_take, HN.out] at this
          simp at this; omega
        have HZ2 : Hid (((S ++ sep) ++ P).data.toList = Lib.join (ls.take (k + 1)) sep.data.toList) := Lib.hid (by
          rw [hts, join_snocQ _ _ _ hne, ByteArray.data_append, Array.toList_append, ByteArray.data_append, Array.toList_append, HZ.out, hPL, List.append_assoc])
        have hs2 : ((S ++ sep) ++ P).size ≤ 900000900000 := by rw [sizeOf, HZ2.out]; omega
        have q2 : ¬ 9223372036854775807 < S.size + sep.size := by omega
        have q4 : (S ++ sep).size = S.size + sep.size := ByteArray.size_append
        have q3 : ¬ 9223372036854775807 < S.size + sep.size + P.size := by omega
        have hk0 : 0 < k := by omega
        clear hp hP hPL hj hts hpl hne h0
        go_wp2
        go_round
        case rel => exact ⟨k + 1, _, by omega, by go_num, rfl, hs2, HZ2⟩
        case measure => simp [intOf]; omega
    · obtain rfl : k = n := by omega
      have HE : Hid (bsT (Lib.join ls sep.data.toList) = S) := Lib.hid (by
        have := HZ.out
        rw [List.take_of_length_le (by rw [HN.out]; omega)] at this
        rw [← this])
      clear hlt
      go_wp2
      go_ret
      exact ⟨by rw [HE.out]; rfl, rfl⟩
end Go.Proofs.YtpkdnohaefkfgaaGreatDoor
namespace Go.Proofs.YtpkdnohaefkfgaaGreatDoor
open Go.RowKit
theorem long_miss {l : List Gv} (h : ∀ (j : Nat) y, l[j]? = some y → longG y.1 = false) : (fsts l).any longG = false := by
  rw [List.any_eq_false]
  intro g hg
  obtain ⟨x, hx, rfl⟩ := List.mem_map.1 hg
  obtain ⟨j, hj⟩ := List.mem_iff_getElem?.1 hx
  rw [h j x hj]; simp
theorem long_hit {l : List Gv} {k : Nat} {x : Gv} (h : l[k]? = some x) (hb : longG x.1 = true) : (fsts l).any longG = true := List.any_eq_true.2 ⟨x.1, List.mem_map_of_mem (List.mem_of_getElem? h), hb⟩
theorem all_takeQ {g : List Rl} (h : ∀ (j : Nat) y, g[j]? = some y → rightR y = true) : g.all rightR = true := by
  rw [List.all_eq_true]
  intro y hy
  obtain ⟨j, hj⟩ := List.mem_iff_getElem?.1 hy
  exact h j y hj
theorem all_badQ {g : List Rl} {k : Nat} {x : Rl} (h : g[k]? = some x) (hr : rightR x = false) : g.all rightR = false := by
  rw [List.all_eq_false]
  exact ⟨x, List.mem_of_getElem? h, by rw [hr]; simp⟩
theorem OwnT.formQ {w : World} {B : Nat} {v : Value} {ls : List Bs} (h : OwnT w B v ls) : ∃ a c, v = .slice a ls.length c := by
  obtain ⟨a, c, b, o, e, _⟩ := h.holds; exact ⟨a, c, e⟩
theorem OwnT.onQ {w w' : World} {B : Nat} {v : Value} {ls : List Bs} (h : OwnT w B v ls) (hb : Below w.heap.size w w') : OwnT w' B v ls := World.ownsRow.kept h (grownV hb) (by cases v.ownBlock <;> simp)
end Go.Proofs.YtpkdnohaefkfgaaGreatDoor
namespace Go.Proofs.YtpkdnohaefkfgaaGreatDoor
open Go.RowKit
end Go.Proofs.YtpkdnohaefkfgaaGreatDoor
namespace Go.Proofs.YtpkdnohaefkfgaaGreatDoor
open Go.RowKit
theorem OwnQ.lit (w : World) (B : Nat) (P Q Z : ByteArray) (hB : B ≤ w.heap.size) : OwnQ (w.alloc (.cells #[.string P, .string Q, .string Z] 41)) B (.slice (some ⟨w.heap.size, 0, none⟩) 1 1) [(P.data.toList, Q.data.toList, Z.data.toList)] :=
  ⟨cellsQ_len _, rfl, .inr ⟨w.heap.size, 1, #[.string P, .string Q, .string Z], rfl, hB, heap_alloc_new w _, Nat.le_refl _, by decide, rfl, by simp⟩⟩
end Go.Proofs.YtpkdnohaefkfgaaGreatDoor
namespace Go.Proofs.YtpkdnohaefkfgaaGreatDoor
open Go.RowKit Go.Shelf Go.Maps
theorem own_ne {w : World} {base T k n : Nat} {v : Value} {xs : List Value} (h : w.ownsRow base T k v n xs) {b T' : Nat} {cs : Array Value} {fz : Nat × Nat} (hb : w.heap[b]? = some (.cells cs T' fz)) (hT : T' ≠ T) : some b ≠ v.ownBlock := fun e => by
  rcases h.2 with ⟨rfl, _⟩ | ⟨g, cap, cur, rfl, _, hg, _⟩
  · simp [Value.ownBlock] at e
  · simp only [Value.ownBlock, Option.some.injEq] at e
    subst e
    rw [hg] at hb
    cases hb
    exact hT rfl
theorem own_nemap {w : World} {base T k n : Nat} {v : Value} {xs : List Value} (h : w.ownsRow base T k v n xs) {b : Nat} {es : Array MapEntry} {c : Nat} (hb : w.heap[b]? = some (.map es c)) : some b ≠ v.ownBlock := fun e => by
  rcases h.2 with ⟨rfl, _⟩ | ⟨g, cap, cur, rfl, _, hg, _⟩
  · simp [Value.ownBlock] at e
  · simp only [Value.ownBlock, Option.some.injEq] at e
    subst e
    rw [hg] at hb
    cases hb
theorem map_row {w : World} {K : TypeId} {R : Value → Option (DataW Unit × List MemPlace)} {B q : Nat} {D : DataW Unit} (h : w.ownsMap Tryz.prog K R B q D) : ∃ es c, w.heap[B]? = some (.map es c) := by
  obtain ⟨es, clock, hb, -⟩ := h
  exact ⟨es, clock, hb⟩
theorem row_stays {w w' : World} {r : Option Nat} (hg : w.grownBy w' r) {b : Nat} {o : Obj} (h : w.heap[b]? = some o) (hne : some b ≠ r) : w'.heap[b]? = some o :=
  (hg.block b (Array.getElem?_eq_some_iff.1 h).1 hne).trans h
theorem row_below {w w' : World} (hb : Below w.heap.size w w') {b : Nat} {o : Obj} (h : w.heap[b]? = some o) : w'.heap[b]? = some o := (hb.block b (Array.getElem?_eq_some_iff.1 h).1).trans h
/-- The planning's memory: g: the box of what is there; B: the set; p: the record that was told. -/
structure PSt (w : World) (base g B p : Nat) (xr : Option (Array Value)) (ns : List Bs) (u : Value) (q : Nat) (D : DataW Unit) (gv tv : Value) (t : List Rl) : Prop where
  T : OwnT w (B + 1) u ns
  G : w.heap[g]? = some (.cells #[gv] 27 (0, 0))
  Q : OwnQ w base tv t
  M : w.ownsMap Tryz.prog 9 unitElem B q D
  X : ∀ cs, xr = some cs → w.heap[p]? = some (.cells cs 37 (0, 0))
  gB : g < B
  bg : base ≤ g
theorem PSt.on {w w' : World} {base g B p q : Nat} {xr : Option (Array Value)} {ns : List Bs} {u gv tv : Value} {D : DataW Unit} {t : List Rl} (h : PSt w base g B p xr ns u q D gv tv t) (hb : Below w.heap.size w w') : PSt w' base g B p xr ns u q D gv tv t :=
  ⟨OwnT.onQ h.T hb, row_below hb h.G, OwnV.on h.Q hb, World.ownsMap.kept h.M (grownV hb) (by simp), fun cs e => row_below hb (h.X cs e), h.gB, h.bg⟩
theorem PSt.names {w w' : World} {o : Obj} {base g B p q : Nat} {xr : Option (Array Value)} {ns : List Bs} {u u' gv tv : Value} {D : DataW Unit} {t : List Rl} (h : PSt w base g B p xr ns u q D gv tv t) {n : Bs} (ht : OwnT w' (B + 1) u' (ns ++ [n])) (hg : (w.alloc o).grownBy w' u.ownBlock) : PSt w' base g B p xr (ns ++ [n]) u' q D gv tv t := by
  have b0 : Below w.heap.size w (w.alloc o) := (Below.refl _ _).alloc (Nat.le_refl _) _
  have h1 := h.on b0
  obtain ⟨es, c, hm⟩ := map_row h1.M
  exact ⟨ht, row_stays hg h1.G (own_ne h1.T h1.G (by decide)), ⟨h.Q.1, World.ownsRow.kept h1.Q.2 hg (kinds_apart h1.Q.2 h1.T (by decide))⟩, World.ownsMap.kept h1.M hg (own_nemap h1.T hm), fun cs e => row_stays hg (h1.X cs e) (own_ne h1.T (h1.X cs e) (by decide)), h.gB, h.bg⟩
theorem PSt.map {w w' : World} {base g B p q q' : Nat} {xr : Option (Array Value)} {ns : List Bs} {u gv tv : Value} {D D' : DataW Unit} {t : List Rl} (h : PSt w base g B p xr ns u q D gv tv t) (hm : w'.ownsMap Tryz.prog 9 unitElem B q' D') (hg : w.grownBy w' (some B)) : PSt w' base g B p xr ns u q' D' gv tv t := by
  obtain ⟨es, c, hB⟩ := map_row h.M
  have n1 := own_nemap h.T hB
  have n2 := own_nemap h.Q.2 hB
  refine ⟨World.ownsRow.kept h.T hg ?_, row_stays hg h.G (by have := h.gB; simp; omega), ⟨h.Q.1, World.ownsRow.kept h.Q.2 hg ?_⟩, hm, fun cs e0 => row_stays hg (h.X cs e0) (fun e => by
    simp only [Option.some.injEq] at e
    subst e
    have := h.X cs e0
    rw [hB] at this; cases this), h.gB, h.bg⟩
  · exact .inr (fun e => n1 e.symm)
  · exact .inr (fun e => n2 e.symm)
theorem PSt.there {w w' : World} {o : Obj} {base g B p q : Nat} {xr : Option (Array Value)} {ns : List Bs} {u gv tv tv' : Value} {D : DataW Unit} {t : List Rl} (h : PSt w base g B p xr ns u q D gv tv t) {r : Rl} (ht : OwnQ w' base tv' (t ++ [r])) (hg : (w.alloc o).grownBy w' tv.ownBlock) : PSt w' base g B p xr ns u q D gv tv' (t ++ [r]) := by
  have b0 : Below w.heap.size w (w.alloc o) := (Below.refl _ _).alloc (Nat.le_refl _) _
  have h1 := h.on b0
  obtain ⟨es, c, hm⟩ := map_row h1.M
  exact ⟨World.ownsRow.kept h1.T hg (kinds_apart h1.T h1.Q.2 (by decide)), row_stays hg h1.G (own_ne h1.Q.2 h1.G (by decide)), ht, World.ownsMap.kept h1.M hg (own_nemap h1.Q.2 hm), fun cs e => row_stays hg (h1.X cs e) (own_ne h1.Q.2 (h1.X cs e) (by decide)), h.gB, h.bg⟩
theorem PSt.store {w : World} {base g B p q : Nat} {xr : Option (Array Value)} {ns : List Bs} {u gv tv : Value} {D : DataW Unit} {t : List Rl} (h : PSt w base g B p xr ns u q D gv tv t) : PSt (w.setCell ⟨g, 0, none⟩ tv) base g B p xr ns u q D tv tv t := by
  have hg : w.grownBy (w.setCell ⟨g, 0, none⟩ tv) (some g) := ⟨rfl, rfl, rfl, (KeepsWalks.setCell w _ tv).size, fun k _ hk => Below.heap_setCell _ _ _ k (fun e => hk (by rw [e]))⟩
  obtain ⟨es, c, hm⟩ := map_row h.M
  have n1 := own_ne h.T h.G (by decide)
  have n2 := own_ne h.Q.2 h.G (by decide)
  refine ⟨World.ownsRow.kept h.T hg (.inr (fun e => n1 e.symm)), ?_, ⟨h.Q.1, World.ownsRow.kept h.Q.2 hg (.inr (fun e => n2 e.symm))⟩, World.ownsMap.kept h.M hg (by have := h.gB; simp; omega), fun cs e0 => row_stays hg (h.X cs e0) (fun e => by
    simp only [Option.some.injEq] at e
    subst e
    have := h.X cs e0
    rw [h.G] at this; cases this), h.gB, h.bg⟩
  have := heap_setN (i := 0) tv h.G
  simpa using this
theorem PSt.box {w : World} {base g B p q : Nat} {xr : Option (Array Value)} {ns : List Bs} {u gv tv : Value} {D : DataW Unit} {t : List Rl} (h : PSt w base g B p xr ns u q D gv tv t) (cs : Array Value) : PSt (w.alloc (.cells cs 37)) base g B w.heap.size (some cs) ns u q D gv tv t := by
  have h1 := h.on ((Below.refl _ _).alloc (Nat.le_refl _) (.cells cs 37))
  exact ⟨h1.T, h1.G, h1.Q, h1.M, fun c e => (by cases e; exact Array.getElem?_push_size), h1.gB, h1.bg⟩
theorem PSt.nobox {w : World} {base g B p q : Nat} {xr : Option (Array Value)} {ns : List Bs} {u gv tv : Value} {D : DataW Unit} {t : List Rl} (h : PSt w base g B p xr ns u q D gv tv t) : PSt w base g B 0 none ns u q D gv tv t := ⟨h.T, h.G, h.Q, h.M, fun _ e => (by cases e), h.gB, h.bg⟩
end Go.Proofs.YtpkdnohaefkfgaaGreatDoor
