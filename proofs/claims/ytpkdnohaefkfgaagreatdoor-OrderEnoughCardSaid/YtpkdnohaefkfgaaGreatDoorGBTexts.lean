/-
  All of groups of relations: what it returns; nothing old turns. Condition: LaidV.
-/
import Derived.Test.YtpkdnohaefkfgaaGreatDoorGQJoin
import Derived.Test.YtpkdnohaefkfgaaGreatDoorGBRight
import Derived.Test.YtpkdnohaefkfgaaGreatDoorGUTrig
namespace Go.Proofs.YtpkdnohaefkfgaaGreatDoor
open Go.RowKit
set_option maxHeartbeats 4000000 in
theorem groupText_any (v : Value) (g : List Rl) (hl : g.length ≤ 90000) (hs : SmallQ g) (w : World) (h : HoldQ w v g) : Calls Tryz.prog 68 #[v] w fun e w' => e = .returned (.string (bsT (textG g))) ∧ Below w.heap.size w w' := by
  have J := joinedR_any ⟨#[32, 124, 32]⟩ (by decide) v g hl hs w h
  obtain ⟨R, hR⟩ : ∃ R, bsT (Lib.join (g.map textR) (ByteArray.mk #[32, 124, 32]).data.toList) = R := ⟨_, rfl⟩
  have HR : Hid (R = bsT (textG g)) := Lib.hid hR.symm
  rw [hR] at J
  obtain ⟨a, c, b, o, rfl, -⟩ := h.parts
  generalize g.length = n at *
  clear hR h hs hl
  go_enter Tryz.func68, Tryz.ntmps68
  go_wp2_with (go_at_call 69; (with_reducible refine J.mono ?_); rintro e w1 ⟨rfl, hb⟩; have HB := Lib.hid hb; clear hb)
  go_ret
  exact ⟨by rw [HR.out]; rfl, HB.out⟩
set_option maxHeartbeats 4000000 in
theorem fullQ_any (a : Option Addr) (n c : Nat) (hn : n ≤ 90000) (w : World) : Calls Tryz.prog 65 #[.slice a n c] w fun e w' => e = .returned (.bool (decide (64 < n))) ∧ Below w.heap.size w w' := by
  have e : decide (64 < n) = decide (64 < (n : Int)) := by congr 1; apply propext; omega
  rw [e]
  go_enter Tryz.func65, Tryz.ntmps65
  go_wp2
  go_ret
  exact ⟨rfl, Below.refl _ _⟩
def listE (l : List Rl) : Bs × Int := if 64 < l.length then ([], 22) else if l.all rightR = true then (textQ l, 0) else ([], 1)
def TwoP (x : Bs × Int) (w : World) (e : Ending) (w' : World) : Prop := e = .returned (.tuple #[.string (bsT x.1), .int .i64 x.2]) ∧ Below w.heap.size w w'
end Go.Proofs.YtpkdnohaefkfgaaGreatDoor
namespace Go.Proofs.YtpkdnohaefkfgaaGreatDoor
open Go.RowKit
def BigQ (l : List Rl) : Prop := ∀ x ∈ l, x.1.length ≤ maxLen ∧ x.2.1.length ≤ maxLen ∧ x.2.2.length ≤ maxLen
theorem smallR_right {x : Rl} (h : rightR x = true) : x.1.length ≤ 4000 ∧ x.2.1.length ≤ 4000 ∧ x.2.2.length ≤ 4000 := by
  unfold rightR at h
  rw [Bool.and_eq_true] at h
  have h1 : x.1.length ≤ 60 := by
    have := h.1
    unfold nameB at this
    simp only [Bool.and_eq_true, decide_eq_true_eq] at this
    omega
  by_cases h2 : x.2.1 = []
  · rw [if_pos h2, decide_eq_true_eq] at h
    rw [h2, h.2]
    exact ⟨by omega, by simp, by simp⟩
  · rw [if_neg h2, Bool.and_eq_true, decide_eq_true_eq] at h
    have h3 : x.2.1.length ≤ 2 := by
      have := h.2.1
      unfold opB at this
      simp only [Bool.or_eq_true, decide_eq_true_eq] at this
      rcases this with ((((e | e) | e) | e) | e) <;> rw [e] <;> simp
    have h4 : x.2.2.length ≤ 80 := by
      by_cases h80 : 80 < x.2.2.length
      · have := h.2.2
        unfold parseE at this
        rw [if_pos h80] at this
        simp at this
      · omega
    exact ⟨by omega, by omega, by omega⟩
theorem smallQ_right {l : List Rl} (h : l.all rightR = true) : SmallQ l := fun x hx => smallR_right (List.all_eq_true.1 h x hx)
set_option maxHeartbeats 4000000 in
theorem allRight1Big_any (x : Rl) (h1 : x.1.length ≤ maxLen ∧ x.2.1.length ≤ maxLen ∧ x.2.2.length ≤ maxLen) (w : World) (hL : LaidV w) : Calls Tryz.prog 88 #[aggQ x] w fun e w' => e = .returned (.bool (!rightR x)) ∧ Below w.heap.size w w' := by
  have R := fun W h => rightRBig_any (bsT x.1) (bsT x.2.1) (bsT x.2.2) (by rw [sizeOf, bytesOf]; omega) (by rw [sizeOf, bytesOf]; omega) W h
  rw [bytesOf, bytesOf, bytesOf] at R
  obtain ⟨p, q, z⟩ := x
  dsimp only at R ⊢
  unfold aggQ
  dsimp only
  generalize rightR (p, q, z) = r at *
  have HBA : Hid (∀ o, Below w.heap.size w (w.alloc o)) := Lib.hid (fun o => (Below.refl _ _).alloc (Nat.le_refl _) o)
  have HLA := Lib.hid (fun o => hL.on (HBA.out o))
  generalize bsT p = P at *
  generalize bsT q = Q at *
  generalize bsT z = Z at *
  clear hL h1
  go_enter Tryz.func88, Tryz.ntmps88
  go_wp2_with (go_at_call 89; (with_reducible refine (R _ (HLA.out _)).mono ?_); rintro e w1 ⟨rfl, hb⟩; have HB := Lib.hid ((HBA.out _).trans (hb.mono (HBA.out _).size)); clear hb)
  go_ret
  exact ⟨rfl, HB.out⟩
set_option maxHeartbeats 4000000 in
theorem allRightBig_any (v : Value) (l : List Rl) (hl : l.length ≤ 90000) (hs : BigQ l) (w : World) (h : HoldQ w v l) (hL : LaidV w) : Calls Tryz.prog 66 #[v] w fun e w' => e = .returned (.bool (l.all rightR)) ∧ Below w.heap.size w w' := by
  have EN : ∀ args w, (callFunc 88 args).run Tryz.prog w = .ok (.enter 88 args) w := enters_of Tryz.func88 (by kernel_rfl) rfl
  have C := contQ_any 88 #[] EN (fun x => !rightR x) v l hl w h (fun W x hx hb => by
    have := allRight1Big_any x (hs x hx) W (hL.on hb)
    simpa using this)
  have HA : Hid (l.all rightR = !(l.any fun x => !rightR x)) := Lib.hid (by rw [List.not_any_eq_all_not]; simp)
  rw [HA.out]
  obtain ⟨a, c, b, o, rfl, -⟩ := h.parts
  generalize (l.any fun x => !rightR x) = r at *
  generalize l.length = n at *
  clear EN h hs hL hl
  go_enter Tryz.func66, Tryz.ntmps66
  go_wp2_with (go_at_call 50; (with_reducible refine C.mono ?_); rintro e w1 ⟨rfl, hb⟩; have HB := Lib.hid hb; clear hb)
  go_ret
  exact ⟨rfl, HB.out⟩
set_option maxHeartbeats 8000000 in
theorem listBig_any (v : Value) (l : List Rl) (hl : l.length ≤ 90000) (hs : BigQ l) (w : World) (h : HoldQ w v l) (hL : LaidV w) : Calls Tryz.prog 42 #[v] w (TwoP (listE l) w) := by
  have AR := fun W hb => allRightBig_any v l hl hs W (HoldV.on h hb) (hL.on hb)
  have HH := Lib.hid h
  have hvf : ∃ a c, v = .slice a l.length c := by obtain ⟨a, c, b, o, e, -⟩ := h.parts; exact ⟨a, c, e⟩
  obtain ⟨a, c, hve⟩ := hvf
  have JN0 : Hid (l.all rightR = true → ∀ W, Below w.heap.size w W → Calls Tryz.prog 69 #[.slice a l.length c, .string ⟨#[44, 32]⟩, .func (.func 70) #[] #[]] W fun e w' => e = .returned (.string (bsT (Lib.join (l.map textR) (ByteArray.mk #[44, 32]).data.toList))) ∧ Below W.heap.size W w') := Lib.hid (fun hr W hb => by
    have := joinedR_any ⟨#[44, 32]⟩ (by decide) v l hl (smallQ_right hr) W (HoldV.on HH.out hb)
    rw [hve] at this
    exact this)
  subst hve
  clear HH
  have FU := fun W => fullQ_any a l.length c hl W
  by_cases h64 : 64 < l.length
  · rw [decide_eq_true h64] at FU
    have HP : Hid (∀ w', Below w.heap.size w w' → TwoP (listE l) w (.returned (.tuple #[.string ⟨#[]⟩, .int .i64 22])) w') := Lib.hid (fun w' hb => ⟨by unfold listE; rw [if_pos h64], hb⟩)
    generalize l.length = n at *
    clear h h64 AR JN0 hs hL hl
    go_enter Tryz.func42, Tryz.ntmps42
    go_wp2_with (go_at_call 65; (with_reducible refine (FU _).mono ?_); rintro e w1 ⟨rfl, hb⟩; have HB := Lib.hid hb; clear hb)
    go_ret2
    exact HP.out _ HB.out
  rw [decide_eq_false h64] at FU
  cases hr : l.all rightR
  · rw [hr] at AR
    have HP : Hid (∀ w', Below w.heap.size w w' → TwoP (listE l) w (.returned (.tuple #[.string ⟨#[]⟩, .int .i64 1])) w') := Lib.hid (fun w' hb => ⟨by unfold listE; rw [if_neg h64, hr]; rfl, hb⟩)
    generalize l.length = n at *
    clear h h64 JN0 hs hL hl hr
    go_enter Tryz.func42, Tryz.ntmps42
    go_wp2_with (first
      | (go_at_call 65; (with_reducible refine (FU _).mono ?_); rintro e w1 ⟨rfl, hb⟩; have HB := Lib.hid hb; clear hb)
      | (go_at_call 66; (with_reducible refine (AR _ HB.out).mono ?_); rintro e w2 ⟨rfl, hb⟩; have HB2 := Lib.hid (HB.out.trans (hb.mono HB.out.size)); clear hb))
    go_ret2
    exact HP.out _ HB2.out
  · rw [hr] at AR
    have JN := fun W hb => JN0.out hr W hb
    clear JN0
    obtain ⟨R, hR⟩ : ∃ R, bsT (Lib.join (l.map textR) (ByteArray.mk #[44, 32]).data.toList) = R := ⟨_, rfl⟩
    rw [hR] at JN
    have HP : Hid (∀ w', Below w.heap.size w w' → TwoP (listE l) w (.returned (.tuple #[.string R, .int .i64 0])) w') := Lib.hid (fun w' hb => ⟨by unfold listE; rw [if_neg h64, hr, if_pos rfl, ← hR]; rfl, hb⟩)
    generalize l.length = n at *
    clear h h64 hs hL hl hr hR
    go_enter Tryz.func42, Tryz.ntmps42
    go_wp2_with (first
      | (go_at_call 65; (with_reducible refine (FU _).mono ?_); rintro e w1 ⟨rfl, hb⟩; have HB := Lib.hid hb; clear hb)
      | (go_at_call 66; (with_reducible refine (AR _ HB.out).mono ?_); rintro e w2 ⟨rfl, hb⟩; have HB2 := Lib.hid (HB.out.trans (hb.mono HB.out.size)); clear hb)
      | (go_at_call 69; (with_reducible refine (JN _ HB2.out).mono ?_); rintro e w3 ⟨rfl, hb⟩; have HB3 := Lib.hid (HB2.out.trans (hb.mono HB2.out.size)); clear hb))
    go_ret2
    exact HP.out _ HB3.out
end Go.Proofs.YtpkdnohaefkfgaaGreatDoor
namespace Go.Proofs.YtpkdnohaefkfgaaGreatDoor
open Go.RowKit
def SmallG (l : List Gv) : Prop := ∀ x ∈ l, SmallQ x.1 ∧ x.1.length ≤ 500
def gtx (x : Gv) : Bs := textG x.1
set_option maxRecDepth 100000 in
set_option maxHeartbeats 8000000 in
theorem joinedG_any (sep : ByteArray) (hsep : sep.size ≤ 10) (v : Value) (l : List Gv) (hl : l.length ≤ 90000) (hs : SmallG l) (w : World) (h : HoldGs w v l) :
    Calls Tryz.prog 67 #[v, .string sep, .func (.func 68) #[] #[]] w fun e w' => e = .returned (.string (bsT (Lib.join (l.map gtx) sep.data.toList))) ∧ Below w.heap.size w w' := by
  obtain ⟨a, c, b, o, rfl, hc, ha, hcell⟩ := h.parts
  obtain ⟨i0, hi, hz0, hz1, hz2'⟩ := info_parts infoT
  have HC := Lib.hid hcell
  have HG := Lib.hid h
  have HS := Lib.hid hs
  have HSEP := Lib.hid hsep
  have EN : ∀ args w, (callFunc 68 args).run Tryz.prog w = .ok (.enter 68 args) w := enters_of Tryz.func68 (by kernel_rfl) rfl
  obtain ⟨R, hR⟩ : ∃ R, bsT (Lib.join (l.map gtx) sep.data.toList) = R := ⟨_, rfl⟩
  rw [hR]
  have HR := Lib.hid hR
  obtain ⟨n, hN⟩ : ∃ n, l.length = n := ⟨_, rfl⟩
  rw [hN] at hc ha hl ⊢
  have HN := Lib.hid hN
  clear hcell hN h hs hsep hR
  go_enter Tryz.func67, Tryz.ntmps67
  go_wp2
  go_loopw [7, 12] (fun u i wr => ∃ k : Nat, k ≤ n ∧ i = .int .i64 k ∧ Hid (OwnT wr w.heap.size u ((l.take k).map gtx)) ∧ Hid (Below w.heap.size w wr)) (fun _ i _ => n - (intOf i).toNat)
  case atStart => exact ⟨0, by omega, rfl, Lib.hid (OwnT.nil _ _), Lib.hid (Below.refl _ _)⟩
  case round =>
    obtain ⟨k, hk, rfl, HO, HB⟩ := hrel
    have hsz := HB.out.size
    by_cases hlt : k < n
    · obtain ⟨rfl, hbw⟩ := ha (by omega)
      obtain ⟨⟨g0, sv⟩, hx⟩ : ∃ x, l[k]? = some x := ⟨_, List.getElem?_eq_getElem (by rw [HN.out]; exact hlt)⟩
      have hgx := HG.out.2 _ (List.mem_of_getElem? hx)
      have hsm := HS.out _ (List.mem_of_getElem? hx)
      have c0 := HC.out k _ hx
      dsimp only at c0 hsm hgx
      rw [← HB.out.cell (p := ⟨b, o + k, none⟩) hbw] at c0
      have TX := fun W (hW : Below wr.heap.size wr W) => groupText_any sv g0 (by omega) hsm.1 W (HoldV.on (HoldV.on hgx HB.out) hW)
      obtain ⟨sa, sc, -, -, hsv, -⟩ := hgx.parts
      subst hsv
      clear hgx
      have HSN := Lib.hid (map_snocQ gtx hx)
      obtain ⟨T, hT⟩ : ∃ T : ByteArray, bsT (textG g0) = T := ⟨_, rfl⟩
      have HT : Hid (T.data.toList = textG g0) := Lib.hid (by rw [← hT])
      rw [hT] at TX
      have hlen : ((l.take k).map gtx).length = k := by rw [List.length_map, List.length_take, HN.out]; omega
      obtain ⟨L, hL⟩ : ∃ L, (l.take k).map gtx = L := ⟨_, rfl⟩
      rw [hL] at HO hlen HSN
      have HLEN := Lib.hid hlen
      generalize g0.length = gn at *
      clear hx hT hlen hsm hL
      go_wp2_with (first
        | (go_at_fn 68; (with_reducible refine (TX _ (Below.refl _ _)).mono ?_); rintro e w2 ⟨rfl, hb⟩; have HB2 := Lib.hid (HB.out.trans (hb.mono hsz)); have HO2 : Hid (OwnT w2 w.heap.size u7 L) := Lib.hid (World.ownsRow.kept HO.out (grownV hb) (by cases u7.ownBlock <;> simp)); have hz2 := HB2.out.size; clear hb TX)
        | (at_builtin; refine wpList_append_own _ rfl _ _ 29 rfl w.heap.size 9 i0 _ 1 16 Tryz.underlying29 hi hz0 hz1 hz2' rfl (by decide) _ _ _ rfl (World.ownsRow.alloc HO2.out _) ⟨w2.heap.size, 0, none⟩ 1 1 [.string T] rfl rfl (by intro j u hj; match j, hj with | 0, hj => simp at hj; subst hj; simp [Addr.add]) (by intro u hu; simp at hu; subst hu; rfl) (by rw [HLEN.out]; unfold maxLen; omega) (by rw [HLEN.out]; omega) (by simp; omega) ?_))
      intro v' w3 hown' hgrow _
      have HO3 : Hid (OwnT w3 w.heap.size v' ((l.take (k + 1)).map gtx)) := Lib.hid (by rw [HSN.out]; exact OwnT.app HT.out hown')
      have HB3 : Hid (Below w.heap.size w w3) := Lib.hid (belowG HB2.out HO2.out hgrow (Nat.le_refl _) hz2)
      clear hown' hgrow
      go_wp2
      go_roundw
      case rel => exact ⟨k + 1, by omega, by go_num, HO3, HB3⟩
      case measure => simp [intOf]; omega
    · obtain rfl : k = n := by omega
      have HE : Hid ((l.take k).map gtx = l.map gtx) := Lib.hid (by rw [List.take_of_length_le (by rw [HN.out]; omega)])
      have JN := joinM_any sep HSEP.out _ _ (by rw [List.length_map, List.length_take]; omega) (fun p hp => by
        obtain ⟨x, hx, rfl⟩ := List.mem_map.1 hp
        have hh := HS.out x (List.mem_of_mem_take hx); have := textG_len hh.1 hh.2; unfold gtx; omega) wr HO.out.holds
      rw [HE.out, HR.out] at JN
      clear hlt
      go_wp2_with (go_at_call 90; (with_reducible refine JN.mono ?_); rintro e w2 ⟨rfl, hb⟩; have HB2 := Lib.hid (HB.out.trans (hb.mono hsz)); clear hb)
      go_ret
      exact ⟨rfl, HB2.out⟩
set_option maxHeartbeats 4000000 in
theorem fullG_any (a : Option Addr) (n c : Nat) (hn : n ≤ 90000) (w : World) : Calls Tryz.prog 63 #[.slice a n c] w fun e w' => e = .returned (.bool (decide (64 < n))) ∧ Below w.heap.size w w' := by
  have e : decide (64 < n) = decide (64 < (n : Int)) := by congr 1; apply propext; omega
  rw [e]
  go_enter Tryz.func63, Tryz.ntmps63
  go_wp2
  go_ret
  exact ⟨rfl, Below.refl _ _⟩
def longG (x : List Rl) : Bool := decide (64 < x.length)
def badG (x : List Rl) : Bool := decide (x.length = 0) || !x.all rightR
def allE (l : List (List Rl)) : Bs × Int := if decide (64 < l.length) || l.any longG then ([], 22) else if l.any badG then ([], 1) else (textA l, 0)
abbrev fsts (l : List Gv) : List (List Rl) := l.map (·.1)
theorem bad_hit {l : List Gv} {k : Nat} {x : Gv} (h : l[k]? = some x) (hb : badG x.1 = true) : (fsts l).any badG = true := List.any_eq_true.2 ⟨x.1, List.mem_map_of_mem (List.mem_of_getElem? h), hb⟩
theorem bad_miss {l : List Gv} (h : ∀ (j : Nat) y, l[j]? = some y → badG y.1 = false) : (fsts l).any badG = false := by
  rw [List.any_eq_false]
  intro g hg
  obtain ⟨x, hx, rfl⟩ := List.mem_map.1 hg
  obtain ⟨j, hj⟩ := List.mem_iff_getElem?.1 hx
  rw [h j x hj]; simp
end Go.Proofs.YtpkdnohaefkfgaaGreatDoor
