/-
  trigs.Files of the example's interest: the one path; nothing old turns. Condition: LaidP. trigs.Fire of no fired triggers, with one who waits: one fired trigger; nothing old turns. cellarerlaw12's awake: it returns true; nothing old turns. Condition: LaidP.
-/
import Derived.Test.YtceohgjfjndcmaaGreatDoorGSmall
import Derived.Test.YtceohgjfjndcmaaGreatDoorPSorted2
import Derived.Test.YtceohgjfjndcmaaGreatDoorGOwnF
import Derived.Test.YtceohgjfjndcmaaGreatDoorGFind
import Derived.Lib.SliceRun
import Derived.Test.YtceohgjfjndcmaaGreatDoorGSameF
namespace Go.Proofs.YtceohgjfjndcmaaGreatDoor
open Go.RowKit
abbrev usrB : Bs := [47, 117, 115, 114]
abbrev exI : It := (usrB, [97], true)
theorem usr_right : right usrB = true := by decide +kernel
theorem usr_under : under usrB [47, 117, 115, 114, 47, 98] = true := by decide +kernel
theorem srt_usr : srt [usrB] = [usrB] := by decide +kernel
theorem usr_ne : decide (usrB = [47, 117, 115, 114, 47, 98]) = false := by decide
set_option maxRecDepth 100000 in
set_option maxHeartbeats 4000000 in
theorem files_one (v : Value) (w : World) (hL : LaidP w) (h : HoldI w v [exI]) : Calls Tryz.prog 32 #[v, .string ⟨#[47, 117, 115, 114, 47, 98]⟩] w fun e w' => ∃ u, e = .returned u ∧ HoldT w' u [usrB] ∧ Below w.heap.size w w' := by
  obtain ⟨a, c, b, o, rfl, hc, ha, hcell⟩ := h.parts
  obtain ⟨rfl, hbw⟩ := ha (by simp)
  obtain ⟨c0, c1, c2⟩ := hcell 0 exI rfl
  simp only [List.length_cons, List.length_nil, Nat.zero_mul, Nat.add_zero] at hc c0 c1 c2 ⊢
  obtain ⟨i0, hi, hz0, hz1, hz2⟩ := info_parts infoT
  have c0 : w.cell? ⟨b, o, none⟩ = some (.string ⟨#[47, 117, 115, 114]⟩) := c0
  have c1 : w.cell? ⟨b, o + 1, none⟩ = some (.string ⟨#[97]⟩) := c1
  have c2 : w.cell? ⟨b, o + 2, none⟩ = some (.bool true) := c2
  have HC := Lib.hid (And.intro c0 (And.intro c1 c2))
  have HL := Lib.hid hL
  clear h hcell ha hL c0 c1 c2
  go_enter Tryz.func32, Tryz.ntmps32
  go_wp2
  go_loopw [5, 10] (fun u i wr => ∃ k : Nat, k ≤ 1 ∧ i = .int .i64 k ∧ Hid (OwnT wr w.heap.size u ([usrB].take k)) ∧ Hid (Below w.heap.size w wr)) (fun _ i _ => 1 - (intOf i).toNat)
  case atStart => exact ⟨0, by omega, rfl, Lib.hid (OwnT.nil _ _), Lib.hid (Below.refl _ _)⟩
  case round =>
    obtain ⟨k, hk, rfl, HO, HB⟩ := hrel
    have hsz := HB.out.size
    by_cases hlt : k < 1
    · obtain rfl : k = 0 := by omega
      obtain ⟨c0, c1, c2⟩ := HC.out
      rw [← HB.out.cell (p := ⟨b, o, none⟩) hbw] at c0
      rw [← HB.out.cell (p := ⟨b, o + 1, none⟩) hbw] at c1
      rw [← HB.out.cell (p := ⟨b, o + 2, none⟩) hbw] at c2
      have B0 := (Below.refl wr.heap.size wr).alloc (Nat.le_refl _) (.cells #[.string ⟨#[47, 117, 115, 114]⟩, .string ⟨#[97]⟩, .bool true] 53)
      have HB0 := Lib.hid B0
      have HBW := Lib.hid (HB.out.trans (B0.mono hsz))
      obtain ⟨x0, x1, x2⟩ := boxV3 wr (.string ⟨#[47, 117, 115, 114]⟩) (.string ⟨#[97]⟩) (.bool true) 53
      have l0 := World.block_lt_of_cell? _ _ x0
      have HXX := Lib.hid (fun W (hb : Below (wr.alloc (.cells #[.string ⟨#[47, 117, 115, 114]⟩, .string ⟨#[97]⟩, .bool true] 53)).heap.size (wr.alloc (.cells #[.string ⟨#[47, 117, 115, 114]⟩, .string ⟨#[97]⟩, .bool true] 53)) W) => (hb.cell (p := ⟨wr.heap.size, 0, none⟩) l0).trans x0)
      have RA := right_any ⟨#[47, 117, 115, 114]⟩ (by decide) _ (HL.out.on HBW.out)
      rw [show right (ByteArray.mk #[47, 117, 115, 114]).data.toList = true from usr_right] at RA
      have UA := fun W => under_any ⟨#[47, 117, 115, 114]⟩ ⟨#[47, 117, 115, 114, 47, 98]⟩ (by decide) W
      rw [show under (ByteArray.mk #[47, 117, 115, 114]).data.toList (ByteArray.mk #[47, 117, 115, 114, 47, 98]).data.toList = true from usr_under] at UA
      have hq := eqT ⟨#[47, 117, 115, 114]⟩ ⟨#[47, 117, 115, 114, 47, 98]⟩
      rw [show decide ((ByteArray.mk #[47, 117, 115, 114]).data.toList = (ByteArray.mk #[47, 117, 115, 114, 47, 98]).data.toList) = false from usr_ne] at hq
      clear B0 l0 hlt x1 x2
      generalize (ByteArray.mk #[47, 117, 115, 114, 47, 98]) = SB at *
      generalize hUS : (ByteArray.mk #[47, 117, 115, 114]) = US at *
      have HUS := Lib.hid hUS
      clear hUS
      go_wp2_with (first
        | (go_at_call 65; (with_reducible refine RA.mono ?_); rintro e w2 ⟨rfl, hb⟩; have y0 := HXX.out _ hb; have HB2 := Lib.hid (HBW.out.trans (hb.mono HBW.out.size)); have HO2 := Lib.hid (OwnT.on HO.out (HB0.out.trans (hb.mono HB0.out.size))); have hzb := HB2.out.size; clear hb RA)
        | (go_at_call 66; (with_reducible refine (UA _).mono ?_); rintro e w3 ⟨rfl, rfl⟩; clear UA)
        | (at_builtin; refine wpList_append_own _ rfl _ _ 56 rfl w.heap.size 9 i0 (.string ⟨#[]⟩) 1 16 Tryz.underlying56 hi hz0 hz1 hz2 rfl (by decide) _ _ _ rfl (World.ownsRow.alloc HO2.out _) ⟨w2.heap.size, 0, none⟩ 1 1 [.string US] rfl rfl ?c1 ?c2 ?c3 ?c4 ?c5 ?_))
      case c1 => intro j x hj; match j, hj with | 0, hj => simp at hj; subst hj; simp [Addr.add]
      case c2 => intro x hx; simp at hx; subst hx; rfl
      case c3 => simp [maxLen]
      case c4 => simp
      case c5 => simp; omega
      · intro v' w4 hown' hgrow _
        have HO3 : Hid (OwnT w4 w.heap.size v' ([usrB].take 1)) := Lib.hid (by
          have := OwnT.app (ls := [usrB].take 0) (l := usrB) (show US.data.toList = usrB by rw [← HUS.out]) hown'
          simpa using this)
        have HB3 : Hid (Below w.heap.size w w4) := Lib.hid (belowG HB2.out HO2.out hgrow (Nat.le_refl _) hzb)
        clear hown' hgrow
        go_wp2
        go_roundw
        case rel => exact ⟨1, by omega, by go_num, HO3, HB3⟩
        case measure => simp [intOf]
    · obtain rfl : k = 1 := by omega
      have HH := Lib.hid HO.out.holds
      have SO := sorted_any _ [usrB] (by simp) (OwnS.bare HO.out) wr HH.out
      rw [srt_usr] at SO
      clear hlt
      go_wp2_with (go_at_call 63; (with_reducible refine SO.mono ?_); rintro e w2 ⟨u, rfl, ho, hb⟩; have HH2 := Lib.hid (OwnS.holds ho); have HB2 := Lib.hid (HB.out.trans (hb.mono hsz)); clear ho hb SO)
      go_ret
      exact ⟨_, rfl, HH2.out, HB2.out⟩
end Go.Proofs.YtceohgjfjndcmaaGreatDoor
namespace Go.Proofs.YtceohgjfjndcmaaGreatDoor
open Go.RowKit
theorem idxF_nil (p : Fp → Bool) : idxF [] p = -1 := rfl
theorem holdF_nil (w : World) : HoldF w (.slice none 0 0) [] := ⟨fun p hp => by simp at hp, HoldV.nil 2 w⟩
abbrev kyF2 : Value := .func (.func 46) #[] #[]
abbrev cpF : Value := .func (.func 61) #[] #[]
theorem findF_nil (k : ByteArray) (w : World) : Calls Tryz.prog 59 #[.slice none 0 0, kyF2, .string k] w fun e w' => e = .returned (.int .i64 (-1)) ∧ Below w.heap.size w w' := by
  have B2 := ((Below.refl w.heap.size w).alloc (Nat.le_refl _) (.cells #[kyF2] 79)).alloc (by simp) (.cells #[.string k] 9)
  have I := idx_fr 85 #[.pointer (some ⟨w.heap.size, 0, none⟩), .pointer (some ⟨w.heap.size + 1, 0, none⟩)] (enters_of Tryz.func85 (by kernel_rfl) rfl) (fun _ => false) (.slice none 0 0) [] (by simp) _ (holdF_nil ((w.alloc (.cells #[kyF2] 79)).alloc (.cells #[.string k] 9))) (fun W x _ hx => by simp at hx)
  rw [idxF_nil] at I
  have HB2 := Lib.hid B2
  clear B2
  unfold kyF2 at I HB2 ⊢
  go_enter Tryz.func59, Tryz.ntmps59
  go_wp2_with (go_at_call 77; (with_reducible refine I.mono ?_); rintro e w1 ⟨rfl, hb⟩; have HB := Lib.hid (HB2.out.trans (hb.mono HB2.out.size)); clear hb)
  go_ret
  exact ⟨rfl, HB.out⟩
theorem cloneF_nil (w : World) : Calls Tryz.prog 62 #[.slice none 0 0] w fun e w' => e = .returned (.slice none 0 0) ∧ w = w' := by
  have hq : ∀ (w : World) (a : Option Addr) (n c n' c' : Nat), (binOp .eql 35 (.slice a n c) (.slice none n' c')).run Tryz.prog w = .ok (.bool a.isNone) w := fun w a n c n' c' => Lib.run_eql_slice_nil w _ _ a n c n' c' Tryz.underlying35
  go_enter Tryz.func62, Tryz.ntmps62
  go_wp2
  go_ret
  exact ⟨rfl, rfl⟩
set_option maxRecDepth 100000 in
set_option maxHeartbeats 4000000 in
theorem insF_nil (vs : List Value) (w : World) (vb : Nat) (hvl : vs.length = 2) (hvs : ∀ j u, vs[j]? = some u → w.cell? ⟨vb, 0 + j, none⟩ = some u) (h1v : ∀ u ∈ vs, u.oneCell' = true) :
    Calls Tryz.prog 87 #[.slice none 0 0, .int .i64 0, .slice (some ⟨vb, 0, none⟩) 1 1] w fun e w' => ∃ v', e = .returned v' ∧ w'.ownsRow w.heap.size 74 2 v' 1 vs ∧ w.grownBy w' none := by
  obtain ⟨i0, hi, hz0, hz1, hz2'⟩ := info_parts infoF
  have HO := Lib.hid (World.ownsRow_nil w w.heap.size 74 2)
  have HV := Lib.hid hvs
  have HV1 := Lib.hid h1v
  clear hvs h1v
  go_enter Tryz.func87, Tryz.ntmps87
  go_wp2_with (at_builtin; refine wpList_append_own _ rfl _ _ 35 rfl w.heap.size 74 i0 _ 2 40 Tryz.underlying35 hi hz0 hz1 hz2' rfl (by decide) _ _ _ rfl HO.out ⟨vb, 0, none⟩ 1 1 vs rfl (by omega) (fun j u hj => by rw [Addr.add_lit]; exact HV.out j u hj) HV1.out (by unfold maxLen; omega) (by omega) (Nat.le_refl _) ?_)
  intro v' w3 hown' hgrow _
  have H1 := Lib.hid hown'
  have H2 := Lib.hid hgrow
  clear hown' hgrow
  go_wp2
  go_ret
  exact ⟨_, rfl, by simpa using H1.out, H2.out⟩
def RowPost (row : Rw) (w : World) (e : Ending) (w' : World) : Prop := ∃ v', e = .returned v' ∧ OwnV 74 2 w' w.heap.size v' [row] ∧ Below w.heap.size w w'
set_option maxRecDepth 100000 in
set_option maxHeartbeats 4000000 in
theorem mergedF_one (X : ByteArray) (ua : Option Addr) (un uc : Nat) (w : World) (vb : Nat) (h0 : w.cell? ⟨vb, 0, none⟩ = some (.string X)) (h1 : w.cell? ⟨vb, 1, none⟩ = some (.slice ua un uc)) :
    Calls Tryz.prog 60 #[.slice none 0 0, cpF, .slice (some ⟨vb, 0, none⟩) 1 1] w (RowPost [.string X, .slice ua un uc] w) := by
  have HP : Hid (∀ v' w', OwnV 74 2 w' w.heap.size v' [[.string X, .slice ua un uc]] → Below w.heap.size w w' → RowPost [.string X, .slice ua un uc] w (.returned v') w') := Lib.hid (fun v' w' h1 h2 => ⟨v', rfl, h1, h2⟩)
  have CL := fun W => cloneF_nil W
  have I := fun b W => idx_fr 86 #[.pointer (some ⟨w.heap.size, 0, none⟩), .pointer (some ⟨b, 0, none⟩)] (enters_of Tryz.func86 (by kernel_rfl) rfl) (fun _ => false) (.slice none 0 0) [] (by simp) W (holdF_nil W) (fun W x _ hx => by simp at hx)
  simp only [idxF_nil] at I
  have hb0 := World.block_lt_of_cell? _ _ h0
  have HC := Lib.hid (And.intro h0 h1)
  have B0 := Lib.hid ((Below.refl w.heap.size w).alloc (Nat.le_refl _) (.cells #[cpF] 90))
  clear h0 h1
  unfold cpF at B0 ⊢
  go_enter Tryz.func60, Tryz.ntmps60
  go_wp2_with (go_at_call 62; (with_reducible refine (CL _).mono ?_); rintro e w1 ⟨rfl, rfl⟩)
  go_loopw [7, 15] (fun u i wr => ∃ k : Nat, k ≤ 1 ∧ i = .int .i64 k ∧ Hid ((k = 0 → u = .slice none 0 0) ∧ (k = 1 → OwnV 74 2 wr w.heap.size u [[.string X, .slice ua un uc]])) ∧ Hid (Below w.heap.size w wr)) (fun _ i _ => 1 - (intOf i).toNat)
  case atStart => exact ⟨0, by omega, rfl, Lib.hid ⟨fun _ => rfl, fun h => by omega⟩, B0⟩
  case round =>
    obtain ⟨k, hk, rfl, HO, HB⟩ := hrel
    have hsz := HB.out.size
    by_cases hlt : k < 1
    · obtain rfl : k = 0 := by omega
      obtain rfl := HO.out.1 rfl
      obtain ⟨c0, c1⟩ := HC.out
      rw [← HB.out.cell (p := ⟨vb, 0, none⟩) hb0] at c0
      rw [← HB.out.cell (p := ⟨vb, 1, none⟩) hb0] at c1
      have HBW := Lib.hid (HB.out.alloc hsz (.cells #[.string X, .slice ua un uc] 74))
      have HX := Lib.hid (Box2.new wr (.string X) (.slice ua un uc) 74)
      clear hlt HO
      go_wp2_with (first
        | (go_at_call 77; (with_reducible refine (I _ _).mono ?_); rintro e w2 ⟨rfl, hb⟩; obtain ⟨x0, x1, -⟩ := HX.out.on hb; have HB2 := Lib.hid (HBW.out.trans (hb.mono HBW.out.size)); have HB3 := Lib.hid (HB2.out.alloc HB2.out.size (.cells #[.string X, .slice ua un uc] 74)); have hbx := boxV2 w2 (.string X) (.slice ua un uc) 74; have IN := insF_nil [.string X, .slice ua un uc] (w2.alloc (.cells #[.string X, .slice ua un uc] 74)) w2.heap.size rfl (fun j u hj => by match j, hj with | 0, hj => simp at hj; subst hj; exact hbx.1 | 1, hj => simp at hj; subst hj; exact hbx.2) (fun u hu => by simp at hu; rcases hu with rfl | rfl <;> rfl); clear hb I hbx)
        | (go_at_call 87; (with_reducible refine IN.mono ?_); rintro e w4 ⟨v4, rfl, ho, hg⟩; have HO4 := Lib.hid (OwnV.mono (T := 74) (k := 2) (rows := [[.string X, .slice ua un uc]]) ⟨fun r hr => by simp at hr; subst hr; rfl, by simpa using ho⟩ HB3.out.size); have HB4 : Hid (Below w.heap.size w w4) := Lib.hid (HB3.out.grown hg HB3.out.size (fun k hk => by cases hk)); clear ho hg IN))
      go_roundw
      case rel => exact ⟨1, by omega, by go_num, Lib.hid ⟨fun h => by omega, fun _ => HO4.out⟩, HB4⟩
      case measure => simp [intOf]
    · obtain rfl : k = 1 := by omega
      have HO2 := Lib.hid (HO.out.2 rfl)
      clear hlt HO I
      go_wp2
      go_ret
      exact HP.out _ _ HO2.out HB.out
def FirePost (T B : Bs) (w : World) (e : Ending) (w' : World) : Prop := ∃ v, e = .returned v ∧ (∃ u, HoldF w' v [((T, [B]), u)]) ∧ Below w.heap.size w w'
set_option maxRecDepth 100000 in
set_option maxHeartbeats 4000000 in
theorem fireF_nil (T B : ByteArray) (hB : B.size ≠ 0) (w : World) : Calls Tryz.prog 30 #[.slice none 0 0, .string T, .string B] w (FirePost T.data.toList B.data.toList w) := by
  have he := emptyT B
  rw [decide_eq_false hB] at he
  have A0 := (Below.refl w.heap.size w).alloc (Nat.le_refl _) (.cells #[.string B] 9)
  have HA0 := Lib.hid A0
  have HX := Lib.hid (boxV1 w (.string B) 9)
  have FI := fun W => findF_nil T W
  unfold kyF2 at FI
  have HP : Hid (∀ v' w', HoldT w' (.slice (some ⟨w.heap.size, 0, none⟩) 1 1) [B.data.toList] → HoldV 2 w' v' [[.string T, .slice (some ⟨w.heap.size, 0, none⟩) 1 1]] → Below w.heap.size w w' → FirePost T.data.toList B.data.toList w (.returned v') w') := Lib.hid (fun v' w' h1 h2 h3 => ⟨v', rfl, ⟨.slice (some ⟨w.heap.size, 0, none⟩) 1 1, fun p hp => by simp at hp; subst hp; exact h1, by show HoldV 2 w' v' [[.string (bsT T.data.toList), .slice (some ⟨w.heap.size, 0, none⟩) 1 1]]; rw [show bsT T.data.toList = T from (strOf (x := T) rfl).symm]; exact h2⟩, h3⟩)
  have HT : Hid (HoldT (w.alloc (.cells #[.string B] 9)) (.slice (some ⟨w.heap.size, 0, none⟩) 1 1) [B.data.toList]) := Lib.hid (by
    refine ⟨some ⟨w.heap.size, 0, none⟩, 1, w.heap.size, 0, rfl, Nat.le_refl _, fun _ => ⟨rfl, by simp⟩, fun j l hj => ?_⟩
    match j, hj with
    | 0, hj => simp at hj; subst hj; rw [← strOf (x := B) rfl]; exact HX.out)
  clear A0 hB
  go_enter Tryz.func30, Tryz.ntmps30
  go_wp2_with (first
    | (go_at_call 59; (with_reducible refine (FI _).mono ?_); rintro e w1 ⟨rfl, hb⟩; have HB1 := Lib.hid (HA0.out.trans (hb.mono HA0.out.size)); have HT1 := Lib.hid (HT.out.on hb); have HB2 := Lib.hid (HB1.out.alloc HB1.out.size (.cells #[.string T, .slice (some ⟨w.heap.size, 0, none⟩) 1 1] 74)); have HT2 := Lib.hid (HT1.out.on ((Below.refl w1.heap.size w1).alloc (Nat.le_refl _) (.cells #[.string T, .slice (some ⟨w.heap.size, 0, none⟩) 1 1] 74))); have hbx := boxV2 w1 (.string T) (.slice (some ⟨w.heap.size, 0, none⟩) 1 1) 74; have MG := mergedF_one T (some ⟨w.heap.size, 0, none⟩) 1 1 _ w1.heap.size hbx.1 hbx.2; unfold cpF RowPost at MG; clear hb hbx FI)
    | (go_at_call 60; (with_reducible refine MG.mono ?_); rintro e w3 ⟨v3, rfl, ho, hb⟩; have HV := Lib.hid (OwnV.holds ho); have HT3 := Lib.hid (HT2.out.on hb); have HB3 := Lib.hid (HB2.out.trans (hb.mono HB2.out.size)); clear hb ho MG))
  go_ret
  exact HP.out _ _ HT3.out HV.out HB3.out
end Go.Proofs.YtceohgjfjndcmaaGreatDoor
namespace Go.Proofs.YtceohgjfjndcmaaGreatDoor
open Go.RowKit
abbrev exTI : Bs := [47, 117, 115, 114, 32, 97, 47, 110, 111, 97, 119, 97, 105, 116, 10]
abbrev exTF : Bs := [47, 117, 115, 114, 32, 98, 10]
theorem exI_right : rightI exI = true := by decide +kernel
theorem exI_chk : chkI [exI] = 0 := chkI_ok (by decide) (fun i x hx => by
  match i, hx with
  | 0, hx => simp at hx; subst hx; exact ⟨exI_right, fun y h => by omega⟩)
theorem exI_print : printI [exI] = (exTI, 0) := by rw [printI_ok exI_chk]; rfl
theorem exI_parse : parseI exTI = some [exI] := by
  have := parse_textI exI_chk
  rwa [show textI [exI] = exTI from rfl] at this
theorem exI_small : SmallI [exI] := fun x hx => by simp at hx; subst hx; decide
theorem exF_names : chkG nameB [[98]] = 0 := chkG_ok (by decide) (fun i x hx => by
  match i, hx with
  | 0, hx => simp at hx; subst hx; exact ⟨by decide, fun y h => by omega⟩)
theorem exF_right : rightF (usrB, [[98]]) = true := by
  unfold rightF
  rw [exF_names, show trigB usrB = true by decide +kernel]; rfl
theorem exF_chk : chkF [(usrB, [[98]])] = 0 := by
  rw [chkF_calm (by rintro ⟨x, hx, h⟩; simp at hx; subst hx; simp at h)]
  refine kchkF_ok (by decide) (fun i x hx => ?_)
  match i, hx with
  | 0, hx => simp at hx; subst hx; exact ⟨exF_right, fun y h => by omega⟩
theorem exF_print : printFr [(usrB, [[98]])] = (exTF, 0) := by rw [printFr_ok exF_chk]; rfl
set_option maxRecDepth 100000 in
set_option maxHeartbeats 8000000 in
theorem awake12 (w : World) (hL : LaidP w) : Calls Tryz.prog 8 #[] w fun e w' => e = .returned (.bool true) ∧ Below w.heap.size w w' := by
  have HL := Lib.hid hL
  have PA := parseI_any ⟨#[47, 117, 115, 114, 32, 97, 47, 110, 111, 97, 119, 97, 105, 116, 10]⟩ (by decide) (by decide +kernel) w hL
  unfold PaPostI at PA
  have HPA : Hid (∀ v z (w' : World), (∀ l, parseI (ByteArray.mk #[47, 117, 115, 114, 32, 97, 47, 110, 111, 97, 119, 97, 105, 116, 10]).data.toList = some l → z = (0 : Int) ∧ HoldI w' v l) → z = 0 ∧ HoldI w' v [exI]) := Lib.hid (fun v z w' h => h _ exI_parse)
  have PR := fun v W (hb : Below w.heap.size w W) (h : HoldI W v [exI]) => printI_any v [exI] (by simp) exI_small W (hL.on hb) h
  unfold PrPostI at PR
  rw [exI_print] at PR
  have FI := fun W => fireF_nil ⟨#[47, 117, 115, 114]⟩ ⟨#[98]⟩ (by decide) W
  unfold FirePost at FI
  have PF := fun u v W (hb : Below w.heap.size w W) (h : HoldF W v [((usrB, [[98]]), u)]) => printF_any v [((usrB, [[98]]), u)] (by simp) (fun p hp => by simp at hp; subst hp; exact ⟨by simp, by simp, fun x hx => by simp at hx; subst hx; decide⟩) W (hL.on hb) h
  unfold PrPostF at PF
  simp only [List.map_cons, List.map_nil] at PF
  rw [exF_print] at PF
  have FO := fun v W (hb : Below w.heap.size w W) (h : HoldI W v [exI]) => files_one v W (hL.on hb) h
  have SA := fun u v W (h1 : HoldT W u [usrB]) (h2 : HoldT W v [usrB]) => same2_below u v [usrB] (by simp) W h1 h2
  have h45 : ∀ W : World, HoldT (W.alloc (.cells #[.string ⟨#[47, 117, 115, 114]⟩] 9)) (.slice (some ⟨W.heap.size, 0, none⟩) 1 1) [usrB] := fun W => by
    refine ⟨some ⟨W.heap.size, 0, none⟩, 1, W.heap.size, 0, rfl, Nat.le_refl _, fun _ => ⟨rfl, by simp⟩, fun j l hj => ?_⟩
    match j, hj with
    | 0, hj => simp at hj; subst hj; exact boxV1 W _ _
  have H45 := Lib.hid h45
  clear hL h45
  go_enter Tryz.func8, Tryz.ntmps8
  go_wp2_with (first
    | (go_at_call 13; (with_reducible refine PA.mono ?_); rintro e w1 ⟨v1, z1, rfl, hp, -, hb⟩; obtain ⟨rfl, hv1⟩ := HPA.out _ _ _ hp; have HV1 := Lib.hid hv1; have HB1 := Lib.hid hb; clear hb hp hv1 PA)
    | (go_at_call 9; (with_reducible refine (PR _ _ HB1.out HV1.out).mono ?_); rintro e w2 ⟨rfl, hb⟩; have HB2 := Lib.hid (HB1.out.trans (hb.mono HB1.out.size)); have HV2 := Lib.hid (HoldV.on HV1.out hb); clear hb PR)
    | (go_at_call 30; (with_reducible refine (FI _).mono ?_); rintro e w3 ⟨v3, rfl, ⟨u3, hf⟩, hb⟩; have HF3 := Lib.hid hf; have HB3 := Lib.hid (HB2.out.trans (hb.mono HB2.out.size)); have HV3 := Lib.hid (HoldV.on HV2.out hb); clear hb hf FI)
    | (go_at_call 16; (with_reducible refine (PF _ _ _ HB3.out HF3.out).mono ?_); rintro e w4 ⟨rfl, hb⟩; have HB4 := Lib.hid (HB3.out.trans (hb.mono HB3.out.size)); have HV4 := Lib.hid (HoldV.on HV3.out hb); clear hb PF)
    | (go_at_call 32; (with_reducible refine (FO _ _ HB4.out HV4.out).mono ?_); rintro e w5 ⟨v5, rfl, h5, hb⟩; obtain ⟨a5, n5, c5, rfl⟩ := HoldT.form3 h5; have HT5 := Lib.hid (h5.on ((Below.refl w5.heap.size w5).alloc (Nat.le_refl _) (.cells #[.string ⟨#[47, 117, 115, 114]⟩] 9))); have HB5 := Lib.hid (HB4.out.trans (hb.mono HB4.out.size)); have HB6 := Lib.hid (HB5.out.alloc HB5.out.size (.cells #[.string ⟨#[47, 117, 115, 114]⟩] 9)); clear hb h5 FO)
    | (go_at_call 31; (with_reducible refine (SA _ _ _ HT5.out (H45.out _)).mono ?_); rintro e w7 ⟨rfl, hb⟩; have HB7 := Lib.hid (HB6.out.trans (hb.mono HB6.out.size)); clear hb SA))
  go_ret
  exact ⟨rfl, HB7.out⟩
end Go.Proofs.YtceohgjfjndcmaaGreatDoor
