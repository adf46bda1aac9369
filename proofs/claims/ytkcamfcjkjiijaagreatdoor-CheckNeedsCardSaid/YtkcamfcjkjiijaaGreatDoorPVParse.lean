/-
  The reference's Parse: what it returns; nothing old turns.
-/
import Derived.Test.YtkcamfcjkjiijaaGreatDoorPVOrder
import Derived.RegionTactic
import Derived.ChangeAlike
import Derived.Deep.DeepCutAuto
import Derived.Deep.CutRange
namespace Go.Proofs.YtkcamfcjkjiijaaGreatDoor
open Go.RowKit
def verV (v : Ver) : Value := .agg #[.int .i64 v.1, .string ⟨v.2.1.toArray⟩, .string ⟨v.2.2.toArray⟩]
def parseV (l : Bs) : Value := .tuple #[verV (parseE l).1, .int .i64 (parseE l).2]
theorem colonAt_first (l : Bs) : (58 ∈ l → firstI 58 l = colonAt l ∧ colonAt l < l.length) ∧ (58 ∉ l → firstI 58 l = -1 ∧ colonAt l = l.length) := by
  constructor
  · intro h
    have h1 : firstI 58 l = colonAt l := by unfold firstI colonAt; rw [if_pos h]
    have h2 := firstI_ge (c := 58) (l := l)
    refine ⟨h1, ?_⟩
    rcases h2 with h2 | h2
    · omega
    · rw [h2.1] at h; cases h
  · intro h
    exact ⟨firstI_no h, colonAt_no l h⟩
theorem hyAt_last (l : Bs) : (hyAt l : Int) = lastI 45 l + 1 := by
  have := takeWhile_le (fun x => decide (x ≠ 45)) l.reverse
  rw [List.length_reverse] at this
  unfold hyAt lastI; omega
def ParsePost (l : Bs) (w : World) (e : Ending) (w' : World) : Prop := e = .returned (parseV l) ∧ Below w.heap.size w w'
theorem parseV_long {l : Bs} (h : 80 < l.length) : parseV l = .tuple #[.agg #[.int .i64 0, .string ⟨#[]⟩, .string ⟨#[]⟩], .int .i64 8] := by unfold parseV parseE; rw [if_pos h]; rfl
theorem parseV_none {l : Bs} (h : ¬ 80 < l.length) (g : verOf l = none) : parseV l = .tuple #[.agg #[.int .i64 0, .string ⟨#[]⟩, .string ⟨#[]⟩], .int .i64 2] := by unfold parseV parseE; rw [if_neg h, g]; rfl
theorem parseV_some {l : Bs} {v : Ver} (h : ¬ 80 < l.length) (g : verOf l = some v) : parseV l = .tuple #[verV v, .int .i64 0] := by unfold parseV parseE; rw [if_neg h, g]
/-- How the text goes on behind the epoch: each check in its order. -/
inductive Rest (e : Int) (m l : Bs) : Option Ver → Prop
  | empty (h : (cutHy l).1 = []) : Rest e m l none
  | head (c : UInt8) (t : Bs) (h : (cutHy l).1 = c :: t) (g : dgB c = false) : Rest e m l none
  | up (c : UInt8) (t : Bs) (h : (cutHy l).1 = c :: t) (g : dgB c = true) (u : onlyB m (cutHy l).1 = false) : Rest e m l none
  | rev0 (c : UInt8) (t : Bs) (h : (cutHy l).1 = c :: t) (g : dgB c = true) (u : onlyB m (cutHy l).1 = true) (r : (cutHy l).2 = []) : Rest e m l none
  | rev (c : UInt8) (t : Bs) (h : (cutHy l).1 = c :: t) (g : dgB c = true) (u : onlyB m (cutHy l).1 = true) (r : (cutHy l).2 ≠ []) (o : onlyB [46, 43, 126] (cutHy l).2 = false) : Rest e m l none
  | ok (c : UInt8) (t : Bs) (h : (cutHy l).1 = c :: t) (g : dgB c = true) (u : onlyB m (cutHy l).1 = true) (r : (cutHy l).2 ≠ []) (o : onlyB [46, 43, 126] (cutHy l).2 = true) : Rest e m l (some (e, cutHy l))
theorem rest_is (e : Int) (m l : Bs) : Rest e m l (restV e m l) := by
  unfold restV
  cases h : (cutHy l).1 with
  | nil => rw [if_neg (fun x => by simp [headDg] at x)]; exact .empty h
  | cons c t =>
    cases g : dgB c
    · rw [if_neg (fun x => by simp [headDg, g] at x)]; exact .head c t h g
    · cases u : onlyB m (c :: t)
      · rw [if_neg (fun x => by simp at x)]; exact .up c t h g (by rw [h]; exact u)
      · by_cases r : (cutHy l).2 = []
        · rw [if_neg (fun x => x.2.2.1 r)]; exact .rev0 c t h g (by rw [h]; exact u) r
        · cases o : onlyB [46, 43, 126] (cutHy l).2
          · rw [if_neg (fun x => by simp at x)]; exact .rev c t h g (by rw [h]; exact u) r o
          · rw [if_pos ⟨g, rfl, r, rfl⟩]; exact .ok c t h g (by rw [h]; exact u) r o

theorem setQ (w : World) (n : Nat) (a : Addr) (v : Value) : (w.drewN n).setCell a v = (w.setCell a v).drewN n := by
  induction n with
  | zero => rfl
  | succ n ih => first | rfl | (rw [World.drewN, World.setCell_drew, ih]; rfl)
theorem setZ (w : World) (z v : Int) (q : Nat) : ((((w.alloc (.cells #[.int .i64 0, .string ⟨#[]⟩, .string ⟨#[]⟩] 147)).alloc (.cells #[.int .i64 z, .string ⟨#[]⟩, .string ⟨#[48]⟩] 147)).alloc (.cells #[.int .i64 0, .string ⟨#[]⟩, .string ⟨#[]⟩] 147)).drewN q).setCell ⟨w.heap.size + 1, 0, none⟩ (.int .i64 v) = (((w.alloc (.cells #[.int .i64 0, .string ⟨#[]⟩, .string ⟨#[]⟩] 147)).alloc (.cells #[.int .i64 v, .string ⟨#[]⟩, .string ⟨#[48]⟩] 147)).alloc (.cells #[.int .i64 0, .string ⟨#[]⟩, .string ⟨#[]⟩] 147)).drewN q := by
  rw [setQ, World.setCell_alloc_past _ _ _ _ (by simp), World.setCell_alloc_at _ _ _ _ _ (by simp)]
  simp
/-- What becomes of a text, by where its first colon is. -/
theorem verOf_ways (l : Bs) : (firstI 58 l = -1 ∧ verOf l = restV 0 [46, 43, 45, 126] l) ∨ ∃ k : Nat, firstI 58 l = k ∧ k < l.length ∧ ((k < 1 ∨ 9 < k) → verOf l = none) ∧
    (1 ≤ k → k ≤ 9 → ((l.take k).all dgB = true → verOf l = restV (epochOf (l.take k)) [46, 43, 45, 126, 58] (l.drop (k + 1))) ∧ ((l.take k).all dgB = false → verOf l = none)) := by
  obtain ⟨h1, h2⟩ := colonAt_first l
  by_cases h : (58 : UInt8) ∈ l
  · obtain ⟨a, b⟩ := h1 h
    right
    refine ⟨colonAt l, a, b, fun g => ?_, fun g1 g2 => ⟨fun g => ?_, fun g => ?_⟩⟩
    · unfold verOf; rw [if_pos b, if_neg (fun x => by omega)]
    · unfold verOf; rw [if_pos b, if_pos ⟨g1, g2, g⟩]
    · unfold verOf; rw [if_pos b, if_neg (fun x => by rw [g] at x; simp at x)]
  · obtain ⟨a, b⟩ := h2 h
    left
    refine ⟨a, ?_⟩
    unfold verOf; rw [if_neg (by omega)]
def AtTail (s l m : ByteArray) (e : Int) : Prop := verOf s.data.toList = restV e m.data.toList l.data.toList
def Cut2 (l U V : ByteArray) : Prop := cutHy l.data.toList = (U.data.toList, V.data.toList)
theorem ext_all (s : ByteArray) (k : Nat) : (s.extract k s.size).data.toList = s.data.toList.drop k := by
  rw [extL, List.take_of_length_le (by rw [List.length_drop, sizeOf]; omega)]
theorem cut_none {l : ByteArray} (h : lastI 45 l.data.toList < 0) : Cut2 l l ⟨#[48]⟩ := by
  have := hyAt_last l.data.toList
  unfold Cut2 cutHy
  rw [if_pos (by omega)]
theorem cut_some {l : ByteArray} {k : Nat} (h : lastI 45 l.data.toList = k) : Cut2 l (l.extract 0 k) (l.extract (k + 1) l.size) := by
  have := hyAt_last l.data.toList
  unfold Cut2 cutHy
  have e : hyAt l.data.toList = k + 1 := by omega
  rw [e, if_neg (by omega), ext_all, extL]
  simp
theorem epoch_take {s : ByteArray} {j : Nat} (hj : j ≤ 8) (h : (s.data.toList.take j).all dgB = true) : 0 ≤ epochOf (s.data.toList.take j) ∧ epochOf (s.data.toList.take j) ≤ 100000000 := by
  have h1 := epoch_bd _ h
  have h2 : (10 : Int) ^ (s.data.toList.take j).length ≤ 10 ^ 8 := by
    have h3 : (s.data.toList.take j).length ≤ 8 := by rw [List.length_take]; omega
    exact_mod_cast Nat.pow_le_pow_right (n := 10) (by decide) h3
  have e : (10 : Int) ^ 8 = 100000000 := by decide
  omega
def parsedV (o : Option Ver) : Value := match o with
  | none => .tuple #[.agg #[.int .i64 0, .string ⟨#[]⟩, .string ⟨#[]⟩], .int .i64 2]
  | some v => .tuple #[verV v, .int .i64 0]
theorem verOf_parse {s l m : ByteArray} {e : Int} {o : Option Ver} (hs : ¬ 80 < s.data.toList.length) (ht : AtTail s l m e) (hr : restV e m.data.toList l.data.toList = o) : parseV s.data.toList = parsedV o := by
  have h : verOf s.data.toList = o := ht.trans hr
  cases o with
  | none => exact parseV_none hs h
  | some v => exact parseV_some hs h
set_option maxRecDepth 100000 in
set_option maxHeartbeats 8000000 in
theorem parse_ref (s : ByteArray) (hs : s.size ≤ 4000) (w : World) : Calls Tryz.prog 107 #[.string s] w (ParsePost s.data.toList w) := by
  have hl := sizeOf s
  have C1 := fun c w => digit_ref c w
  have C2 := fun (x : ByteArray) (hx : x.size ≤ 4000) w => only_ref x ⟨#[46, 43, 126]⟩ (by omega) (by decide) w
  have C3 := fun (x m : ByteArray) (hx : x.size ≤ 4000) (hm : m.size ≤ 4000) w => only_ref x m (by omega) (by omega) w
  have C4 := fun (x : ByteArray) (hx : x.size ≤ 4000) w => atLast_ref x (by omega) 45 w
  by_cases h80 : 80 < s.size
  · have HP : Hid (∀ e w', e = .returned (.tuple #[.agg #[.int .i64 0, .string ⟨#[]⟩, .string ⟨#[]⟩], .int .i64 8]) → Below w.heap.size w w' → ParsePost s.data.toList w e w') := Lib.hid (fun e w' h g => ⟨by rw [parseV_long (by omega)]; exact h, g⟩)
    clear C1 C2 C3 C4 hl
    go_enter Tryz.func107, Tryz.ntmps107
    go_wp2
    exact bodyPost_ret (v := .tuple #[.agg #[.int .i64 0, .string ⟨#[]⟩, .string ⟨#[]⟩], .int .i64 8]) (by simp [results, Tryz.results107, go_sem]) rfl (HP.out _ _ rfl ((((Below.refl _ _).alloc (Nat.le_refl _) _).alloc (by simp) _).alloc (by simp; omega) _))
  · have C58 := fun w => atFirst_ref s (by omega) 58 w
    have hways := verOf_ways s.data.toList
    have hN : verOf s.data.toList = none → parseV s.data.toList = .tuple #[.agg #[.int .i64 0, .string ⟨#[]⟩, .string ⟨#[]⟩], .int .i64 2] := parseV_none (by omega)
    have HN : Hid (verOf s.data.toList = none → ∀ e w', e = .returned (.tuple #[.agg #[.int .i64 0, .string ⟨#[]⟩, .string ⟨#[]⟩], .int .i64 2]) → Below w.heap.size w w' → ParsePost s.data.toList w e w') := Lib.hid (fun hv e w' h g => ⟨by rw [hN hv]; exact h, g⟩)
    have HV : Hid (∀ (l m : ByteArray) (e : Int) (o : Option Ver), AtTail s l m e → restV e m.data.toList l.data.toList = o → parseV s.data.toList = parsedV o) := Lib.hid (fun l m e o h1 h2 => verOf_parse (by omega) h1 h2)
    generalize firstI 58 s.data.toList = zc at C58 hways
    have HW := Lib.hid hways
    have hzb : -1 ≤ zc ∧ zc < 4000 := by rcases hways with ⟨h, _⟩ | ⟨k, h, h2, _⟩ <;> omega
    obtain ⟨hzb1, hzb2⟩ := hzb
    clear hN hways hl
    go_enter Tryz.func107, Tryz.ntmps107
    go_upto_if 21 with (first | (go_at_call 127; refine (C58 _).mono ?_; rintro e w1 ⟨rfl, rfl⟩))
    go_cut [7, 8] (fun s7 s8 wx => ∃ (m l : ByteArray) (e : Int) (q : Nat), s7 = .string m ∧ s8 = .string l ∧ m.size ≤ 4000 ∧ l.size ≤ 4000 ∧ Hid (AtTail s l m e) ∧ wx = (((w.alloc (.cells #[.int .i64 0, .string ⟨#[]⟩, .string ⟨#[]⟩] 147)).alloc (.cells #[.int .i64 e, .string ⟨#[]⟩, .string ⟨#[48]⟩] 147)).alloc (.cells #[.int .i64 0, .string ⟨#[]⟩, .string ⟨#[]⟩] 147)).drewN q)
    case first =>
      clear C58 C2 C3 C4
      rcases HW.out with ⟨h, hv⟩ | ⟨k, h, hk, hbad, hgood⟩
      · subst h
        have HT : Hid (AtTail s s ⟨#[46, 43, 45, 126]⟩ 0) := Lib.hid hv
        clear HW hv
        go_wp2
        go_meet
        case rel => exact ⟨⟨#[46, 43, 45, 126]⟩, s, 0, 0, rfl, rfl, by decide, hs, HT, rfl⟩
      · subst h
        have hks : k < s.size := by rw [sizeOf]; exact hk
        by_cases hb : k < 1 ∨ 9 < k
        · have HB := Lib.hid (hbad hb)
          clear HW hbad hgood hk
          by_cases hb1 : k < 1
          all_goals
            go_wp2
            exact bodyPost_ret (v := .tuple #[.agg #[.int .i64 0, .string ⟨#[]⟩, .string ⟨#[]⟩], .int .i64 2]) (by simp [results, Tryz.results107, go_sem]) rfl (HN.out HB.out _ _ rfl ((((Below.refl _ _).alloc (Nat.le_refl _) _).alloc (by simp) _).alloc (by simp; omega) _))
        · have hk1 : 1 ≤ k := by omega
          have hk9 : k ≤ 9 := by omega
          have HG := Lib.hid (hgood hk1 hk9)
          clear HW hbad hgood hk hb
          go_wp2
          go_loopw [9] (fun i wr => ∃ (j : Nat) (z : Int) (q : Nat), j ≤ k ∧ i = .int .i64 j ∧ Hid (z = epochOf (s.data.toList.take j) ∧ (s.data.toList.take j).all dgB = true) ∧ wr = (((w.alloc (.cells #[.int .i64 0, .string ⟨#[]⟩, .string ⟨#[]⟩] 147)).alloc (.cells #[.int .i64 z, .string ⟨#[]⟩, .string ⟨#[48]⟩] 147)).alloc (.cells #[.int .i64 0, .string ⟨#[]⟩, .string ⟨#[]⟩] 147)).drewN q) (fun i _ => k - (intOf i).toNat)
          case atStart => exact ⟨0, 0, 0, by omega, rfl, Lib.hid ⟨rfl, rfl⟩, rfl⟩
          case round =>
            obtain ⟨j, z, q, hj, rfl, H, rfl⟩ := hrel
            by_cases hjk : j < k
            · have hx := s[j].toNat_lt
              have D := C1 s[j]
              have hzz := epoch_take (s := s) (j := j) (by omega) H.out.2
              rw [← H.out.1] at hzz
              obtain ⟨hz1, hz2⟩ := hzz
              have hjs : j < s.size := by omega
              cases hd : dgB s[j]
              · rw [hd] at D
                have HB := Lib.hid (HG.out.2 (by
                  rw [List.all_eq_false]
                  refine ⟨s[j], ?_, by simp [hd]⟩
                  have h1 := takeSn s j hjs
                  have h2 : s.data.toList.take (j + 1) = (s.data.toList.take k).take (j + 1) := by rw [List.take_take]; congr 1; omega
                  exact List.mem_of_mem_take (by rw [← h2, h1]; simp)))
                clear hd HG H
                have hsq : ∀ (x : World) (n : Nat) (a : Addr) (v : Value), (x.drewN n).setCell a v = (x.setCell a v).drewN n := setQ
                go_wp2_with (first | (go_at_call 128; refine (D _).mono ?_; rintro e w1 ⟨rfl, rfl⟩))
                exact bodyPost_ret (v := .tuple #[.agg #[.int .i64 0, .string ⟨#[]⟩, .string ⟨#[]⟩], .int .i64 2]) (by simp [results, Tryz.results107, go_sem]) rfl (HN.out HB.out _ _ rfl (belowQ ((((Below.refl _ _).alloc (Nat.le_refl _) _).alloc (by simp) _).alloc (by simp; omega) _) _))
              · rw [hd] at D
                have HH : Hid (10 * z + (s[j].toNat : Int) - 48 = epochOf (s.data.toList.take (j + 1)) ∧ (s.data.toList.take (j + 1)).all dgB = true) := Lib.hid ⟨by rw [takeSn s j hjs, epochOf_snoc, ← H.out.1], allNx hjs H.out.2 hd⟩
                clear hd H
                go_wp2_with (first | (go_at_call 128; refine (D _).mono ?_; rintro e w1 ⟨rfl, rfl⟩))
                go_region
                go_wp2
                go_roundw
                case rel => exact ⟨j + 1, _, q + 1, by omega, by go_num, HH, setZ _ _ _ _⟩
                case measure => simp [intOf]; omega
            · obtain rfl : j = k := by omega
              have HT : Hid (AtTail s (s.extract (j + 1) s.size) ⟨#[46, 43, 45, 126, 58]⟩ z) := Lib.hid (by
                have := HG.out.1 H.out.2
                unfold AtTail
                rw [this, H.out.1, ext_all])
              clear HG H hjk
              go_wp2
              go_meet
              case rel => exact ⟨_, _, z, q, rfl, rfl, by decide, by rw [ByteArray.size_extract]; omega, HT, rfl⟩
    case rest =>
      obtain ⟨m, l, e, q, rfl, rfl, hm, hll, HT, rfl⟩ := hcut
      have hsq : ∀ (x : World) (n : Nat) (a : Addr) (v : Value), (x.drewN n).setCell a v = (x.setCell a v).drewN n := setQ
      have D4 := C4 l hll
      have hlb := lastI_bd 45 l.data.toList
      have hlz := sizeOf l
      have HC : Hid ((lastI 45 l.data.toList < 0 → Cut2 l l ⟨#[48]⟩) ∧ ∀ k : Nat, lastI 45 l.data.toList = k → Cut2 l (l.extract 0 k) (l.extract (k + 1) l.size)) := Lib.hid ⟨cut_none, fun k => cut_some⟩
      generalize lastI 45 l.data.toList = zh at D4 hlb HC
      have hzh : -1 ≤ zh ∧ (zh < l.size ∨ zh = -1) := by rcases hlb with h | h <;> omega
      obtain ⟨hzh1, hzh2⟩ := hzh
      clear hlb hlz HN
      go_upto_if 59 with (first | (go_at_call 127; refine (D4 _).mono ?_; rintro e1 w1 ⟨rfl, rfl⟩))
      go_cut [] (fun wx => ∃ (U V : ByteArray), U.size ≤ 4000 ∧ V.size ≤ 4000 ∧ Hid (Cut2 l U V) ∧ wx = (((w.alloc (.cells #[.int .i64 0, .string ⟨#[]⟩, .string ⟨#[]⟩] 147)).alloc (.cells #[.int .i64 e, .string U, .string V] 147)).alloc (.cells #[.int .i64 0, .string ⟨#[]⟩, .string ⟨#[]⟩] 147)).drewN q)
      case first =>
        clear D4 C1 C2 C3 C4 C58
        by_cases hz : zh < 0
        · have HU := Lib.hid (HC.out.1 hz)
          clear HC
          go_wp2
          go_meet
          case rel => exact ⟨l, ⟨#[48]⟩, hll, by decide, HU, rfl⟩
        · obtain ⟨k, rfl⟩ : ∃ k : Nat, zh = k := ⟨zh.toNat, by omega⟩
          have HU := Lib.hid (HC.out.2 k rfl)
          have hk : k < l.size := by omega
          clear HC hzh1 hzh2 hz
          go_wp2
          go_meet
          case rel => exact ⟨l.extract 0 k, l.extract (k + 1) l.size, by rw [ByteArray.size_extract]; omega, by rw [ByteArray.size_extract]; omega, HU, rfl⟩
      case rest =>
        obtain ⟨U, V, hU, hV, HU, rfl⟩ := hcut
        clear D4 C4 C58 HC hzh1 hzh2 HW hzb1 hzb2
        have hr := rest_is e m.data.toList l.data.toList
        have HO := Lib.hid (HV.out l m e (restV e m.data.toList l.data.toList) HT.out rfl)
        have hU1 := sizeOf U
        have hV1 := sizeOf V
        have D2 := C3 U m hU hm
        have D3 := C2 V hV
        have hcu : cutHy l.data.toList = (U.data.toList, V.data.toList) := HU.out
        clear HU HV HT C2 C3
        generalize restV e m.data.toList l.data.toList = o at hr HO
        have key : ∀ (c : UInt8) (t : Bs), U.data.toList = c :: t → ∃ h0 : 0 < U.size, U[0] = c := fun c t h => by
          have h0 : 0 < U.size := by rw [hU1, h]; simp
          have := dropC U 0 h0
          rw [List.drop_zero, h] at this
          exact ⟨h0, by injection this with a _; exact a.symm⟩
        cases hr with
        | empty h =>
          rw [hcu] at h
          have h1 : U.size = 0 := by rw [hU1]; simp only [] at h; rw [h]; rfl
          have e1 : U.toList.isEmpty = true := by rw [emptyT, decide_eq_true h1]
          clear h h1 hU1 hV1 key hcu D2 D3 C1
          go_wp2
          exact bodyPost_ret (v := .tuple #[.agg #[.int .i64 0, .string ⟨#[]⟩, .string ⟨#[]⟩], .int .i64 2]) (by simp [results, Tryz.results107, go_sem]) rfl ⟨congrArg Ending.returned HO.out.symm, belowQ ((((Below.refl _ _).alloc (Nat.le_refl _) _).alloc (by simp) _).alloc (by simp; omega) _) _⟩
        | head c t h g =>
          rw [hcu] at h
          obtain ⟨h0, hx⟩ := key c t h
          have e1 : U.toList.isEmpty = false := by rw [emptyT, decide_eq_false (by omega)]
          have hc := U[0].toNat_lt
          have D1 := C1 U[0]
          rw [hx, g, ← hx] at D1
          clear h hx hU1 hV1 key hcu D2 D3 C1
          go_wp2_with (first | (go_at_call 128; refine (D1 _).mono ?_; rintro e1 w1 ⟨rfl, rfl⟩) | (go_at_call 129; refine (D2 _).mono ?_; clear D2; rintro e1 w1 ⟨rfl, rfl⟩) | (go_at_call 129; refine (D3 _).mono ?_; rintro e1 w1 ⟨rfl, rfl⟩))
          exact bodyPost_ret (v := .tuple #[.agg #[.int .i64 0, .string ⟨#[]⟩, .string ⟨#[]⟩], .int .i64 2]) (by simp [results, Tryz.results107, go_sem]) rfl ⟨congrArg Ending.returned HO.out.symm, belowQ ((((Below.refl _ _).alloc (Nat.le_refl _) _).alloc (by simp) _).alloc (by simp; omega) _) _⟩
        | up c t h g u =>
          rw [hcu] at h u
          obtain ⟨h0, hx⟩ := key c t h
          have e1 : U.toList.isEmpty = false := by rw [emptyT, decide_eq_false (by omega)]
          have hc := U[0].toNat_lt
          have D1 := C1 U[0]
          rw [hx, g, ← hx] at D1
          rw [u] at D2
          clear h hx hU1 hV1 key hcu D3 C1 u
          go_wp2_with (first | (go_at_call 128; refine (D1 _).mono ?_; rintro e1 w1 ⟨rfl, rfl⟩) | (go_at_call 129; refine (D2 _).mono ?_; clear D2; rintro e1 w1 ⟨rfl, rfl⟩) | (go_at_call 129; refine (D3 _).mono ?_; rintro e1 w1 ⟨rfl, rfl⟩))
          exact bodyPost_ret (v := .tuple #[.agg #[.int .i64 0, .string ⟨#[]⟩, .string ⟨#[]⟩], .int .i64 2]) (by simp [results, Tryz.results107, go_sem]) rfl ⟨congrArg Ending.returned HO.out.symm, belowQ ((((Below.refl _ _).alloc (Nat.le_refl _) _).alloc (by simp) _).alloc (by simp; omega) _) _⟩
        | rev0 c t h g u r =>
          rw [hcu] at h u r
          obtain ⟨h0, hx⟩ := key c t h
          have e1 : U.toList.isEmpty = false := by rw [emptyT, decide_eq_false (by omega)]
          have h2 : V.size = 0 := by rw [hV1]; simp only [] at r; rw [r]; rfl
          have e2 : V.toList.isEmpty = true := by rw [emptyT, decide_eq_true h2]
          have hc := U[0].toNat_lt
          have D1 := C1 U[0]
          rw [hx, g, ← hx] at D1
          rw [u] at D2
          clear h hx hU1 hV1 key hcu D3 C1 u r h2
          go_wp2_with (first | (go_at_call 128; refine (D1 _).mono ?_; rintro e1 w1 ⟨rfl, rfl⟩) | (go_at_call 129; refine (D2 _).mono ?_; clear D2; rintro e1 w1 ⟨rfl, rfl⟩) | (go_at_call 129; refine (D3 _).mono ?_; rintro e1 w1 ⟨rfl, rfl⟩))
          exact bodyPost_ret (v := .tuple #[.agg #[.int .i64 0, .string ⟨#[]⟩, .string ⟨#[]⟩], .int .i64 2]) (by simp [results, Tryz.results107, go_sem]) rfl ⟨congrArg Ending.returned HO.out.symm, belowQ ((((Below.refl _ _).alloc (Nat.le_refl _) _).alloc (by simp) _).alloc (by simp; omega) _) _⟩
        | rev c t h g u r ov =>
          rw [hcu] at h u r ov
          obtain ⟨h0, hx⟩ := key c t h
          have e1 : U.toList.isEmpty = false := by rw [emptyT, decide_eq_false (by omega)]
          have h2 : ¬ V.size = 0 := fun x => r (List.eq_nil_of_length_eq_zero (by rw [← hV1]; exact x))
          have e2 : V.toList.isEmpty = false := by rw [emptyT, decide_eq_false h2]
          have hc := U[0].toNat_lt
          have D1 := C1 U[0]
          rw [hx, g, ← hx] at D1
          rw [u] at D2
          rw [show onlyB (ByteArray.mk #[46, 43, 126]).data.toList V.data.toList = false from ov] at D3
          clear h hx hU1 hV1 key hcu C1 u r h2 ov
          go_wp2_with (first | (go_at_call 128; refine (D1 _).mono ?_; rintro e1 w1 ⟨rfl, rfl⟩) | (go_at_call 129; refine (D2 _).mono ?_; clear D2; rintro e1 w1 ⟨rfl, rfl⟩) | (go_at_call 129; refine (D3 _).mono ?_; rintro e1 w1 ⟨rfl, rfl⟩))
          exact bodyPost_ret (v := .tuple #[.agg #[.int .i64 0, .string ⟨#[]⟩, .string ⟨#[]⟩], .int .i64 2]) (by simp [results, Tryz.results107, go_sem]) rfl ⟨congrArg Ending.returned HO.out.symm, belowQ ((((Below.refl _ _).alloc (Nat.le_refl _) _).alloc (by simp) _).alloc (by simp; omega) _) _⟩
        | ok c t h g u r ov =>
          rw [hcu] at h u r ov HO
          obtain ⟨h0, hx⟩ := key c t h
          have e1 : U.toList.isEmpty = false := by rw [emptyT, decide_eq_false (by omega)]
          have h2 : ¬ V.size = 0 := fun x => r (List.eq_nil_of_length_eq_zero (by rw [← hV1]; exact x))
          have e2 : V.toList.isEmpty = false := by rw [emptyT, decide_eq_false h2]
          have hc := U[0].toNat_lt
          have D1 := C1 U[0]
          rw [hx, g, ← hx] at D1
          rw [u] at D2
          rw [show onlyB (ByteArray.mk #[46, 43, 126]).data.toList V.data.toList = true from ov] at D3
          have HF : Hid (Value.tuple #[.agg #[.int .i64 e, .string U, .string V], .int .i64 0] = parseV s.data.toList) := Lib.hid (by
            rw [HO.out]
            show _ = Value.tuple #[verV (e, U.data.toList, V.data.toList), .int .i64 0]
            unfold verV
            rw [← strOf (x := U) rfl, ← strOf (x := V) rfl])
          clear h hx hU1 hV1 key hcu C1 u r h2 ov HO
          go_wp2_with (first | (go_at_call 128; refine (D1 _).mono ?_; rintro e1 w1 ⟨rfl, rfl⟩) | (go_at_call 129; refine (D2 _).mono ?_; clear D2; rintro e1 w1 ⟨rfl, rfl⟩) | (go_at_call 129; refine (D3 _).mono ?_; rintro e1 w1 ⟨rfl, rfl⟩))
          exact bodyPost_ret (v := .tuple #[.agg #[.int .i64 e, .string U, .string V], .int .i64 0]) (by simp [results, Tryz.results107, go_sem]) rfl ⟨congrArg Ending.returned HF.out, belowQ ((((Below.refl _ _).alloc (Nat.le_refl _) _).alloc (by simp) _).alloc (by simp; omega) _) _⟩
end Go.Proofs.YtkcamfcjkjiijaaGreatDoor
