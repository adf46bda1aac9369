/-
  Steps of a pattern in memory; stand: what it returns; nothing old turns.
-/
import Derived.Test.YtapdmlejgakhaaaWMath
import Derived.Test.YtapdmlejgakhaaaRowV
import Derived.Test.YtapdmlejgakhaaaAtB
import Derived.Deep.LoopGhost
import Derived.Laws.EntriesVeiled
import Derived.Deep.RegionHeld3
import Derived.RangeFuncRecord
import Derived.Shelf.Abstract
namespace Go.Proofs.Ytapdmlejgakhaaa
open Go.RowKit
abbrev Sv := Stp × Value
abbrev rowW (x : Sv) : Rw := [.bool x.1.isStar, x.2]
/-- All blocks but those of steps are as they were. -/
def Kp (w W : World) : Prop := w.heap.size ≤ W.heap.size ∧ ∀ (k : Nat) cs t fz, w.heap[k]? = some (.cells cs t fz) → t ≠ 44 → W.heap[k]? = some (.cells cs t fz)
theorem Kp.of {w W : World} (h : Below w.heap.size w W) : Kp w W := ⟨h.size, fun k _ _ _ hk _ => (h.block k (Array.getElem?_eq_some_iff.1 hk).1).trans hk⟩
theorem Kp.trans {a b c : World} (h : Kp a b) (g : Kp b c) : Kp a c := ⟨Nat.le_trans h.1 g.1, fun k cs t fz hk ht => g.2 k cs t fz (h.2 k cs t fz hk ht) ht⟩
/-- The function value v tells of each byte what f tells, in whatever world is built upon w. -/
def FitsP (w : World) (f : UInt8 → Bool) (v : Value) : Prop := ∃ g lb, v = .func (.func g) #[] lb ∧ (∀ args w, (callFunc g args).run Try.prog w = .ok (.enter g args) w) ∧
  ∀ W (c : UInt8), Kp w W → Calls Try.prog g (#[.int .u8 c.toNat] ++ lb) W fun e w' => e = .returned (.bool (f c)) ∧ Below W.heap.size W w'
theorem FitsP.kp {w w' : World} {f : UInt8 → Bool} {v : Value} (h : FitsP w f v) (hb : Kp w w') : FitsP w' f v := by
  obtain ⟨g, lb, rfl, h1, h2⟩ := h
  exact ⟨g, lb, rfl, h1, fun W c hW => h2 W c (hb.trans hW)⟩
theorem FitsP.on {w w' : World} {f : UInt8 → Bool} {v : Value} (h : FitsP w f v) (hb : Below w.heap.size w w') : FitsP w' f v := h.kp (Kp.of hb)
def FitW (w : World) (x : Sv) : Prop := (x.1 = .star → x.2 = .nilFunc) ∧ ∀ f, x.1 = .one f → FitsP w f x.2
def HoldW (w : World) (v : Value) (l : List Sv) : Prop := HoldV 2 w v (l.map rowW) ∧ ∀ x ∈ l, FitW w x
theorem HoldW.on {w w' : World} {v : Value} {l : List Sv} (h : HoldW w v l) (hb : Below w.heap.size w w') : HoldW w' v l :=
  ⟨HoldV.on h.1 hb, fun x hx => ⟨(h.2 x hx).1, fun f hf => ((h.2 x hx).2 f hf).on hb⟩⟩
theorem HoldW.parts {w : World} {v : Value} {l : List Sv} (h : HoldW w v l) : ∃ (a : Option Addr) (c b o : Nat), v = .slice a l.length c ∧ l.length ≤ c ∧ (0 < l.length → a = some ⟨b, o, none⟩ ∧ b < w.heap.size) ∧
    ∀ (j : Nat) x, l[j]? = some x → w.cell? ⟨b, o + j * 2, none⟩ = some (.bool x.1.isStar) ∧ w.cell? ⟨b, o + j * 2 + 1, none⟩ = some x.2 := by
  obtain ⟨⟨a, c, b, o, e, hc, ha, hcell⟩, _⟩ := h
  rw [List.length_map] at e hc ha
  refine ⟨a, c, b, o, e, hc, ha, fun j x hx => ?_⟩
  have := hcell j (rowW x) (by rw [List.getElem?_map, hx]; rfl)
  exact ⟨this 0 _ (by omega) rfl, this 1 _ (by omega) rfl⟩
theorem HoldW.cut {w : World} {b o n c : Nat} {l : List Sv} (h : HoldW w (.slice (some ⟨b, o, none⟩) n c) l) (hn : l.length = n) (k : Nat) (hk : k ≤ n) (c' : Nat) (hc' : n - k ≤ c') : HoldW w (.slice (some ⟨b, o + k * 2, none⟩) (n - k) c') (l.drop k) := by
  subst hn
  have h2 := h.2
  obtain ⟨a, c0, b0, o0, e, hc, ha, hcell⟩ := h.1
  rw [List.length_map] at e hc ha
  simp only [Value.slice.injEq] at e
  obtain ⟨e1, -, -⟩ := e
  refine ⟨⟨some ⟨b, o + k * 2, none⟩, c', b, o + k * 2, by rw [List.length_map, List.length_drop], by rw [List.length_map, List.length_drop]; exact hc', fun h0 => ⟨rfl, ?_⟩, fun j r hj i y hi hy => ?_⟩, fun x hx => h2 x (List.mem_of_mem_drop hx)⟩
  · rw [List.length_map, List.length_drop] at h0
    obtain ⟨ea, hb⟩ := ha (by omega)
    rw [← e1] at ea; cases ea; exact hb
  · rw [List.getElem?_map, List.getElem?_drop] at hj
    have hl : k + j < l.length := by
      cases hx : l[k + j]? with
      | none => rw [hx] at hj; cases hj
      | some x => exact (List.getElem?_eq_some_iff.1 hx).1
    obtain ⟨ea, _⟩ := ha (by omega)
    rw [← e1] at ea; cases ea
    have := hcell (k + j) r (by rw [List.getElem?_map]; exact hj) i y hi hy
    rw [show o + k * 2 + j * 2 + i = o + (k + j) * 2 + i by omega]; exact this
theorem HoldW.none (w : World) (a : Option Addr) (c : Nat) : HoldW w (.slice a 0 c) [] := ⟨⟨a, c, 0, 0, rfl, Nat.zero_le _, fun h => absurd h (by simp), fun j r hj => by simp at hj⟩, fun x hx => by simp at hx⟩
abbrev stps (l : List Sv) : List Stp := l.map (·.1)
def StandP (l : List Stp) (s : Bs) (w : World) (e : Ending) (w' : World) : Prop := e = .returned (.bool (mB l s)) ∧ Below w.heap.size w w'
set_option maxRecDepth 100000 in
set_option maxHeartbeats 16000000 in
theorem stand_any (v : Value) (l : List Sv) (hl : l.length ≤ 100000) (s : ByteArray) (hs : s.size ≤ 100000) (w : World) (h : HoldW w v l) : Calls Try.prog 18 #[v, .string s] w (StandP (stps l) s.data.toList w) := by
  obtain ⟨R, HR⟩ : ∃ R, Hid (stB false (stps l) s.data.toList = R) := ⟨_, rfl⟩
  have hR : mB (stps l) s.data.toList = R := HR.out
  unfold StandP
  rw [hR]
  clear hR
  obtain ⟨a, c, -, -, rfl, hc0, -⟩ := h.parts
  have HH := Lib.hid h
  clear h
  go_enter Try.func18, Try.ntmps18
  go_wp2
  go_step3
  go_wp2
  go_step3
  go_wp2
  go_loopg [0, 1, 5] (l.length + s.size) (fun g x y f wr => ∃ (a : Option Addr) (c n : Nat) (L : List Sv) (S : ByteArray) (t : Bool), x = .slice a n c ∧ y = .string S ∧ f = .bool t ∧ n + S.size ≤ g ∧ n ≤ 100000 ∧ n ≤ c ∧ S.size ≤ 100000 ∧ Hid (L.length = n) ∧ Hid (stB t (stps L) S.data.toList = R) ∧ Hid (HoldW wr (.slice a n c) L) ∧ Hid (Below w.heap.size w wr))
  case atStart => exact ⟨a, c, _, l, s, false, rfl, rfl, rfl, Nat.le_refl _, hl, hc0, hs, Lib.hid rfl, HR, HH, Lib.hid (Below.refl _ _)⟩
  case round =>
    clear HR HH hl hs hc0
    obtain ⟨a, c, n, L, S, t, rfl, rfl, rfl, hg, hn, hnc, hS, HN, HR, HH, HB⟩ := hrel
    have hsz := HB.out.size
    generalize wr = wo at *
    go_wp2
    go_loopg [0, 1, 5, 10] n (fun g x y f i wx => ∃ k : Nat, k ≤ n ∧ x = .slice a n c ∧ y = .string S ∧ f = .bool t ∧ i = .int .i64 k ∧ n - k ≤ g ∧ Hid (OkT (stps L) S.data.toList k) ∧ Hid (Below wo.heap.size wo wx))
    case atStart => exact ⟨0, by omega, rfl, rfl, rfl, rfl, by omega, Lib.hid (OkT.zero _ _), Lib.hid (Below.refl _ _)⟩
    case round =>
      obtain ⟨k, hk, rfl, rfl, rfl, rfl, hg2, HO, HX⟩ := hrel
      by_cases hlt : k < n
      · have HW := HH.out.parts
        obtain ⟨a', c', b, o, e, -, ha, hcell⟩ := HW
        rw [HN.out] at e ha
        simp only [Value.slice.injEq] at e
        obtain ⟨rfl, -, rfl⟩ := e
        obtain ⟨rfl, hbw⟩ := ha (by omega)
        obtain ⟨⟨x, fv⟩, hx⟩ : ∃ x, L[k]? = some x := ⟨_, List.getElem?_eq_getElem (by rw [HN.out]; exact hlt)⟩
        obtain ⟨c0, c1⟩ := hcell k _ hx
        dsimp only at c0 c1
        rw [← HX.out.cell (p := ⟨b, o + k * 2, none⟩) hbw] at c0
        rw [← HX.out.cell (p := ⟨b, o + k * 2 + 1, none⟩) hbw] at c1
        have hsx : (stps L)[k]? = some x := by rw [List.getElem?_map, hx]; rfl
        have hkS := HO.out.le
        rw [← sizeOf] at hkS
        have hszx := HX.out.size
        have HB2 := Lib.hid (HB.out.trans (HX.out.mono hsz))
        have hfit := HH.out.2 _ (List.mem_of_getElem? hx)
        cases x with
        | star =>
          obtain rfl : fv = .nilFunc := hfit.1 rfl
          have HR2 : Hid (stB true (stps (L.drop (k + 1))) (S.extract k S.size).data.toList = R) := Lib.hid (by
            rw [extL, List.take_of_length_le (by rw [List.length_drop, ← sizeOf]; exact Nat.le_refl _), show stps (L.drop (k + 1)) = (stps L).drop (k + 1) by simp [stps], ← st_star HO.out hsx]; exact HR.out)
          have HC := Lib.hid (fun (W : World) (c' : Nat) (hW : Below wr.heap.size wr W) (hc' : n - (k + 1) ≤ c') => HoldW.cut ((HH.out.on HX.out).on hW) HN.out (k + 1) (by omega) c' hc')
          have hsz2 : (S.extract k S.size).size = S.size - k := by rw [ByteArray.size_extract]; omega
          have B1 : ∀ q, Below wr.heap.size wr ((wr.alloc (.cells #[.bool true, .nilFunc] 44)).drewN q) := fun q => belowQ ((Below.refl wr.heap.size wr).alloc (Nat.le_refl _) _) q
          have B1 : ∀ (q : Unit), Below wr.heap.size wr (wr.alloc (.cells #[.bool true, .nilFunc] 44)).drew := fun _ => B1 1
          have hszw : w.heap.size ≤ wr.heap.size := by omega
          clear hx hsx HO ha hcell
          dsimp only [Stp.isStar] at c0
          go_wp2
          go_region
          go_wp2
          · have hnk : n = k + 1 := by omega
            go_roundg ((n - (k + 1)) + (S.size - k))
            case measure => omega
            case rel => exact ⟨_, _, _, L.drop (k + 1), _, true, rfl, rfl, rfl, by omega, by omega, by omega, by omega, Lib.hid (by rw [List.length_drop, HN.out]), HR2, Lib.hid (by rw [List.drop_of_length_le (by rw [HN.out]; omega), hnk, Nat.sub_self]; exact HoldW.none _ _ _), Lib.hid (HB2.out.trans ((B1 ()).mono hszw))⟩
          · go_roundg ((n - (k + 1)) + (S.size - k))
            case measure => omega
            case rel => exact ⟨_, _, _, L.drop (k + 1), _, true, rfl, rfl, rfl, by omega, by omega, by omega, by omega, Lib.hid (by rw [List.length_drop, HN.out]), HR2, Lib.hid (HC.out _ _ (B1 ()) (by omega)), Lib.hid (HB2.out.trans ((B1 ()).mono hszw))⟩
        | one f =>
          obtain ⟨g, lb, rfl, eg, hcall⟩ := hfit.2 f rfl
          have hcall := Lib.hid (fun W c hb => hcall W c (Kp.of hb))
          dsimp only [Stp.isStar] at c0
          by_cases hkk : k = S.size
          · have HRF : Hid (false = R) := Lib.hid (by subst hkk; rw [sizeOf] at HO hsx; rw [← HR.out]; exact (st_short HO.out hsx).symm)
            have e1 : ((k : Int) == (S.size : Int)) = true := by simp [hkk]
            clear hkk
            clear HO hsx hx hcell HR HH hcall
            go_wp2
            try rw [Exit.noGoto_ret]
            go_ret
            exact ⟨retb HRF.out, by first | exact HB2.out.alloc HB2.out.size _ | exact (HB2.out.alloc HB2.out.size _).drew⟩
          have hkl : k < S.size := by omega
          have e1 : ((k : Int) == (S.size : Int)) = false := by rw [beq_eq_false_iff_ne]; omega
          have hsc : S.data.toList[k]? = some S[k] := by first | (simp [hkl]; rfl) | (rw [List.getElem?_eq_getElem (by rw [← sizeOf]; exact hkl)]; rfl)
          have B0 := (Below.refl wr.heap.size wr).alloc (Nat.le_refl _) (.cells #[.bool false, .func (.func g) #[] lb] 44)
          obtain ⟨x0, x1⟩ := boxV2 wr (.bool false) (.func (.func g) #[] lb) 44
          have hs := And.intro x1 B0
          have hCW := fun W (hb : Below wr.heap.size wr W) => hcall.out W S[k] (HX.out.trans (hb.mono hszx))
          have HFT : Hid (f S[k] = true → OkT (stps L) S.data.toList (k + 1)) := Lib.hid (fun q => HO.out.succ hsx hsc q)
          have HFF : Hid (f S[k] = false → mB (stps L) S.data.toList = false) := Lib.hid (fun q => mB_miss HO.out hsx hsc q)
          clear x0 x1 B0 hx hsx hsc HO hcall hfit hcell
          go_wp2
          generalize wr.alloc (.cells #[.bool false, .func (.func g) #[] lb] 44) = W2 at *
          obtain ⟨x1, hB⟩ := hs
          have hs := And.intro x1 hB
          have BE := fun (V : World) (h : V.cell? ⟨wr.heap.size, 1, none⟩ = some (.func (.func g) #[] lb) ∧ Below wr.heap.size wr V) => AtF.be (w := wr) (l := [(⟨wr.heap.size, 1, none⟩, .func (.func g) #[] lb)]) h
          go_region_held3 (fun V => V.cell? ⟨wr.heap.size, 1, none⟩ = some (.func (.func g) #[] lb) ∧ Below wr.heap.size wr V)
            (first | assumption | exact hs | exact AtF.dr (w := wr) (l := [(⟨wr.heap.size, 1, none⟩, .func (.func g) #[] lb)]) hs | exact AtF.dr (w := wr) (l := [(⟨wr.heap.size, 1, none⟩, .func (.func g) #[] lb)]) (by assumption) | exact AtF.on (w := wr) (l := [(⟨wr.heap.size, 1, none⟩, .func (.func g) #[] lb)]) (by assumption) (by assumption) | exact AtF.al (w := wr) (l := [(⟨wr.heap.size, 1, none⟩, .func (.func g) #[] lb)]) (by assumption) _ | exact AtF.ald (w := wr) (l := [(⟨wr.heap.size, 1, none⟩, .func (.func g) #[] lb)]) (by assumption) _ | exact AtF.al (w := wr) (l := [(⟨wr.heap.size, 1, none⟩, .func (.func g) #[] lb)]) hs _ | exact AtF.ald (w := wr) (l := [(⟨wr.heap.size, 1, none⟩, .func (.func g) #[] lb)]) hs _)
            ((go_at_fn g; (with_reducible refine (hCW _ (BE _ (by assumption))).mono ?_); rintro e w3 ⟨rfl, hb⟩))
          all_goals
            rename_i hHeld
            have HB3 := Lib.hid (BE _ hHeld)
            clear hHeld
            have hszw : w.heap.size ≤ wr.heap.size := by omega
            have HHX := Lib.hid (HH.out.on (HX.out.trans (HB3.out.mono hszx)))
            have HBX := Lib.hid (HB2.out.trans (HB3.out.mono hszw))
            have HX3 := Lib.hid (HX.out.trans (HB3.out.mono hszx))
            clear hs hB x1 c0 c1 HH HB2 HX HB3 hCW
            cases hq : f S[k]
            · have hm := HFF.out hq
              clear HFT HFF
              cases t with
              | false =>
                have HRT : Hid (false = R) := Lib.hid (by rw [← HR.out]; unfold stB; rw [if_neg (by decide)]; exact hm.symm)
                clear HR hm
                go_wp2
                try rw [Exit.noGoto_ret]
                go_ret
                exact ⟨retb HRT.out, HBX.out⟩
              | true =>
                have h0 : 0 < S.data.toList.length := by rw [← sizeOf]; omega
                have HRT : Hid (stB true (stps L) (S.extract 1 S.size).data.toList = R) := Lib.hid (by
                  rw [extL, List.take_of_length_le (by rw [List.length_drop, ← sizeOf]; exact Nat.le_refl _), ← st_skip h0 hm]; exact HR.out)
                clear HR hm h0
                go_wp2
                go_roundg (n + (S.size - 1))
                case measure => omega
                case rel => exact ⟨_, _, _, L, _, true, rfl, rfl, rfl, by rw [ByteArray.size_extract]; omega, by omega, by omega, by rw [ByteArray.size_extract]; omega, HN, HRT, HHX, HBX⟩
            · have HO2 := Lib.hid (HFT.out hq)
              clear HFT HFF
              go_wp2
              go_roundg (n - (k + 1))
              case measure => omega
              case rel => exact ⟨k + 1, by omega, rfl, rfl, rfl, by go_num, by omega, HO2, HX3⟩
      · obtain rfl : k = n := by omega
        have HLE := HO.out.le
        rw [← sizeOf] at HLE
        have HE := HO.out
        have hll : (stps L).length = k := by rw [List.length_map, HN.out]
        rw [← hll] at HE
        have HM := Lib.hid (mB_end HE)
        rw [hll, ← sizeOf] at HM
        clear HE hlt HO
        by_cases hes : S.size = k
        · have HRT : Hid (true = R) := Lib.hid (by
            rw [← HR.out]; unfold stB
            have hm := HM.out
            rw [decide_eq_true hes] at hm
            cases t with
            | false => exact hm.symm
            | true => rw [if_pos rfl]; exact (anySuf_self hm).symm)
          have e1 : ((S.size : Int) == (k : Int)) = true := by simp [hes]
          clear hes
          clear HR HM HH
          go_wp2
          try rw [Exit.noGoto_ret]
          go_ret
          exact ⟨retb HRT.out, HB.out.trans (HX.out.mono hsz)⟩
        · have e1 : ((S.size : Int) == (k : Int)) = false := by rw [beq_eq_false_iff_ne]; omega
          have hm := HM.out
          rw [decide_eq_false hes] at hm
          cases t with
          | false =>
            have HRT : Hid (false = R) := Lib.hid (by rw [← HR.out]; unfold stB; rw [if_neg (by decide)]; exact hm.symm)
            clear HR HM HH hm
            go_wp2
            try rw [Exit.noGoto_ret]
            go_ret
            exact ⟨retb HRT.out, HB.out.trans (HX.out.mono hsz)⟩
          | true =>
            have h0 : 0 < S.data.toList.length := by rw [← sizeOf]; omega
            have HRT : Hid (stB true (stps L) (S.extract 1 S.size).data.toList = R) := Lib.hid (by
              rw [extL, List.take_of_length_le (by rw [List.length_drop, ← sizeOf]; exact Nat.le_refl _), ← st_skip h0 hm]; exact HR.out)
            have HBX := Lib.hid (HB.out.trans (HX.out.mono hsz))
            have HHX := Lib.hid (HH.out.on HX.out)
            clear HR HM HH hm h0
            go_wp2
            go_roundg (k + (S.size - 1))
            case measure => omega
            case rel => exact ⟨_, _, _, L, _, true, rfl, rfl, rfl, by rw [ByteArray.size_extract]; omega, by omega, by omega, by rw [ByteArray.size_extract]; omega, HN, HRT, HHX, HBX⟩
end Go.Proofs.Ytapdmlejgakhaaa
