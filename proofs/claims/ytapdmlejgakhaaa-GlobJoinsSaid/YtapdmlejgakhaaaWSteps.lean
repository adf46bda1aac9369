/-
  steps of a pattern: what it returns; nothing old turns.
-/
import Derived.Test.YtapdmlejgakhaaaWFirst
namespace Go.Proofs.Ytapdmlejgakhaaa
open Go.RowKit
theorem infoW : (Try.prog.info? 44).map (fun i => (i.zero, i.size, i.bytes)) = some (some (.agg #[.bool false, .nilFunc]), 2, 16) := by kernel_rfl
abbrev OwnW (w : World) (base : Nat) (v : Value) (L : List Sv) : Prop := OwnV 44 2 w base v (L.map rowW)
theorem kp_grown {w w' : World} {o : Obj} {base : Nat} {v : Value} {rows : List Rw} (h : OwnV 44 2 w base v rows) (hg : (w.alloc o).grownBy w' v.ownBlock) : Kp w w' := by
  refine ⟨Nat.le_trans (by rw [World.size_alloc]; omega) hg.size, fun k cs t fz hk ht => ?_⟩
  have hl := (Array.getElem?_eq_some_iff.1 hk).1
  have h1 : (w.alloc o).heap[k]? = w.heap[k]? := ((Below.refl w.heap.size w).alloc (Nat.le_refl _) o).block k hl
  rw [← hk, ← h1]
  refine hg.block k (by rw [World.size_alloc]; omega) (fun e => ?_)
  rcases h.2.2 with ⟨rfl, _⟩ | ⟨g, cap, cur, rfl, _, hgg, _⟩
  · cases e
  · simp only [Value.ownBlock, Option.some.injEq] at e
    subst e
    rw [hk] at hgg
    exact ht (by cases hgg; rfl)
theorem firstP_some {s : Bs} {x : Stp} {r : Bs} (h : firstL s = some (x, r)) {w w' : World} {e : Ending} (hp : FirstP s w e w') : (∃ fv, e = .returned (.tuple #[.agg #[.bool x.isStar, fv], .string (bsT r), .bool true]) ∧ FitW w' (x, fv)) ∧ Below w.heap.size w w' := by
  unfold FirstP at hp; rw [h] at hp; exact hp
theorem firstP_none {s : Bs} (h : firstL s = none) {w w' : World} {e : Ending} (hp : FirstP s w e w') : (∃ b v t, e = .returned (.tuple #[.agg #[.bool b, v], .string t, .bool false]) ∧ (v = .nilFunc ∨ ∃ g lb, v = .func (.func g) #[] lb)) ∧ Below w.heap.size w w' := by
  unfold FirstP at hp; rw [h] at hp; exact hp
def StepsP (s : Bs) (w : World) (e : Ending) (w' : World) : Prop := (match stepsL s with
  | some l => ∃ v L, e = .returned (.tuple #[v, .bool true]) ∧ stps L = l ∧ HoldW w' v L
  | none => e = .returned (.tuple #[.slice none 0 0, .bool false])) ∧ Below w.heap.size w w'
/-- What the steps behind L come to. -/
def restW (L : List Sv) (s : Bs) : Option (List Stp) := (stepsGo s.length s).map (stps L ++ ·)
theorem restW_end (L : List Sv) : restW L [] = some (stps L) := by simp [restW, stepsGo]
theorem restW_bad {L : List Sv} {c : UInt8} {t : Bs} (h : firstL (c :: t) = none) : restW L (c :: t) = none := by
  unfold restW; rw [List.length_cons, stepsGo, h]; rfl
theorem restW_step {L : List Sv} {c : UInt8} {t r : Bs} {x : Stp} (v : Value) (h : firstL (c :: t) = some (x, r)) : restW L (c :: t) = restW (L ++ [(x, v)]) r := by
  have hl := firstL_len h
  unfold restW
  rw [List.length_cons, stepsGo, h, Option.bind_some]
  simp only []
  rw [stepsGo_more (n := t.length) (m := r.length) (by simp at hl; omega) (Nat.le_refl _)]
  cases stepsGo r.length r with
  | none => rfl
  | some l => simp [stps]
theorem fit_kp {w w' : World} {L : List Sv} (h : ∀ x ∈ L, FitW w x) (hk : Kp w w') : ∀ x ∈ L, FitW w' x := fun x hx => ⟨(h x hx).1, fun f hf => ((h x hx).2 f hf).kp hk⟩
theorem fit_snoc {w : World} {L : List Sv} {x : Sv} (h : ∀ x ∈ L, FitW w x) (hx : FitW w x) : ∀ y ∈ L ++ [x], FitW w y := fun y hy => by
  rcases List.mem_append.1 hy with h1 | h1
  · exact h y h1
  · rw [List.mem_singleton.1 h1]; exact hx
set_option maxRecDepth 100000 in
set_option maxHeartbeats 16000000 in
theorem steps_any (s : ByteArray) (w : World) : Calls Try.prog 12 #[.string s] w (StepsP s.data.toList w) := by
  by_cases hbig : 200 < s.size
  · have HP : Hid (∀ w', Below w.heap.size w w' → StepsP s.data.toList w (.returned (.tuple #[.slice none 0 0, .bool false])) w') := Lib.hid (fun w' hb => by
      unfold StepsP stepsL
      rw [if_pos (by rw [← sizeOf]; exact hbig)]
      exact ⟨rfl, hb⟩)
    go_enter Try.func12, Try.ntmps12
    go_wp2
    go_ret2
    exact HP.out _ (Below.refl _ _)
  have hs : s.size ≤ 200 := by omega
  obtain ⟨i0, hi, hz0, hz1, hz2'⟩ := info_parts infoW
  obtain ⟨R, hR⟩ : ∃ R, stepsL s.data.toList = R := ⟨_, rfl⟩
  have HR0 : Hid (restW [] s.data.toList = R) := Lib.hid (by
    rw [← hR]; unfold stepsL restW
    rw [if_neg (by rw [← sizeOf]; exact hbig)]
    simp [stps])
  have HYES : Hid (∀ L v w', R = some (stps L) → HoldW w' v L → Below w.heap.size w w' → StepsP s.data.toList w (.returned (.tuple #[v, .bool true])) w') := Lib.hid (fun L v w' h1 h2 h3 => by
    unfold StepsP; rw [hR, h1]; exact ⟨⟨v, L, rfl, rfl, h2⟩, h3⟩)
  have HNO : Hid (R = none → ∀ w', Below w.heap.size w w' → StepsP s.data.toList w (.returned (.tuple #[.slice none 0 0, .bool false])) w') := Lib.hid (fun h1 w' h3 => by
    unfold StepsP; rw [hR, h1]; exact ⟨rfl, h3⟩)
  clear hbig hR
  go_enter Try.func12, Try.ntmps12
  go_wp2
  go_loopg [0, 4] s.size (fun g x v wr => ∃ (S : ByteArray) (L : List Sv), x = .string S ∧ S.size ≤ g ∧ L.length + S.size ≤ 200 ∧ Hid (restW L S.data.toList = R) ∧ Hid (OwnW wr w.heap.size v L) ∧ Hid (∀ x ∈ L, FitW wr x) ∧ Hid (Below w.heap.size w wr))
  case atStart => exact ⟨s, [], rfl, Nat.le_refl _, by simpa using hs, HR0, Lib.hid (OwnV.nil _ _ _ _), Lib.hid (fun x hx => by simp at hx), Lib.hid (Below.refl _ _)⟩
  case round =>
    clear HR0 hs
    obtain ⟨S, L, rfl, hg, hL, HR, HO, HF, HB⟩ := hrel
    have he := emptyT S
    have hsz := HB.out.size
    by_cases h0 : S.size = 0
    · have hn : S.data.toList = [] := List.eq_nil_of_length_eq_zero (by rw [← sizeOf]; exact h0)
      rw [decide_eq_true h0] at he
      have HE := HR.out
      rw [hn, restW_end] at HE
      have HEE := Lib.hid HE.symm
      have HH : Hid (HoldW wr u4 L) := Lib.hid ⟨HO.out.holds, HF.out⟩
      clear hn HE HR h0 HO HF hg hL
      go_wp2
      go_ret2
      exact HYES.out _ _ _ HEE.out HH.out HB.out
    rw [decide_eq_false h0] at he
    have h1 : 0 < S.size := by omega
    have hc : S.data.toList = S[0] :: S.data.toList.tail := by
      have := dropC S 0 h1
      rw [List.drop_zero] at this
      rw [this]; rfl
    cases hf : firstL S.data.toList with
    | none =>
      have HE : Hid (R = none) := Lib.hid (by
        have := HR.out
        rw [hc] at this hf
        rw [restW_bad hf] at this
        exact this.symm)
      have M1 := fun W => (first_any S h1 W).mono (fun e w' hp => firstP_none hf hp)
      have HNN := Lib.hid (HNO.out HE.out)
      clear hc HR h0 HO HF hg hL hf HE HNO HYES h1
      go_wp2_with (go_at_call 16; (with_reducible refine (M1 _).mono ?_); rintro e w2 ⟨⟨b, v, t, rfl, (rfl | ⟨f1, lb, rfl⟩)⟩, hb⟩ <;> (have HB2 := Lib.hid (HB.out.trans (hb.mono hsz)); clear hb))
      all_goals
        go_ret2
        exact HNN.out _ (HB2.out.alloc HB2.out.size _)
    | some p =>
      obtain ⟨x, r⟩ := p
      have hlen := firstL_len hf
      rw [← sizeOf] at hlen
      obtain ⟨X, hX⟩ : ∃ X : ByteArray, bsT r = X := ⟨_, rfl⟩
      have hXl : X.data.toList = r := by rw [← hX, bytesOf]
      rw [← hXl, ← sizeOf] at hlen
      have HRX : Hid (∀ v, restW (L ++ [(x, v)]) X.data.toList = R) := Lib.hid (fun v => by
        have := HR.out
        rw [hc] at this hf
        rw [restW_step v hf] at this
        rw [hXl]; exact this)
      have M1 := fun W => (first_any S h1 W).mono (fun e w' hp => firstP_some hf hp)
      rw [hX] at M1
      have hl1 : ∀ y : Sv, (L ++ [y]).length = L.length + 1 := fun y => by rw [List.length_append]; rfl
      have HL1 := Lib.hid hl1
      clear hc HR h0 hf HNO HYES h1 hX hXl hl1
      cases x with
      | star =>
        have M2 : ∀ W, Calls Try.prog 16 #[.string S] W fun e w' => e = .returned (.tuple #[.agg #[.bool true, .nilFunc], .string X, .bool true]) ∧ Below W.heap.size W w' := fun W => (M1 W).mono (fun e w' ⟨⟨fv, he, hw⟩, hb⟩ => by (obtain rfl : fv = .nilFunc := hw.1 rfl); exact ⟨he, hb⟩)
        have HFX : Hid (∀ W, FitW W (.star, .nilFunc)) := Lib.hid (fun W => ⟨fun _ => rfl, fun f h => by cases h⟩)
        clear M1
        go_wp2_with (first
          | (go_at_call 16; (with_reducible refine (M2 _).mono ?_); rintro e w2 ⟨rfl, hb⟩; have HB2 := Lib.hid (HB.out.trans (hb.mono hsz)); have HO2 := Lib.hid (HO.out.on hb); have HF2 := Lib.hid (fit_kp HF.out (Kp.of hb)); have hz2 := HB2.out.size; clear hb)
          | (at_builtin; refine wpList_append_own _ rfl _ _ 37 rfl w.heap.size 44 i0 _ 2 16 Try.underlying37 hi hz0 hz1 hz2' rfl (by decide) _ _ _ rfl (World.ownsRow.alloc (World.ownsRow.alloc HO2.out.2 _) _) ⟨w2.heap.size + 1, 0, none⟩ 1 1 [.bool true, .nilFunc] rfl rfl ?c1 ?c2 ?c3 ?c4 ?c5 ?_))
        case c1 =>
          intro j u hj
          match j, hj with
          | 0, hj => simp at hj; subst hj; simp [Addr.add]
          | 1, hj => simp at hj; subst hj; simp [Addr.add]
        case c2 => intro u hu; simp at hu; rcases hu with rfl | rfl <;> rfl
        case c3 => rw [List.length_map]; unfold maxLen; omega
        case c4 => rw [List.length_map]; omega
        case c5 => simp; omega
        intro v' w3 hown' hgrow _
        have hO := HO2.out.on ((Below.refl w2.heap.size w2).alloc (Nat.le_refl _) (.cells #[.bool true, .nilFunc] 44))
        have HK3 : Hid (Kp w2 w3) := Lib.hid ((Kp.of ((Below.refl w2.heap.size w2).alloc (Nat.le_refl _) _)).trans (kp_grown hO hgrow))
        have HO3 : Hid (OwnW w3 w.heap.size v' (L ++ [(.star, .nilFunc)])) := Lib.hid (by
          unfold OwnW
          rw [List.map_append]
          exact OwnV.app HO2.out.1 rfl (by simpa [rowW, Stp.isStar] using hown'))
        have HB3 : Hid (Below w.heap.size w w3) := Lib.hid (OwnV.below (HB2.out.alloc hz2 _) hO hgrow (Nat.le_refl _) (by simp; omega))
        have HF3 : Hid (∀ y ∈ L ++ [(.star, .nilFunc)], FitW w3 y) := Lib.hid (fit_snoc (fit_kp HF2.out HK3.out) (HFX.out _))
        have HR3 := Lib.hid (HRX.out .nilFunc)
        clear hown' hgrow hO
        go_wp2
        go_roundg X.size
        case measure => omega
        case rel => exact ⟨X, _, rfl, Nat.le_refl _, by rw [HL1.out]; omega, HR3, HO3, HF3, HB3⟩
      | one f =>
        have M2 : ∀ W, Calls Try.prog 16 #[.string S] W fun e w' => (∃ f1 lb, e = .returned (.tuple #[.agg #[.bool false, .func (.func f1) #[] lb], .string X, .bool true]) ∧ FitsP w' f (.func (.func f1) #[] lb)) ∧ Below W.heap.size W w' := fun W => (M1 W).mono (fun e w' ⟨⟨fv, he, hw⟩, hb⟩ => by
          have hf := hw.2 f rfl
          obtain ⟨g1, lb, rfl⟩ := hf.form
          exact ⟨⟨g1, lb, he, hf⟩, hb⟩)
        clear M1
        go_wp2_with (first
          | (go_at_call 16; (with_reducible refine (M2 _).mono ?_); rintro e w2 ⟨⟨f1, lb, rfl, hfx⟩, hb⟩; have HFX := Lib.hid hfx; clear hfx; have HB2 := Lib.hid (HB.out.trans (hb.mono hsz)); have HO2 := Lib.hid (HO.out.on hb); have HF2 := Lib.hid (fit_kp HF.out (Kp.of hb)); have hz2 := HB2.out.size; clear hb)
          | (at_builtin; refine wpList_append_own _ rfl _ _ 37 rfl w.heap.size 44 i0 _ 2 16 Try.underlying37 hi hz0 hz1 hz2' rfl (by decide) _ _ _ rfl (World.ownsRow.alloc (World.ownsRow.alloc HO2.out.2 _) _) ⟨w2.heap.size + 1, 0, none⟩ 1 1 [.bool false, (.func (.func f1) #[] lb)] rfl rfl ?d1 ?d2 ?d3 ?d4 ?d5 ?_))
        case d1 =>
          intro j u hj
          match j, hj with
          | 0, hj => simp at hj; subst hj; simp [Addr.add]
          | 1, hj => simp at hj; subst hj; simp [Addr.add]
        case d2 => intro u hu; simp at hu; rcases hu with rfl | rfl <;> rfl
        case d3 => rw [List.length_map]; unfold maxLen; omega
        case d4 => rw [List.length_map]; omega
        case d5 => simp; omega
        intro v' w3 hown' hgrow _
        have hO := HO2.out.on ((Below.refl w2.heap.size w2).alloc (Nat.le_refl _) (.cells #[.bool false, (.func (.func f1) #[] lb)] 44))
        have HK3 : Hid (Kp w2 w3) := Lib.hid ((Kp.of ((Below.refl w2.heap.size w2).alloc (Nat.le_refl _) _)).trans (kp_grown hO hgrow))
        have HO3 : Hid (OwnW w3 w.heap.size v' (L ++ [(.one f, (.func (.func f1) #[] lb))])) := Lib.hid (by
          unfold OwnW
          rw [List.map_append]
          exact OwnV.app HO2.out.1 rfl (by simpa [rowW, Stp.isStar] using hown'))
        have HB3 : Hid (Below w.heap.size w w3) := Lib.hid (OwnV.below (HB2.out.alloc hz2 _) hO hgrow (Nat.le_refl _) (by simp; omega))
        have HF3 : Hid (∀ y ∈ L ++ [(.one f, (.func (.func f1) #[] lb))], FitW w3 y) := Lib.hid (fit_snoc (fit_kp HF2.out HK3.out) (⟨(fun h => by cases h), fun f' hf' => by cases hf'; exact HFX.out.kp HK3.out⟩))
        have HR3 := Lib.hid (HRX.out (.func (.func f1) #[] lb))
        clear hown' hgrow hO
        go_wp2
        go_roundg X.size
        case measure => omega
        case rel => exact ⟨X, _, rfl, Nat.le_refl _, by rw [HL1.out]; omega, HR3, HO3, HF3, HB3⟩
end Go.Proofs.Ytapdmlejgakhaaa
