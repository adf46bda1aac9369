/-
  The program's Print of a list of paths, and the reference's: what each returns; nothing old turns. Condition of the program's: LaidP.
-/
import Derived.Test.YtogkickaebmeoaaDoorTRight
import Derived.Test.YtogkickaebmeoaaDoorTBld
namespace Go.Proofs.YtogkickaebmeoaaDoor
open Go.RowKit Go.Shelf
def Pr13 (x : Ls) (w : World) (e : Ending) (w' : World) : Prop := e = .returned (.tuple #[.string (bsT (print13 x).1), .int .i64 (print13 x).2]) ∧ Below w.heap.size w w'
theorem ended_drop {l : List Bs} {k : Nat} {x : Bs} (h : l[k]? = some x) : ended10 (l.drop k) = (x ++ [10]) ++ ended10 (l.drop (k + 1)) := by
  obtain ⟨hk, e⟩ := List.getElem?_eq_some_iff.1 h
  rw [List.drop_eq_getElem_cons hk, e]
  unfold ended10; rw [List.flatMap_cons]
theorem ended13_len : ∀ {l : List Bs}, SmallP l → (ended10 l).length ≤ 4001 * l.length
  | [], _ => by simp [ended10]
  | x :: l, h => by
    have h1 := h x (by simp)
    have h2 := ended13_len (l := l) (fun y hy => h y (by simp [hy]))
    have e : ended10 (x :: l) = (x ++ [10]) ++ ended10 l := rfl
    rw [e, List.length_append, List.length_append, List.length_cons]; simp; omega
set_option maxRecDepth 100000 in
set_option maxHeartbeats 8000000 in
theorem print13_any (N : ByteArray) (hN : N.size ≤ 4000) (u : Value) (ps : List Bs) (hl : ps.length ≤ 90000) (hs : SmallP ps) (w : World) (hL : LaidP w) (h : HoldT w u ps) :
    Calls Tryd.prog 10 #[.agg #[.string N, u]] w (Pr13 (N.data.toList, ps) w) := by
  have B0 := (Below.refl w.heap.size w).alloc (Nat.le_refl _) (.cells #[.string N, u] 24)
  have HB0 := Lib.hid B0
  have HX := Lib.hid (box2 w (.string N) u 24)
  have RA := right13_any N hN u ps hl hs _ (hL.on B0) (h.on B0)
  cases hr : right13 (N.data.toList, ps)
  · have HP : Hid (∀ w', Below w.heap.size w w' → Pr13 (N.data.toList, ps) w (.returned (.tuple #[.string ⟨#[]⟩, .int .i64 1])) w') := Lib.hid (fun w' hb => ⟨by rw [print13_no hr], hb⟩)
    rw [hr] at RA
    clear B0 h hL hs hr
    obtain ⟨x0, x1⟩ := HX.out
    go_enter Tryd.func10, Tryd.ntmps10
    go_wp2_with (go_at_call 12; refine RA.mono ?_; rintro e w1 ⟨rfl, hb⟩; have HB := Lib.hid (HB0.out.trans (hb.mono HB0.out.size)); clear hb)
    go_ret2
    exact HP.out _ HB.out
  have h64 := (chkP_zero (right13_parts hr).2).1
  have HP : Hid (∀ (S : ByteArray) w', S.data.toList = ended10 ps → Below w.heap.size w w' → Pr13 (N.data.toList, ps) w (.returned (.tuple #[.string S, .int .i64 0])) w') := Lib.hid (fun S w' hS hb => ⟨by rw [print13_ok hr]; show _ = Ending.returned (Value.tuple #[.string (bsT (ended10 ps)), .int .i64 0]); rw [← hS, show bsT S.data.toList = S from (strOf (x := S) rfl).symm], hb⟩)
  have hlen := ended13_len hs
  rw [hr] at RA
  clear B0 hr hL
  have HH := Lib.hid h
  obtain ⟨a, c, b, o, rfl, hc, ha, hcell⟩ := h
  have HC := Lib.hid hcell
  have HS := Lib.hid hs
  obtain ⟨n, hn⟩ : ∃ n, ps.length = n := ⟨_, rfl⟩
  rw [hn] at hc ha hl HB0 HX RA h64 hlen ⊢
  have HN := Lib.hid hn
  clear hcell hn hs HH
  obtain ⟨x0, x1⟩ := HX.out
  have l0 := World.block_lt_of_cell? _ _ x0
  have HXX := Lib.hid (fun W (hb : Below (w.alloc (.cells #[.string N, .slice a n c] 24)).heap.size (w.alloc (.cells #[.string N, .slice a n c] 24)) W) => And.intro ((hb.cell (p := ⟨w.heap.size, 0, none⟩) l0).trans x0) ((hb.cell (p := ⟨w.heap.size, 1, none⟩) l0).trans x1))
  go_enter Tryd.func10, Tryd.ntmps10
  go_wp2_with (go_at_call 12; refine RA.mono ?_; rintro e w1 ⟨rfl, hb⟩; have HB1 := Lib.hid (HB0.out.trans (hb.mono HB0.out.size)); obtain ⟨y0, y1⟩ := HXX.out _ hb; have hs1 := HB1.out.size; have l1 := World.block_lt_of_cell? w1 _ y0; have y2 := (((Below.refl w1.heap.size w1).alloc (Nat.le_refl _) (.cells #[.pointer none, .slice none 0 0] tB)).cell (p := ⟨w.heap.size, 1, none⟩) l1).trans y1; clear hb)
  clear RA HXX y0 y1 y2 x0 x1 l0 l1
  have HB2 : Hid (Below w.heap.size w (w1.alloc (.cells #[.pointer none, .slice none 0 0] tB))) := Lib.hid (HB1.out.alloc hs1 _)
  have HD0 := Lib.hid (bld_new w.heap.size w1 hs1)
  obtain ⟨bb, hbb⟩ : ∃ bb, bb = w1.heap.size := ⟨_, rfl⟩
  rw [← hbb] at HD0 ⊢
  have HEB := Lib.hid hbb
  clear hbb
  go_loopw [13] (fun i wr => ∃ (k : Nat) (out : Bs), k ≤ n ∧ i = .int .i64 k ∧ Hid (out ++ ended10 (ps.drop k) = ended10 ps) ∧ Hid (Bld w.heap.size bb out wr) ∧ bb < wr.heap.size ∧ Hid (Below w.heap.size w wr)) (fun i _ => n - (intOf i).toNat)
  case atStart => exact ⟨0, [], by omega, rfl, Lib.hid rfl, HD0, by rw [HEB.out]; simp, HB2⟩
  case round =>
    obtain ⟨k, out, hk, rfl, HO, HD, hbw2, HB⟩ := hrel
    have hsz := HB.out.size
    have hol : out.length ≤ 4001 * n := by
      have := congrArg List.length HO.out
      rw [List.length_append] at this; omega
    by_cases hlt : k < n
    · obtain ⟨rfl, hbw⟩ := ha (by omega)
      obtain ⟨x, hx⟩ : ∃ x, ps[k]? = some x := ⟨_, List.getElem?_eq_getElem (by rw [HN.out]; exact hlt)⟩
      have c0 := HC.out k x hx
      rw [← HB.out.cell (p := ⟨b, o + k, none⟩) hbw] at c0
      have hsx := HS.out x (List.mem_of_getElem? hx)
      obtain ⟨X, hX⟩ : ∃ X : ByteArray, X = ⟨x.toArray⟩ := ⟨_, rfl⟩
      have hXs : X.size ≤ 4000 := by rw [hX, sizeOf, bytesOf]; omega
      have HO2 : Hid ((out ++ (X ++ ⟨#[10]⟩ : ByteArray).data.toList) ++ ended10 (ps.drop (k + 1)) = ended10 ps) := Lib.hid (by
        rw [← HO.out, ended_drop hx, hX]; simp)
      rw [← hX] at c0
      have h1s : (ByteArray.mk #[10]).size = 1 := rfl
      have WS := wstr_any w.heap.size bb out (X ++ ⟨#[10]⟩) wr HD.out (by omega) (by simp only [ByteArray.size_append, h1s]; omega) hsz
      have q1 : ¬ 9223372036854775807 < X.size + 1 := by omega
      clear hX hx hsx HO HC HS HD
      go_wp2_with (go_at_call 42; (with_reducible refine WS.mono ?_); rintro e w3 ⟨v3, rfl, hd3, hb3, -⟩; have HD3 := Lib.hid hd3; have HB3 := Lib.hid (HB.out.trans hb3); have hz3 := hb3.size; clear hd3 hb3 WS)
      go_roundw
      case rel => exact ⟨k + 1, _, by omega, by go_num, HO2, HD3, by omega, HB3⟩
      case measure => simp [intOf]; omega
    · obtain rfl : k = n := by omega
      have HE : Hid (out = ended10 ps) := Lib.hid (by have := HO.out; rw [List.drop_of_length_le (by rw [HN.out]; omega)] at this; simpa [ended10] using this)
      have BS := bstr_any w.heap.size bb out wr HD.out hsz
      clear hlt HO
      go_wp2_with (go_at_call 43; refine BS.mono ?_; rintro e w3 ⟨rfl, hb3⟩; have HB3 := Lib.hid (HB.out.trans hb3); clear hb3)
      go_ret2
      exact HP.out _ _ (by rw [HE.out]) HB3.out
set_option maxRecDepth 100000 in
set_option maxHeartbeats 8000000 in
theorem print13_ref (N : ByteArray) (hN : N.size ≤ 4000) (u : Value) (ps : List Bs) (hl : ps.length ≤ 90000) (hs : SmallP ps) (w : World) (h : HoldT w u ps) :
    Calls Tryd.prog 11 #[.agg #[.string N, u]] w (Pr13 (N.data.toList, ps) w) := by
  have B0 := (Below.refl w.heap.size w).alloc (Nat.le_refl _) (.cells #[.string N, u] 24)
  have HB0 := Lib.hid B0
  have HX := Lib.hid (box2 w (.string N) u 24)
  have RA := right13_ref N hN u ps hl hs _ (h.on B0)
  cases hr : right13 (N.data.toList, ps)
  · have HP : Hid (∀ w', Below w.heap.size w w' → Pr13 (N.data.toList, ps) w (.returned (.tuple #[.string ⟨#[]⟩, .int .i64 1])) w') := Lib.hid (fun w' hb => ⟨by rw [print13_no hr], hb⟩)
    rw [hr] at RA
    clear B0 h hs hr
    obtain ⟨x0, x1⟩ := HX.out
    go_enter Tryd.func11, Tryd.ntmps11
    go_wp2_with (go_at_call 13; refine RA.mono ?_; rintro e w1 ⟨rfl, hb⟩; have HB := Lib.hid (HB0.out.trans (hb.mono HB0.out.size)); clear hb)
    go_ret2
    exact HP.out _ HB.out
  have h64 := (chkP_zero (right13_parts hr).2).1
  have HP : Hid (∀ (S : ByteArray) w', S.data.toList = ended10 ps → Below w.heap.size w w' → Pr13 (N.data.toList, ps) w (.returned (.tuple #[.string S, .int .i64 0])) w') := Lib.hid (fun S w' hS hb => ⟨by rw [print13_ok hr]; show _ = Ending.returned (Value.tuple #[.string (bsT (ended10 ps)), .int .i64 0]); rw [← hS, show bsT S.data.toList = S from (strOf (x := S) rfl).symm], hb⟩)
  have hlen := ended13_len hs
  rw [hr] at RA
  clear B0 hr
  obtain ⟨a, c, b, o, rfl, hc, ha, hcell⟩ := h
  have HC := Lib.hid hcell
  have HS := Lib.hid hs
  obtain ⟨n, hn⟩ : ∃ n, ps.length = n := ⟨_, rfl⟩
  rw [hn] at hc ha hl HB0 HX RA h64 hlen ⊢
  have HN := Lib.hid hn
  clear hcell hn hs
  obtain ⟨x0, x1⟩ := HX.out
  have l0 := World.block_lt_of_cell? _ _ x0
  have HXX := Lib.hid (fun W (hb : Below (w.alloc (.cells #[.string N, .slice a n c] 24)).heap.size (w.alloc (.cells #[.string N, .slice a n c] 24)) W) => And.intro ((hb.cell (p := ⟨w.heap.size, 0, none⟩) l0).trans x0) ((hb.cell (p := ⟨w.heap.size, 1, none⟩) l0).trans x1))
  go_enter Tryd.func11, Tryd.ntmps11
  go_wp2_with (go_at_call 13; refine RA.mono ?_; rintro e w1 ⟨rfl, hb⟩; have HB1 := Lib.hid (HB0.out.trans (hb.mono HB0.out.size)); obtain ⟨y0, y1⟩ := HXX.out _ hb; clear hb)
  clear RA HXX x0 x1 l0
  go_loop [4, 5] (fun t i => ∃ (k : Nat) (out : ByteArray), k ≤ n ∧ i = .int .i64 k ∧ t = .string out ∧ Hid (out.data.toList ++ ended10 (ps.drop k) = ended10 ps)) (fun _ i => n - (intOf i).toNat)
  case atStart => exact ⟨0, ⟨#[]⟩, by omega, rfl, rfl, Lib.hid rfl⟩
  case round =>
    obtain ⟨k, out, hk, rfl, rfl, HO⟩ := hrel
    have hol : out.size ≤ 4001 * n := by
      have := congrArg List.length HO.out
      rw [List.length_append, ← sizeOf] at this; omega
    by_cases hlt : k < n
    · obtain ⟨rfl, hbw⟩ := ha (by omega)
      obtain ⟨x, hx⟩ : ∃ x, ps[k]? = some x := ⟨_, List.getElem?_eq_getElem (by rw [HN.out]; exact hlt)⟩
      have c0 := HC.out k x hx
      rw [← HB1.out.cell (p := ⟨b, o + k, none⟩) hbw] at c0
      have hsx := HS.out x (List.mem_of_getElem? hx)
      obtain ⟨X, hX⟩ : ∃ X : ByteArray, X = ⟨x.toArray⟩ := ⟨_, rfl⟩
      have hXs : X.size ≤ 4000 := by rw [hX, sizeOf, bytesOf]; omega
      have HO2 : Hid ((out ++ X ++ ⟨#[10]⟩ : ByteArray).data.toList ++ ended10 (ps.drop (k + 1)) = ended10 ps) := Lib.hid (by
        rw [← HO.out, ended_drop hx, hX]; simp)
      rw [← hX] at c0
      have q1 : ¬ 9223372036854775807 < out.size + X.size := by omega
      have q2 : ¬ 9223372036854775807 < out.size + X.size + 1 := by omega
      clear hX hx hsx HO HC HS
      go_wp2
      go_round
      case rel => exact ⟨k + 1, _, by omega, by go_num, rfl, HO2⟩
      case measure => simp [intOf]; omega
    · obtain rfl : k = n := by omega
      have HE : Hid (out.data.toList = ended10 ps) := Lib.hid (by have := HO.out; rw [List.drop_of_length_le (by rw [HN.out]; omega)] at this; simpa [ended10] using this)
      clear hlt HO
      go_wp2
      go_ret2
      exact HP.out _ _ HE.out HB1.out
end Go.Proofs.YtogkickaebmeoaaDoor
