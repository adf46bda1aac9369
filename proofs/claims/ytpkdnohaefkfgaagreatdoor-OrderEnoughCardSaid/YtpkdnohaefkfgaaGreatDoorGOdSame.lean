/-
  The reference's Same of equal lists: true; nothing old turns.
-/
import Derived.Test.YtpkdnohaefkfgaaGreatDoorGOdPlan
import Derived.Laws.StructEq
import Derived.Deep.QuietTactic
import Derived.BigQuiet
import Derived.IntWalk
namespace Go.Proofs.YtpkdnohaefkfgaaGreatDoor
open Go.RowKit Go.Shelf Go.Maps
theorem plan_any (v : Value) (l : List Uv) (hl : l.length ≤ 64) (hr : ∀ x ∈ l, rightU x = true) (w : World) (h : HoldU w v l) (hL : LaidV w) : Calls Tryz.prog 8 #[v] w fun e w' => (∃ xs a n c, e = .returned (.slice a n c) ∧ PlanOf l xs ∧ OwnT w' w.heap.size (.slice a n c) (nmsU xs)) ∧ Below w.heap.size w w' := by
  have PL := planned_any v l hl hr w h hL
  obtain ⟨va, vn, vc, hv⟩ : ∃ a n c, v = .slice a n c := by obtain ⟨a, c, b, o, e, -⟩ := h.parts; exact ⟨_, _, _, e⟩
  subst hv
  clear h hL hr hl
  go_enter Tryz.func8, Tryz.ntmps8
  go_wp2_with (go_at_call 19; (with_reducible refine PL.mono ?_); rintro e w1 ⟨xs, nv, B, q, rfl, hp, ht, -, -, hb⟩; obtain ⟨na, nn, nc, rfl⟩ := OwnT.form ht; have HP := Lib.hid hp; have HT := Lib.hid ht; have HB := Lib.hid hb; clear hp ht hb)
  go_ret
  exact ⟨⟨xs, _, _, _, rfl, HP.out, HT.out⟩, HB.out⟩
theorem stuck_take {l : List Uv} {s : List Bs} {k : Nat} {x : Uv} (h : l[k]? = some x) : nmsU (stuckU (l.take (k + 1)) s) = nmsU (stuckU (l.take k) s) ++ (if (!decide (x.nm ∈ s) && openZ x.st) = true then [x.nm] else []) := by
  unfold stuckU nmsU
  rw [List.take_add_one, h, List.filter_append, List.map_append]
  congr 1
  by_cases g : (!decide (x.nm ∈ s) && openZ x.st) = true <;> simp [g]
theorem stuck_len (l : List Uv) (s : List Bs) : (nmsU (stuckU l s)).length ≤ l.length := by
  unfold stuckU nmsU; rw [List.length_map]; exact List.length_filter_le _ _
set_option maxRecDepth 100000 in
set_option maxHeartbeats 16000000 in
theorem stuck_any (v : Value) (l : List Uv) (hl : l.length ≤ 64) (hr : ∀ x ∈ l, rightU x = true) (w : World) (h : HoldU w v l) (hL : LaidV w) : Calls Tryz.prog 9 #[v] w fun e w' => (∃ xs a n c, e = .returned (.slice a n c) ∧ PlanOf l xs ∧ OwnT w' w.heap.size (.slice a n c) (nmsU (stuckU l (nmsU xs)))) ∧ Below w.heap.size w w' := by
  have PL := planned_any v l hl hr w h hL
  have HIN := Lib.hid h.2
  have HR := Lib.hid hr
  obtain ⟨a, c, b, o, rfl, hcc, ha, hcell⟩ := h.parts
  have HC := Lib.hid hcell
  obtain ⟨n, hN⟩ : ∃ n, l.length = n := ⟨_, rfl⟩
  rw [hN] at hcc ha hl PL ⊢
  have HN := Lib.hid hN
  obtain ⟨t0, ht, tz0, tz1, tz2⟩ := info_parts infoT
  clear h hL hr hcell hN
  go_enter Tryz.func9, Tryz.ntmps9
  go_wp2_with (go_at_call 19; (with_reducible refine PL.mono ?_); rintro e w1 ⟨xs, nv, B, q, rfl, hp, hnt, hm, hB, hb⟩; obtain ⟨na, nn, nc, rfl⟩ := OwnT.form hnt; have HP := Lib.hid hp; have HM1 := Lib.hid hm; have HB1 := Lib.hid hb; clear hp hnt hb hm hB)
  clear PL
  obtain ⟨S, hS⟩ : ∃ S, nmsU xs = S := ⟨_, rfl⟩
  have HSL : Hid (∀ y ∈ S, y.length ≤ maxLen) := Lib.hid (fun y hy => by
    rw [← hS] at hy
    obtain ⟨x, hx, rfl⟩ := List.mem_map.1 hy
    have := (small_nm (HR.out x (plan_mem HP.out.plan x hx))).1
    unfold maxLen; omega)
  have HHAS := Lib.hid (fun (x : Bs) => setS_has S HSL.out (x := x))
  rw [hS] at HM1
  have HS := Lib.hid hS
  clear hS
  go_loopw [5, 17] (fun u i wr => ∃ (k : Nat), k ≤ n ∧ i = .int .i64 k ∧ Hid (OwnT wr w.heap.size u (nmsU (stuckU (l.take k) S))) ∧ Hid (wr.ownsMap Tryz.prog 9 unitElem B q (setS S)) ∧ Hid (Below w.heap.size w wr)) (fun _ i _ => n - (intOf i).toNat)
  case atStart => exact ⟨0, by omega, rfl, Lib.hid (by rw [List.take_zero]; exact World.ownsRow_nil _ _ _ _), HM1, HB1⟩
  case round =>
    obtain ⟨k, hk, rfl, HO, HM, HB⟩ := hrel
    have hsz := HB.out.size
    by_cases hlt : k < n
    · obtain ⟨rfl, hbw⟩ := ha (by omega)
      obtain ⟨x, hx⟩ : ∃ x, l[k]? = some x := ⟨_, List.getElem?_eq_getElem (by rw [HN.out]; exact hlt)⟩
      have hm := List.mem_of_getElem? hx
      have HKY := Lib.hid (key_s (⟨x.nm.toArray⟩ : ByteArray) (by rw [sizeOf, bytesOf]; have := (small_nm (HR.out x hm)).1; unfold maxLen; omega))
      rw [bytesOf] at HKY
      have hhas := HHAS.out x.nm
      have htk := stuck_take (s := S) hx
      have hlen : (nmsU (stuckU (l.take k) S)).length ≤ k := Nat.le_trans (stuck_len _ _) (by rw [List.length_take]; omega)
      obtain ⟨x0, x1, x2, x3, x4, x5, x6, x7, x8⟩ := HC.out k _ hx
      rw [← HB.out.cell (p := ⟨b, o + k * 9, none⟩) hbw] at x0
      rw [← HB.out.cell (p := ⟨b, o + k * 9 + 1, none⟩) hbw] at x1
      rw [← HB.out.cell (p := ⟨b, o + k * 9 + 2, none⟩) hbw] at x2
      rw [← HB.out.cell (p := ⟨b, o + k * 9 + 3, none⟩) hbw] at x3
      rw [← HB.out.cell (p := ⟨b, o + k * 9 + 4, none⟩) hbw] at x4
      rw [← HB.out.cell (p := ⟨b, o + k * 9 + 5, none⟩) hbw] at x5
      rw [← HB.out.cell (p := ⟨b, o + k * 9 + 6, none⟩) hbw] at x6
      rw [← HB.out.cell (p := ⟨b, o + k * 9 + 7, none⟩) hbw] at x7
      rw [← HB.out.cell (p := ⟨b, o + k * 9 + 8, none⟩) hbw] at x8
      obtain ⟨a3, n3, m3, q3⟩ := formU3 (HIN.out x hm)
      obtain ⟨a4, n4, m4, q4⟩ := formU4 (HIN.out x hm)
      obtain ⟨a5, n5, m5, q5⟩ := formU5 (HIN.out x hm)
      obtain ⟨a6, n6, m6, q6⟩ := formU6 (HIN.out x hm)
      obtain ⟨a7, n7, m7, q7⟩ := formU7 (HIN.out x hm)
      obtain ⟨a8, n8, m8, q8⟩ := formU8 (HIN.out x hm)
      have OP := fun W => open_any x.st W
      simp only [q3, q4, q5, q6, q7, q8] at x3 x4 x5 x6 x7 x8
      obtain ⟨y0, y1, y2, y3, y4, y5, y6, y7, y8⟩ := boxV9 wr (.string (⟨x.nm.toArray⟩ : ByteArray)) (.string (⟨x.vr.toArray⟩ : ByteArray)) (.int .i64 x.st) (.slice a3 n3 m3) (.slice a4 n4 m4) (.slice a5 n5 m5) (.slice a6 n6 m6) (.slice a7 n7 m7) (.slice a8 n8 m8) 37
      have HX : Hid ((⟨x.nm.toArray⟩ : ByteArray).data.toList = x.nm) := Lib.hid (by simp)
      obtain ⟨T, hT⟩ : ∃ T, nmsU (stuckU (l.take k) S) = T := ⟨_, rfl⟩
      rw [hT] at htk hlen HO
      have HTK := Lib.hid htk
      generalize openZ x.st = ob at *
      generalize decide (x.nm ∈ S) = db at *
      generalize x.st = z at *
      generalize (⟨x.nm.toArray⟩ : ByteArray) = X0 at *
      generalize (⟨x.vr.toArray⟩ : ByteArray) = X1 at *
      have HHA := Lib.hid hhas
      obtain ⟨D, hD⟩ : ∃ D, setS S = D := ⟨_, rfl⟩
      rw [hD] at HHA HM
      have HD := Lib.hid hD
      have b2 := (Below.refl wr.heap.size wr).alloc (Nat.le_refl _) (.cells #[.string X0, .string X1, .int .i64 z, .slice a3 n3 m3, .slice a4 n4 m4, .slice a5 n5 m5, .slice a6 n6 m6, .slice a7 n7 m7, .slice a8 n8 m8] 37)
      have b3 := b2.alloc (by simp) (.cells #[] 53)
      have HB3 := Lib.hid (HB.out.trans (b3.mono hsz))
      have HM2 := Lib.hid (World.ownsMap.kept HM.out (grownV b2) (by simp))
      have HM3 := Lib.hid (World.ownsMap.kept HM.out (grownV b3) (by simp))
      have HO3 := Lib.hid (OwnT.onQ HO.out b3)
      have b4 := (Below.refl (wr.alloc (.cells #[.string X0, .string X1, .int .i64 z, .slice a3 n3 m3, .slice a4 n4 m4, .slice a5 n5 m5, .slice a6 n6 m6, .slice a7 n7 m7, .slice a8 n8 m8] 37)).heap.size (wr.alloc (.cells #[.string X0, .string X1, .int .i64 z, .slice a3 n3 m3, .slice a4 n4 m4, .slice a5 n5 m5, .slice a6 n6 m6, .slice a7 n7 m7, .slice a8 n8 m8] 37))).alloc (Nat.le_refl _) (.cells #[] 53)
      have u0 := (b4.cell (p := ⟨wr.heap.size, 0, none⟩) (by simp)).trans y0
      have u2 := (b4.cell (p := ⟨wr.heap.size, 2, none⟩) (by simp)).trans y2
      clear hx hm hT htk HO q3 q4 q5 q6 q7 q8 b2 b3 b4 hhas hD HM
      cases db
      case true =>
        have HT2 : Hid (nmsU (stuckU (l.take (k + 1)) S) = T) := Lib.hid (by rw [HTK.out]; simp)
        have HO4 := HO3
        rw [← HT2.out] at HO4
        have HM4 := HM3
        rw [← HD.out] at HM4
        clear HTK HO3
        go_wp2_with (at_lookup; refine wpList_lookup_own_unit _ rfl _ _ 50 rfl 9 53 lawS Tryz.underlying50 (zeroU _) B q D rfl HM2.out _ _ rfl HKY.out ?_; rw [HHA.out])
        go_roundw
        case rel => exact ⟨k + 1, by omega, by go_num, HO4, HM4, HB3⟩
        case measure => simp [intOf]; omega
      case false =>
        cases ob
        case false =>
          have HT2 : Hid (nmsU (stuckU (l.take (k + 1)) S) = T) := Lib.hid (by rw [HTK.out]; simp)
          have HO4 := HO3
          rw [← HT2.out] at HO4
          have HM4 := HM3
          rw [← HD.out] at HM4
          clear HTK HO3
          go_wp2_with (first | (at_lookup; refine wpList_lookup_own_unit _ rfl _ _ 50 rfl 9 53 lawS Tryz.underlying50 (zeroU _) B q D rfl HM2.out _ _ rfl HKY.out ?_; rw [HHA.out]) | (go_at_call 12; (with_reducible refine (OP _).mono ?_); rintro e wq ⟨rfl, rfl⟩))
          go_roundw
          case rel => exact ⟨k + 1, by omega, by go_num, HO4, HM4, HB3⟩
          case measure => simp [intOf]; omega
        case true =>
          have HT2 : Hid (nmsU (stuckU (l.take (k + 1)) S) = T ++ [x.nm]) := Lib.hid (by rw [HTK.out]; simp)
          obtain ⟨es, cl, hrow⟩ := map_row HM3.out
          have HRW := Lib.hid (row_below ((Below.refl _ _).alloc (Nat.le_refl _) (.cells #[.string X0] 9)) hrow)
          clear HTK hrow
          go_wp2_with (first | (at_lookup; refine wpList_lookup_own_unit _ rfl _ _ 50 rfl 9 53 lawS Tryz.underlying50 (zeroU _) B q D rfl HM2.out _ _ rfl HKY.out ?_; rw [HHA.out]) | (go_at_call 12; (with_reducible refine (OP _).mono ?_); rintro e wq ⟨rfl, rfl⟩) | (at_builtin; refine wpList_append_own _ rfl _ _ 29 rfl w.heap.size 9 t0 (.string ⟨#[]⟩) 1 16 Tryz.underlying29 ht tz0 tz1 tz2 rfl (by decide) _ _ _ rfl (World.ownsRow.alloc HO3.out _) ⟨wr.heap.size + 1 + 1, 0, none⟩ 1 1 [.string X0] rfl rfl ?c1 ?c2 ?c3 ?c4 ?c5 ?_))
          case c1 => exact newsT1 X0 _ (by simp)
          case c2 => intro u hu; simp at hu; subst hu; rfl
          case c3 => unfold maxLen; omega
          case c4 => omega
          case c5 => have := HB3.out.size; simp only [World.size_alloc] at this ⊢; omega
          intro v8 w8 hown8 hg8 _
          have HO8 : Hid (OwnT w8 w.heap.size v8 (nmsU (stuckU (l.take (k + 1)) S))) := Lib.hid (by rw [HT2.out]; exact OwnT.app (l := x.nm) HX.out hown8)
          have HM8 : Hid (w8.ownsMap Tryz.prog 9 unitElem B q (setS S)) := Lib.hid (by rw [HD.out]; exact World.ownsMap.kept (HM3.out.alloc _) hg8 (own_nemap (World.ownsRow.alloc HO3.out _) HRW.out))
          have HB8 : Hid (Below w.heap.size w w8) := Lib.hid ((HB3.out.alloc HB3.out.size _).grown hg8 (HB3.out.alloc HB3.out.size _).size (fun k hk => (World.ownsRow.lt HO3.out k hk).1))
          clear hown8 hg8
          go_wp2
          go_roundw
          case rel => exact ⟨k + 1, by omega, by go_num, HO8, HM8, HB8⟩
          case measure => simp [intOf]; omega
    · obtain rfl : k = n := by omega
      have HO9 : Hid (OwnT wr w.heap.size _ (nmsU (stuckU l (nmsU xs)))) := Lib.hid (by have := HO.out; rw [List.take_of_length_le (by rw [HN.out]; omega), ← HS.out] at this; exact this)
      obtain ⟨fa, fn, fc, rfl⟩ := OwnT.form HO9.out
      clear hlt HO
      go_wp2
      go_ret
      exact ⟨⟨xs, _, _, _, rfl, HP.out, HO9.out⟩, HB.out⟩
end Go.Proofs.YtpkdnohaefkfgaaGreatDoor
namespace Go.Proofs.YtpkdnohaefkfgaaGreatDoor
open Go.RowKit Go.Shelf
set_option maxRecDepth 100000 in
set_option maxHeartbeats 4000000 in
theorem find_ref8 (v : Value) (l : List Uv) (hl : l.length ≤ 90000) (m : Nat) (x : Uv) (hm : l[m]? = some x) (hd : ∀ (j : Nat) y, j < m → l[j]? = some y → y.nm ≠ x.nm) (p : ByteArray) (hp : p.data.toList = x.nm) (w : World) (h : HoldU w v l) : Calls Tryz.prog 10 #[v, .string p] w fun e w' => e = .returned (.int .i64 m) ∧ w' = w := by
  obtain ⟨a, c, b, o, rfl, hc, ha, hcell⟩ := h.parts
  have HC := Lib.hid hcell
  have hmn := (List.getElem?_eq_some_iff.1 hm).1
  obtain ⟨n, hN⟩ : ∃ n, l.length = n := ⟨_, rfl⟩
  rw [hN] at hc ha hl hmn ⊢
  have HN := Lib.hid hN
  have HD := Lib.hid hd
  have HM := Lib.hid hm
  have HP := Lib.hid hp
  clear hcell hN h hd hm hp
  go_enter Tryz.func10, Tryz.ntmps10
  go_wp2
  go_loop [5] (fun i => ∃ k : Nat, k ≤ m ∧ i = .int .i64 k) (fun i => n - (intOf i).toNat)
  case atStart => exact ⟨0, Nat.zero_le _, rfl⟩
  case round =>
    obtain ⟨k, hk, rfl⟩ := hrel
    have hlt : k < n := by omega
    obtain ⟨rfl, hbw⟩ := ha (by omega)
    obtain ⟨y, hy⟩ : ∃ y, l[k]? = some y := ⟨_, List.getElem?_eq_getElem (by rw [HN.out]; exact hlt)⟩
    obtain ⟨c0, -⟩ := HC.out k y hy
    have j0 : (0 : Int) ≤ (k : Int) := by omega
    have j1 : (k : Int) < (n : Int) := by omega
    have heq := eqT (⟨y.nm.toArray⟩ : ByteArray) p
    rw [bytesOf, HP.out] at heq
    by_cases he : k = m
    · subst he
      have e1 : y = x := by have := HM.out; rw [hy] at this; exact Option.some.inj this
      rw [e1, decide_eq_true rfl] at heq
      rw [e1] at c0
      generalize (⟨x.nm.toArray⟩ : ByteArray) = Y at *
      clear hy e1 HC HD
      go_wp2
      go_ret
      exact ⟨rfl, rfl⟩
    · rw [decide_eq_false (HD.out k y (by omega) hy)] at heq
      generalize (⟨y.nm.toArray⟩ : ByteArray) = Y at *
      clear hy HC HD
      go_wp2
      go_round
      case rel => exact ⟨k + 1, by omega, by go_num⟩
      case measure => simp [intOf]; omega
set_option maxRecDepth 100000 in
set_option maxHeartbeats 4000000 in
theorem has_ref2 (v : Value) (ls : List Bs) (hl : ls.length ≤ 90000) (p : ByteArray) (hp : p.data.toList ∉ ls) (w : World) (h : HoldT w v ls) : Calls Tryz.prog 11 #[v, .string p] w fun e w' => e = .returned (.bool false) ∧ w' = w := by
  obtain ⟨a, c, b, o, rfl, hc, ha, hcell⟩ := h
  have HC := Lib.hid hcell
  obtain ⟨n, hN⟩ : ∃ n, ls.length = n := ⟨_, rfl⟩
  rw [hN] at hc ha hl ⊢
  have HN := Lib.hid hN
  have HP := Lib.hid hp
  clear hcell hN hp
  go_enter Tryz.func11, Tryz.ntmps11
  go_wp2
  go_loop [5] (fun i => ∃ k : Nat, k ≤ n ∧ i = .int .i64 k) (fun i => n - (intOf i).toNat)
  case atStart => exact ⟨0, Nat.zero_le _, rfl⟩
  case round =>
    obtain ⟨k, hk, rfl⟩ := hrel
    by_cases hlt : k < n
    · obtain ⟨rfl, hbw⟩ := ha (by omega)
      obtain ⟨y, hy⟩ : ∃ y, ls[k]? = some y := ⟨_, List.getElem?_eq_getElem (by rw [HN.out]; exact hlt)⟩
      have c0 := HC.out k y hy
      have j0 : (0 : Int) ≤ (k : Int) := by omega
      have j1 : (k : Int) < (n : Int) := by omega
      have heq := eqT (⟨y.toArray⟩ : ByteArray) p
      rw [bytesOf, decide_eq_false (fun e => HP.out (by rw [← e]; exact List.mem_of_getElem? hy))] at heq
      generalize (⟨y.toArray⟩ : ByteArray) = Y at *
      clear hy HC
      go_wp2
      go_round
      case rel => exact ⟨k + 1, by omega, by go_num⟩
      case measure => simp [intOf]; omega
    · obtain rfl : k = n := by omega
      clear hlt
      go_wp2
      go_ret
      exact ⟨rfl, rfl⟩
end Go.Proofs.YtpkdnohaefkfgaaGreatDoor
namespace Go.Proofs.YtpkdnohaefkfgaaGreatDoor
open Go.RowKit
set_option maxRecDepth 100000 in
set_option maxHeartbeats 4000000 in
theorem same2_ref (u v : Value) (l : List Bs) (hl : l.length ≤ 90000) (w : World) (h1 : HoldT w u l) (h2 : HoldT w v l) : Calls Tryz.prog 18 #[u, v] w fun e w' => e = .returned (.bool true) ∧ ∃ q, w' = w.drewN q := by
  obtain ⟨a1, c1, b1, o1, rfl, hc1, ha1, hl1⟩ := h1
  obtain ⟨a2, c2, b2, o2, rfl, hc2, ha2, hl2⟩ := h2
  have H1 := Lib.hid hl1
  have H2 := Lib.hid hl2
  obtain ⟨n, hN⟩ : ∃ n, l.length = n := ⟨_, rfl⟩
  rw [hN] at hc1 ha1 hc2 ha2 hl ⊢
  have HN := Lib.hid hN
  clear hl1 hl2 hN
  go_enter Tryz.func18, Tryz.ntmps18
  go_wp2
  go_loopw [5] (fun i wr => ∃ k : Nat, k ≤ n ∧ i = .int .i64 k ∧ Hid (∃ q, wr = w.drewN q)) (fun i _ => n - (intOf i).toNat)
  case atStart => exact ⟨0, by omega, rfl, Lib.hid ⟨0, rfl⟩⟩
  case round =>
    obtain ⟨k, hk, rfl, HQ⟩ := hrel
    by_cases hlt : k < n
    · obtain ⟨rfl, hbw1⟩ := ha1 (by omega)
      obtain ⟨rfl, hbw2⟩ := ha2 (by omega)
      obtain ⟨x, hx⟩ : ∃ x, l[k]? = some x := ⟨_, List.getElem?_eq_getElem (by rw [HN.out]; exact hlt)⟩
      obtain ⟨q, hw⟩ := HQ.out
      have d0 := H1.out k x hx
      have f0 := H2.out k x hx
      rw [← World.cell?_drewN w q] at d0 f0
      rw [← hw] at d0 f0
      have HMM : Hid (∀ m', ∃ q, wr.drewN m' = w.drewN q) := Lib.hid (fun m' => ⟨q + m', by rw [hw, World.drewN_drewN]⟩)
      generalize (⟨x.toArray⟩ : ByteArray) = X at *
      have q0 := eqT X X
      rw [decide_eq_true rfl] at q0
      clear hx hw HQ
      go_wp2
      go_quiet (fail)
      go_wp2
      go_roundw
      case rel => exact ⟨k + 1, by omega, by go_num, Lib.hid (HMM.out _)⟩
      case measure => simp [intOf]; omega
    · obtain rfl : k = n := by omega
      clear hlt
      go_wp2
      go_ret
      exact ⟨rfl, HQ.out⟩
theorem same2_below (u v : Value) (l : List Bs) (hl : l.length ≤ 90000) (w : World) (h1 : HoldT w u l) (h2 : HoldT w v l) : Calls Tryz.prog 18 #[u, v] w fun e w' => e = .returned (.bool true) ∧ Below w.heap.size w w' := (same2_ref u v l hl w h1 h2).mono (fun e w' ⟨he, q, hq⟩ => ⟨he, by rw [hq]; exact belowQ (Below.refl _ _) q⟩)
end Go.Proofs.YtpkdnohaefkfgaaGreatDoor
