/-
  Which slaves, which choices, which alternative may be, by the program: what each returns; nothing old turns. Condition: LaidP. Which choices, which current one, which alternative may be, and where a choice is, by the program: what each returns; nothing old turns. Condition: LaidP.
-/
import Derived.Test.YtnfhccnicojdcaaGreatDoorZSmall
import Derived.Test.YtnfhccnicojdcaaGreatDoorZBest
import Derived.Test.YtnfhccnicojdcaaGreatDoorZLinks
import Derived.Test.YtnfhccnicojdcaaGreatDoorPSorted2
namespace Go.Proofs.YtnfhccnicojdcaaGreatDoor
open Go.RowKit
/-- The alternative's texts are small. -/
structure SmA (x : Av) : Prop where
  nm : x.nm.length ≤ 4000
  lk : x.lk.length ≤ 4000
  cr : x.cr.length ≤ 4000
  sl : x.sl.length ≤ 90000
  ch : x.ch.length ≤ 90000
  ss : ∀ s ∈ x.sl, s.1.length ≤ 4000 ∧ s.2.length ≤ 4000
  cs : ∀ c ∈ x.ch, c.1.1.length ≤ 4000 ∧ c.1.2.2.length ≤ 90000 ∧ ∀ q ∈ c.1.2.2, q.length ≤ 4000
theorem FewOne.sm {x : Av} (h : FewOne x) : SmA x where
  nm := by have := h.nm; omega
  lk := by have := h.lk; omega
  cr := by have := h.cr; omega
  sl := by have := h.sl; omega
  ch := by have := h.ch; omega
  ss := fun s hs => by have := h.ss s hs; exact ⟨by have := this.1; omega, by have := this.2; omega⟩
  cs := fun c hc => by have := h.cs c hc; exact ⟨by have := this.1; omega, by have := this.2.1; omega, fun q hq => by have := this.2.2 q hq; omega⟩
/-- An alternative as a value, its slices written out. -/
structure ShA (x : Av) (sa : Option Addr) (sc : Nat) (ca : Option Addr) (cc : Nat) : Prop where
  s : x.sv = .slice sa x.sl.length sc
  c : x.cv = .slice ca x.ch.length cc
theorem InA.sh {w : World} {x : Av} (h : InA w x) : ∃ sa sc ca cc, ShA x sa sc ca cc := by
  obtain ⟨a, c, b, o, e, _⟩ := HoldS.parts h.1
  obtain ⟨a', c', b', o', e', _⟩ := HoldC.parts h.2
  exact ⟨a, c, a', c', e, e'⟩
theorem boxA6 (W : World) (x : Av) : (W.alloc (.cells #[.string (⟨x.nm.toArray⟩ : ByteArray), .string (⟨x.lk.toArray⟩ : ByteArray), .bool x.mn, .string (⟨x.cr.toArray⟩ : ByteArray), x.sv, x.cv] 26)).cell? ⟨W.heap.size, 0, none⟩ = some (.string (⟨x.nm.toArray⟩ : ByteArray)) := (boxV6 W _ _ _ _ _ _ _).1
section
open Classical
noncomputable def slB (x : Av) : Bool := decide (SlavesOk x)
theorem slB_yes {x : Av} (h : SlavesOk x) : slB x = true := decide_eq_true h
theorem slB_ok {x : Av} (h : slB x = true) : SlavesOk x := of_decide_eq_true h
theorem slB_no {x : Av} (h : ¬ SlavesOk x) : slB x = false := decide_eq_false h
noncomputable def chB (x : Av) : Bool := decide (ChoicesOk x)
theorem chB_yes {x : Av} (h : ChoicesOk x) : chB x = true := decide_eq_true h
theorem chB_ok {x : Av} (h : chB x = true) : ChoicesOk x := of_decide_eq_true h
theorem chB_no {x : Av} (h : ¬ ChoicesOk x) : chB x = false := decide_eq_false h
noncomputable def crB (x : Av) : Bool := decide (CurOk x)
theorem crB_yes {x : Av} (h : CurOk x) : crB x = true := decide_eq_true h
theorem crB_ok {x : Av} (h : crB x = true) : CurOk x := of_decide_eq_true h
theorem crB_no {x : Av} (h : ¬ CurOk x) : crB x = false := decide_eq_false h
end
theorem rightA_eq (x : Av) : rightA x = (nameB x.nm && plZ x.lk && slB x && chB x && crB x) := by
  by_cases h : GoodA x
  · rw [rightA_yes h, h.nm, h.lk, slB_yes h.sl, chB_yes h.ch, crB_yes h.cr]; rfl
  · rw [rightA_no h]
    symm
    rw [Bool.eq_false_iff]
    intro g
    simp only [Bool.and_eq_true] at g
    obtain ⟨⟨⟨⟨g1, g2⟩, g3⟩, g4⟩, g5⟩ := g
    exact h ⟨g1, g2, slB_ok g3, chB_ok g4, crB_ok g5⟩
set_option maxRecDepth 100000 in
set_option maxHeartbeats 8000000 in
theorem slavesOk_any (x : Av) (hs : SmA x) (w : World) (hL : LaidP w) (h : InA w x) : Calls Tryz.prog 66 #[agZA x] w fun e w' => e = .returned (.bool (slB x)) ∧ Below w.heap.size w w' := by
  have B1 := (Below.refl w.heap.size w).alloc (Nat.le_refl _) (.cells #[.string (⟨x.nm.toArray⟩ : ByteArray), .string (⟨x.lk.toArray⟩ : ByteArray), .bool x.mn, .string (⟨x.cr.toArray⟩ : ByteArray), x.sv, x.cv] 26)
  obtain ⟨x0, x1, x2, x3, x4, x5⟩ := boxV6 w (.string (⟨x.nm.toArray⟩ : ByteArray)) (.string (⟨x.lk.toArray⟩ : ByteArray)) (.bool x.mn) (.string (⟨x.cr.toArray⟩ : ByteArray)) x.sv x.cv 26
  have KC := kcheckS_any 103 #[.pointer (some ⟨w.heap.size, 0, none⟩)] (enters_of Tryz.func103 (by kernel_rfl) rfl) (rightS x.nm) x.sv x.sl hs.sl _ (HoldV.on h.1 B1)
    (fun s hsm W hb => rightS_any w.heap.size x.nm s (hs.ss s hsm) W ((hL.on B1).on hb) ((hb.cell (p := ⟨w.heap.size, 0, none⟩) (World.block_lt_of_cell? _ _ x0)).trans x0))
  have hFEW : Hid (kchkK (rightS x.nm) (fun x => x.1) x.sl = 0 → x.sl.length ≤ 64) := Lib.hid (fun e => by
    rcases kchkK_ways (rightS x.nm) (fun x => x.1) x.sl with ⟨_, g, _⟩ | ⟨g | g, _⟩
    · exact g
    · rw [e] at g; cases g
    · rw [e] at g; cases g)
  have LK := fun W (hb : Below w.heap.size w W) => links_any x hs.sl W (h.on hb)
  have SO := fun W v (hl : x.sl.length ≤ 64) (hb : Bare v) (hv : HoldT W v (linksA x)) => sorted_any v (linksA x) (by rw [linksA_len]; omega) hb W hv
  have HNO : Hid (kchkK (rightS x.nm) (fun x => x.1) x.sl ≠ 0 → slB x = false) := Lib.hid (fun g => slB_no (fun q => by
    rcases kchkK_ways (rightS x.nm) (fun x => x.1) x.sl with ⟨e, _⟩ | ⟨_, e⟩
    · exact g e
    · exact e ⟨q.few, q.steps⟩))
  have HYES : Hid (kchkK (rightS x.nm) (fun x => x.1) x.sl = 0 → slB x = decide ((((srt (linksA x)).length : Nat) : Int) = ((linksA x).length : Nat))) := Lib.hid (fun g => by
    rcases kchkK_ways (rightS x.nm) (fun x => x.1) x.sl with ⟨_, e1, e2⟩ | ⟨e | e, _⟩
    · by_cases hn : (linksA x).Nodup
      · rw [slB_yes (⟨e1, e2, hn⟩ : SlavesOk x), decide_eq_true (by rw [(srt_nodup _).2 hn])]
      · rw [slB_no (fun q : SlavesOk x => hn q.apart), decide_eq_false (fun q => hn ((srt_nodup _).1 (by omega)))]
    · rw [g] at e; cases e
    · rw [g] at e; cases e)
  obtain ⟨sa, sc, ca, cc, hsh⟩ := h.sh
  have HIN := Lib.hid h
  generalize slB x = R at *
  have HZ := Lib.hid (kchkK_ways (rightS x.nm) (fun x => x.1) x.sl)
  generalize kchkK (rightS x.nm) (fun x => x.1) x.sl = z at *
  unfold agZA at LK ⊢
  rw [hsh.s, hsh.c] at B1 x0 x1 x2 x3 x4 x5 LK ⊢
  rw [hsh.s, hsh.c] at KC
  unfold keyFS at KC
  have HLEN : Hid ((linksA x).length = x.sl.length + 1) := Lib.hid (linksA_len x)
  have hN : ∃ n, x.sl.length = n := ⟨_, rfl⟩
  obtain ⟨n, hN⟩ := hN
  rw [hN] at KC B1 x0 x1 x2 x3 x4 x5 LK
  rw [hN]
  generalize (⟨x.nm.toArray⟩ : ByteArray) = X0 at *
  generalize (⟨x.lk.toArray⟩ : ByteArray) = X1 at *
  generalize (⟨x.cr.toArray⟩ : ByteArray) = X3 at *
  generalize x.mn = mn at *
  generalize x.ch.length = cn at *
  generalize hLX : linksA x = LX at *
  rw [hN] at HLEN HZ
  have HB1 := Lib.hid B1
  clear hsh hN h hs hL B1
  rcases HZ.out with ⟨h0, h1, _⟩ | ⟨h0, _⟩
  · subst h0
    have l0 := World.block_lt_of_cell? _ _ x0
    have HR := Lib.hid (HYES.out rfl)
    clear HYES HNO
    go_enter Tryz.func66, Tryz.ntmps66
    go_wp2_with (first
      | (go_at_call 104; (with_reducible refine KC.mono ?_); rintro e w2 ⟨rfl, hb⟩; have HBa := Lib.hid hb; have HB2 := Lib.hid (HB1.out.trans (hb.mono HB1.out.size)); have y0 := (hb.cell (p := ⟨w.heap.size, 0, none⟩) l0).trans x0; have y1 := (hb.cell (p := ⟨w.heap.size, 1, none⟩) l0).trans x1; have y2 := (hb.cell (p := ⟨w.heap.size, 2, none⟩) l0).trans x2; have y3 := (hb.cell (p := ⟨w.heap.size, 3, none⟩) l0).trans x3; have y4 := (hb.cell (p := ⟨w.heap.size, 4, none⟩) l0).trans x4; have y5 := (hb.cell (p := ⟨w.heap.size, 5, none⟩) l0).trans x5; clear hb)
      | (go_at_call 14; (with_reducible refine (LK _ HB2.out).mono ?_); rintro e w3 ⟨v3, rfl, ho, hb⟩; have HO3 := Lib.hid ho; have HB3 := Lib.hid (HB2.out.trans (hb.mono HB2.out.size)); clear hb ho; refine Hid.out ?_))
    have HH3 := Lib.hid HO3.out.holds
    have S3 := SO w3 v3 (hFEW.out (by trivial)) (OwnS.bare HO3.out) HH3.out
    obtain ⟨v3a, v3c, v3b, v3o, hv3, -⟩ := HH3.out
    subst hv3
    clear SO HO3 HH3 hFEW HZ
    refine Lib.hid ?_
    go_wp2_with (go_at_call 106; (with_reducible refine S3.mono ?_); rintro e w4 ⟨v4, rfl, ho, hb⟩; have HB4 := Lib.hid (HB3.out.trans (hb.mono HB3.out.size)); have HH4 := Lib.hid ho.holds; clear hb ho; refine Hid.out ?_)
    obtain ⟨v4a, v4c, v4b, v4o, hv4, -⟩ := HH4.out
    subst hv4
    clear HH4 S3
    refine Lib.hid ?_
    go_wp2
    go_ret
    exact ⟨retb (by rw [HR.out, Bool.eq_iff_iff]; simp), HB4.out⟩
  · have hz : z ≠ 0 := by omega
    have hz' : (z != 0) = true := by simpa using hz
    have HR := Lib.hid (HNO.out hz)
    clear HYES HNO hFEW HZ LK SO hz
    go_enter Tryz.func66, Tryz.ntmps66
    go_wp2_with (go_at_call 104; (with_reducible refine KC.mono ?_); rintro e w2 ⟨rfl, hb⟩; have HB2 := Lib.hid (HB1.out.trans (hb.mono HB1.out.size)); clear hb)
    go_ret
    exact ⟨retb HR.out.symm, HB2.out⟩
set_option maxRecDepth 100000 in
set_option maxHeartbeats 8000000 in
theorem rightC_any (b : Nat) (sa : Option Addr) (n sc : Nat) (hn : n ≤ 90000) (x : Cv) (hx : x.1.1.length ≤ 4000 ∧ x.1.2.2.length ≤ 90000 ∧ ∀ q ∈ x.1.2.2, q.length ≤ 4000) (w : World) (hL : LaidP w) (hin : HoldT w x.2 x.1.2.2) (hb : w.cell? ⟨b, 4, none⟩ = some (.slice sa n sc)) :
    Calls Tryz.prog 107 #[agZC x, .pointer (some ⟨b, 0, none⟩)] w fun e w' => e = .returned (.bool (rightC n x)) ∧ Below w.heap.size w w' := by
  have PL := fun W => placeZ_any (⟨x.1.1.toArray⟩ : ByteArray) (by rw [sizeOf, bytesOf]; exact hx.1) W
  rw [bytesOf] at PL
  have l0 := World.block_lt_of_cell? _ _ hb
  have B0 := (Below.refl w.heap.size w).alloc (Nat.le_refl _) (.cells #[.string (⟨x.1.1.toArray⟩ : ByteArray), .int .i64 x.1.2.1, x.2] 32)
  obtain ⟨x0, x1, x2⟩ := boxV3 w (.string (⟨x.1.1.toArray⟩ : ByteArray)) (.int .i64 x.1.2.1) x.2 32
  have hb4 := (B0.cell (p := ⟨b, 4, none⟩) l0).trans hb
  have CT := fun W (hb : Below w.heap.size w W) => contT_any 109 #[] (enters_of Tryz.func109 (by kernel_rfl) rfl) (fun q => !tgC q) x.2 x.1.2.2 hx.2.1 W (hin.on hb) (predT_wrong x.1.2.2 hx.2.2 W (hL.on hb))
  have hany : (x.1.2.2.any fun q => !tgC q) = !x.1.2.2.all tgC := by
    induction x.1.2.2 with
    | nil => rfl
    | cons y l ih => rw [List.any_cons, List.all_cons, ih, Bool.not_and]
  rw [hany] at CT
  have HR : Hid (rightC n x = (plZ x.1.1 && decide (-2147483648 ≤ x.1.2.1) && decide (x.1.2.1 ≤ 2147483647) && decide (x.1.2.2.length = n) && x.1.2.2.all tgC)) := Lib.hid rfl
  obtain ⟨ta, tn, tc, hT, htl⟩ : ∃ ta tn tc, x.2 = .slice ta tn tc ∧ x.1.2.2.length = tn := by obtain ⟨a, c, b, o, e, _⟩ := hin; exact ⟨_, _, _, e, rfl⟩
  have ht9 := hx.2.1
  unfold agZC
  rw [hT] at B0 x0 x1 x2 CT hb4 ⊢
  rw [htl] at HR ht9
  rw [HR.out]
  generalize plZ x.1.1 = p at *
  generalize x.1.2.2.all tgC = q at *
  generalize (⟨x.1.1.toArray⟩ : ByteArray) = X0 at *
  generalize x.1.2.1 = z at *
  have HL := Lib.hid (hL.on B0)
  have HB0 := Lib.hid B0
  clear B0 hx hL hb l0 hin hany hT htl HR x
  by_cases h1 : -2147483648 ≤ z
  · by_cases h2 : z ≤ 2147483647
    · by_cases h3 : tn = n
      · subst h3
        rw [decide_eq_true h1, decide_eq_true h2, decide_eq_true rfl]
        cases p
        all_goals
          go_enter Tryz.func107, Tryz.ntmps107
          go_wp2_with (first
            | (go_at_call 65; (with_reducible refine (PL _ HL.out).mono ?_); rintro e w2 ⟨rfl, hb⟩; have HB := Lib.hid (HB0.out.trans (hb.mono HB0.out.size)); have hl0 := World.block_lt_of_cell? _ _ x0; have y1 := (hb.cell (p := ⟨w.heap.size, 1, none⟩) hl0).trans x1; have y2 := (hb.cell (p := ⟨w.heap.size, 2, none⟩) hl0).trans x2; have y3 := (hb.cell (p := ⟨b, 4, none⟩) (World.block_lt_of_cell? _ _ hb4)).trans hb4; clear hb)
            | (go_at_call 108; (with_reducible refine (CT _ HB.out).mono ?_); rintro e w3 ⟨rfl, hb⟩; have HB3 := Lib.hid (HB.out.trans (hb.mono HB.out.size)); clear hb))
          go_ret
          first | exact ⟨retb (by simp), HB3.out⟩ | exact ⟨retb (by simp), HB.out⟩
      · have h3' : ((tn : Int) == (n : Int)) = false := by simpa using (by omega : ¬ (tn : Int) = n)
        rw [decide_eq_true h1, decide_eq_true h2, decide_eq_false h3]
        clear CT
        cases p
        all_goals
          go_enter Tryz.func107, Tryz.ntmps107
          go_wp2_with (go_at_call 65; (with_reducible refine (PL _ HL.out).mono ?_); rintro e w2 ⟨rfl, hb⟩; have HB := Lib.hid (HB0.out.trans (hb.mono HB0.out.size)); have hl0 := World.block_lt_of_cell? _ _ x0; have y1 := (hb.cell (p := ⟨w.heap.size, 1, none⟩) hl0).trans x1; have y2 := (hb.cell (p := ⟨w.heap.size, 2, none⟩) hl0).trans x2; have y3 := (hb.cell (p := ⟨b, 4, none⟩) (World.block_lt_of_cell? _ _ hb4)).trans hb4; clear hb)
          go_ret
          exact ⟨retb (by simp), HB.out⟩
    · rw [decide_eq_true h1, decide_eq_false h2]
      clear CT
      cases p
      all_goals
        go_enter Tryz.func107, Tryz.ntmps107
        go_wp2_with (go_at_call 65; (with_reducible refine (PL _ HL.out).mono ?_); rintro e w2 ⟨rfl, hb⟩; have HB := Lib.hid (HB0.out.trans (hb.mono HB0.out.size)); have hl0 := World.block_lt_of_cell? _ _ x0; have y1 := (hb.cell (p := ⟨w.heap.size, 1, none⟩) hl0).trans x1; clear hb)
        go_ret
        exact ⟨retb (by simp), HB.out⟩
  · rw [decide_eq_false h1]
    clear CT
    cases p
    all_goals
      go_enter Tryz.func107, Tryz.ntmps107
      go_wp2_with (go_at_call 65; (with_reducible refine (PL _ HL.out).mono ?_); rintro e w2 ⟨rfl, hb⟩; have HB := Lib.hid (HB0.out.trans (hb.mono HB0.out.size)); have hl0 := World.block_lt_of_cell? _ _ x0; have y1 := (hb.cell (p := ⟨w.heap.size, 1, none⟩) hl0).trans x1; clear hb)
      go_ret
      exact ⟨retb (by simp), HB.out⟩
end Go.Proofs.YtnfhccnicojdcaaGreatDoor
namespace Go.Proofs.YtnfhccnicojdcaaGreatDoor
open Go.RowKit
set_option maxRecDepth 100000 in
set_option maxHeartbeats 8000000 in
theorem choicesOk_any (x : Av) (hs : SmA x) (w : World) (hL : LaidP w) (h : InA w x) : Calls Tryz.prog 67 #[agZA x] w fun e w' => e = .returned (.bool (chB x)) ∧ Below w.heap.size w w' := by
  have B1 := (Below.refl w.heap.size w).alloc (Nat.le_refl _) (.cells #[.string (⟨x.nm.toArray⟩ : ByteArray), .string (⟨x.lk.toArray⟩ : ByteArray), .bool x.mn, .string (⟨x.cr.toArray⟩ : ByteArray), x.sv, x.cv] 26)
  obtain ⟨x0, x1, x2, x3, x4, x5⟩ := boxV6 w (.string (⟨x.nm.toArray⟩ : ByteArray)) (.string (⟨x.lk.toArray⟩ : ByteArray)) (.bool x.mn) (.string (⟨x.cr.toArray⟩ : ByteArray)) x.sv x.cv 26
  obtain ⟨sa, sc, ca, cc, hsh⟩ := h.sh
  have KC := kcheckC_any 107 #[.pointer (some ⟨w.heap.size, 0, none⟩)] (enters_of Tryz.func107 (by kernel_rfl) rfl) (rightC x.sl.length) x.cv x.ch hs.ch _ (HoldC.on h.2 B1)
    (fun c hcm W hb => rightC_any w.heap.size sa x.sl.length sc hs.sl c (hs.cs c hcm) W ((hL.on B1).on hb) (((h.2.2 c hcm).on B1).on hb) ((hb.cell (p := ⟨w.heap.size, 4, none⟩) (World.block_lt_of_cell? _ _ x4)).trans (by rw [← hsh.s]; exact x4)))
  unfold keyFC at KC
  have HE : Hid (0 < x.ch.length → chB x = decide (kchkK (rightC x.sl.length) (fun x => x.1.1) x.ch = 0)) := Lib.hid (fun g0 => by
    rcases kchkK_ways (rightC x.sl.length) (fun x => x.1.1) x.ch with ⟨e, e1, e2⟩ | ⟨e, e1⟩
    · rw [decide_eq_true e, chB_yes ⟨g0, e1, e2⟩]
    · rw [decide_eq_false (by omega), chB_no (fun q => e1 ⟨q.few, q.steps⟩)])
  have HE0 : Hid (¬ 0 < x.ch.length → chB x = false) := Lib.hid (fun g => chB_no (fun q => g q.some))
  generalize chB x = R at *
  generalize kchkK (rightC x.sl.length) (fun x => x.1.1) x.ch = z at *
  have h9 := hs.ch
  unfold agZA
  rw [hsh.s, hsh.c] at B1 x0 x1 x2 x3 x4 x5 KC ⊢
  generalize (⟨x.nm.toArray⟩ : ByteArray) = X0 at *
  generalize (⟨x.lk.toArray⟩ : ByteArray) = X1 at *
  generalize (⟨x.cr.toArray⟩ : ByteArray) = X3 at *
  generalize x.mn = mn at *
  generalize x.sl.length = sn at *
  generalize x.ch.length = cn at *
  have HB1 := Lib.hid B1
  clear hsh h hs hL B1 x
  by_cases hc0 : 0 < cn
  · have HR := Lib.hid (HE.out hc0)
    clear HE HE0
    have hd : decide ((0 : Int) < (cn : Int)) = true := decide_eq_true (by omega)
    go_enter Tryz.func67, Tryz.ntmps67
    go_wp2_with (go_at_call 110; (with_reducible refine KC.mono ?_); rintro e w2 ⟨rfl, hb⟩; have HB2 := Lib.hid (HB1.out.trans (hb.mono HB1.out.size)); clear hb)
    go_ret
    exact ⟨retb (by rw [HR.out, Bool.eq_iff_iff]; simp), HB2.out⟩
  · have HR := Lib.hid (HE0.out hc0)
    clear HE HE0 KC
    have hd : decide ((0 : Int) < (cn : Int)) = false := decide_eq_false (by omega)
    go_enter Tryz.func67, Tryz.ntmps67
    go_wp2
    go_ret
    exact ⟨retb HR.out.symm, HB1.out⟩
set_option maxRecDepth 100000 in
set_option maxHeartbeats 8000000 in
theorem choiceZ_any (x : Av) (hs : x.ch.length ≤ 90000) (p : ByteArray) (w : World) (h : InA w x) : Calls Tryz.prog 25 #[agZA x, .string p] w fun e w' => e = .returned (.int .i64 (idxC x.ch p.data.toList)) ∧ Below w.heap.size w w' := by
  have B1 := (Below.refl w.heap.size w).alloc (Nat.le_refl _) (.cells #[.string (⟨x.nm.toArray⟩ : ByteArray), .string (⟨x.lk.toArray⟩ : ByteArray), .bool x.mn, .string (⟨x.cr.toArray⟩ : ByteArray), x.sv, x.cv] 26)
  obtain ⟨x0, x1, x2, x3, x4, x5⟩ := boxV6 w (.string (⟨x.nm.toArray⟩ : ByteArray)) (.string (⟨x.lk.toArray⟩ : ByteArray)) (.bool x.mn) (.string (⟨x.cr.toArray⟩ : ByteArray)) x.sv x.cv 26
  obtain ⟨sa, sc, ca, cc, hsh⟩ := h.sh
  have KF := kfindC_any x.cv x.ch hs p _ (HoldC.on h.2 B1)
  unfold keyFC at KF
  unfold idxC
  generalize idxK x.ch (fun x => decide (x.1.1 = p.data.toList)) = z at *
  unfold agZA
  rw [hsh.s, hsh.c] at B1 x0 x1 x2 x3 x4 x5 KF ⊢
  generalize (⟨x.nm.toArray⟩ : ByteArray) = X0 at *
  generalize (⟨x.lk.toArray⟩ : ByteArray) = X1 at *
  generalize (⟨x.cr.toArray⟩ : ByteArray) = X3 at *
  generalize x.mn = mn at *
  generalize x.sl.length = sn at *
  generalize x.ch.length = cn at *
  have HB1 := Lib.hid B1
  clear hsh h B1
  go_enter Tryz.func25, Tryz.ntmps25
  go_wp2_with (go_at_call 49; (with_reducible refine KF.mono ?_); rintro e w2 ⟨rfl, hb⟩; have HB2 := Lib.hid (HB1.out.trans (hb.mono HB1.out.size)); clear hb)
  go_ret
  exact ⟨rfl, HB2.out⟩
set_option maxRecDepth 100000 in
set_option maxHeartbeats 8000000 in
theorem curOk_any (x : Av) (hs : x.ch.length ≤ 90000) (w : World) (h : InA w x) : Calls Tryz.prog 68 #[agZA x] w fun e w' => e = .returned (.bool (crB x)) ∧ Below w.heap.size w w' := by
  have B1 := (Below.refl w.heap.size w).alloc (Nat.le_refl _) (.cells #[.string (⟨x.nm.toArray⟩ : ByteArray), .string (⟨x.lk.toArray⟩ : ByteArray), .bool x.mn, .string (⟨x.cr.toArray⟩ : ByteArray), x.sv, x.cv] 26)
  obtain ⟨x0, x1, x2, x3, x4, x5⟩ := boxV6 w (.string (⟨x.nm.toArray⟩ : ByteArray)) (.string (⟨x.lk.toArray⟩ : ByteArray)) (.bool x.mn) (.string (⟨x.cr.toArray⟩ : ByteArray)) x.sv x.cv 26
  obtain ⟨sa, sc, ca, cc, hsh⟩ := h.sh
  have CH := fun W (hb : Below w.heap.size w W) => choiceZ_any x hs (⟨x.cr.toArray⟩ : ByteArray) W (h.on hb)
  rw [bytesOf] at CH
  have BE := fun W (hb : Below w.heap.size w W) => bestC_any x.cv x.ch hs W (HoldC.on h.2 hb)
  have HR : Hid (crB x = (decide (0 ≤ idxC x.ch x.cr) && (x.mn || decide (idxC x.ch x.cr = bestC x.ch)))) := Lib.hid (by
    by_cases g : CurOk x
    · rw [crB_yes g, decide_eq_true g.there]
      rcases g.best with g | g
      · rw [g]; rfl
      · rw [decide_eq_true g]; simp
    · rw [crB_no g]
      symm
      rw [Bool.eq_false_iff]
      intro q
      simp only [Bool.and_eq_true, Bool.or_eq_true, decide_eq_true_eq] at q
      exact g ⟨q.1, q.2⟩)
  rw [HR.out]
  generalize idxC x.ch x.cr = z at *
  generalize bestC x.ch = y at *
  unfold agZA at CH ⊢
  rw [hsh.s, hsh.c] at B1 x0 x1 x2 x3 x4 x5 CH ⊢
  rw [hsh.c] at BE
  generalize (⟨x.nm.toArray⟩ : ByteArray) = X0 at *
  generalize (⟨x.lk.toArray⟩ : ByteArray) = X1 at *
  generalize (⟨x.cr.toArray⟩ : ByteArray) = X3 at *
  generalize x.mn = mn at *
  generalize x.sl.length = sn at *
  generalize x.ch.length = cn at *
  have HB1 := Lib.hid B1
  have l0 := World.block_lt_of_cell? _ _ x0
  clear hsh h B1 HR
  by_cases hz : 0 ≤ z
  · have hd : decide (z ≥ 0) = true := decide_eq_true hz
    rw [decide_eq_true hz]
    cases mn
    all_goals
      go_enter Tryz.func68, Tryz.ntmps68
      go_wp2_with (first
        | (go_at_call 25; (with_reducible refine (CH _ HB1.out).mono ?_); rintro e w2 ⟨rfl, hb⟩; have HB2 := Lib.hid (HB1.out.trans (hb.mono HB1.out.size)); have y0 := (hb.cell (p := ⟨w.heap.size, 0, none⟩) l0).trans x0; have y1 := (hb.cell (p := ⟨w.heap.size, 1, none⟩) l0).trans x1; have y2 := (hb.cell (p := ⟨w.heap.size, 2, none⟩) l0).trans x2; have y3 := (hb.cell (p := ⟨w.heap.size, 3, none⟩) l0).trans x3; have y4 := (hb.cell (p := ⟨w.heap.size, 4, none⟩) l0).trans x4; have y5 := (hb.cell (p := ⟨w.heap.size, 5, none⟩) l0).trans x5; clear hb)
        | (go_at_call 11; (with_reducible refine (BE _ HB2.out).mono ?_); rintro e w3 ⟨rfl, hb⟩; have HB3 := Lib.hid (HB2.out.trans (hb.mono HB2.out.size)); clear hb))
      go_ret
      first | exact ⟨retb (by rw [Bool.eq_iff_iff]; simp), HB3.out⟩ | exact ⟨retb (by simp), HB2.out⟩
  · have hd : decide (z ≥ 0) = false := decide_eq_false hz
    rw [decide_eq_false hz]
    clear BE
    go_enter Tryz.func68, Tryz.ntmps68
    go_wp2_with (go_at_call 25; (with_reducible refine (CH _ HB1.out).mono ?_); rintro e w2 ⟨rfl, hb⟩; have HB2 := Lib.hid (HB1.out.trans (hb.mono HB1.out.size)); have y0 := (hb.cell (p := ⟨w.heap.size, 0, none⟩) l0).trans x0; have y1 := (hb.cell (p := ⟨w.heap.size, 1, none⟩) l0).trans x1; have y2 := (hb.cell (p := ⟨w.heap.size, 2, none⟩) l0).trans x2; have y3 := (hb.cell (p := ⟨w.heap.size, 3, none⟩) l0).trans x3; have y4 := (hb.cell (p := ⟨w.heap.size, 4, none⟩) l0).trans x4; have y5 := (hb.cell (p := ⟨w.heap.size, 5, none⟩) l0).trans x5; clear hb)
    go_ret
    exact ⟨retb (by simp), HB2.out⟩
set_option maxRecDepth 100000 in
set_option maxHeartbeats 8000000 in
theorem rightA_any (x : Av) (hs : SmA x) (w : World) (hL : LaidP w) (h : InA w x) : Calls Tryz.prog 35 #[agZA x] w fun e w' => e = .returned (.bool (rightA x)) ∧ Below w.heap.size w w' := by
  have B1 := (Below.refl w.heap.size w).alloc (Nat.le_refl _) (.cells #[.string (⟨x.nm.toArray⟩ : ByteArray), .string (⟨x.lk.toArray⟩ : ByteArray), .bool x.mn, .string (⟨x.cr.toArray⟩ : ByteArray), x.sv, x.cv] 26)
  obtain ⟨x0, x1, x2, x3, x4, x5⟩ := boxV6 w (.string (⟨x.nm.toArray⟩ : ByteArray)) (.string (⟨x.lk.toArray⟩ : ByteArray)) (.bool x.mn) (.string (⟨x.cr.toArray⟩ : ByteArray)) x.sv x.cv 26
  obtain ⟨sa, sc, ca, cc, hsh⟩ := h.sh
  have NM := fun W => name_any (⟨x.nm.toArray⟩ : ByteArray) (by rw [sizeOf, bytesOf]; exact hs.nm) W
  have PL := fun W (hb : Below w.heap.size w W) => placeZ_any (⟨x.lk.toArray⟩ : ByteArray) (by rw [sizeOf, bytesOf]; exact hs.lk) W (hL.on hb)
  rw [bytesOf] at NM PL
  have SL := fun W (hb : Below w.heap.size w W) => slavesOk_any x hs W (hL.on hb) (h.on hb)
  have CH := fun W (hb : Below w.heap.size w W) => choicesOk_any x hs W (hL.on hb) (h.on hb)
  have CR := fun W (hb : Below w.heap.size w W) => curOk_any x hs.ch W (h.on hb)
  rw [rightA_eq]
  generalize nameB x.nm = r1 at *
  generalize plZ x.lk = r2 at *
  generalize slB x = r3 at *
  generalize chB x = r4 at *
  generalize crB x = r5 at *
  unfold agZA at SL CH CR ⊢
  rw [hsh.s, hsh.c] at B1 x0 x1 x2 x3 x4 x5 SL CH CR ⊢
  generalize (⟨x.nm.toArray⟩ : ByteArray) = X0 at *
  generalize (⟨x.lk.toArray⟩ : ByteArray) = X1 at *
  generalize (⟨x.cr.toArray⟩ : ByteArray) = X3 at *
  generalize x.mn = mn at *
  generalize x.sl.length = sn at *
  generalize x.ch.length = cn at *
  have HB1 := Lib.hid B1
  have l0 := World.block_lt_of_cell? _ _ x0
  clear hsh h B1 hL hs x
  cases r1
  · go_enter Tryz.func35, Tryz.ntmps35
    go_wp2_with (go_at_call 64; (with_reducible refine (NM _).mono ?_); rintro e w2 ⟨rfl, rfl⟩)
    go_ret
    exact ⟨retb (by simp), HB1.out⟩
  · cases r2 <;> cases r3 <;> cases r4
    all_goals
      go_enter Tryz.func35, Tryz.ntmps35
      go_wp2_with (first
        | (go_at_call 64; (with_reducible refine (NM _).mono ?_); rintro e w2 ⟨rfl, rfl⟩)
        | (go_at_call 65; (with_reducible refine (PL _ HB1.out).mono ?_); rintro e w2 ⟨rfl, hb⟩; have HB2 := Lib.hid (HB1.out.trans (hb.mono HB1.out.size)); have y0 := (hb.cell (p := ⟨w.heap.size, 0, none⟩) l0).trans x0; have y1 := (hb.cell (p := ⟨w.heap.size, 1, none⟩) l0).trans x1; have y2 := (hb.cell (p := ⟨w.heap.size, 2, none⟩) l0).trans x2; have y3 := (hb.cell (p := ⟨w.heap.size, 3, none⟩) l0).trans x3; have y4 := (hb.cell (p := ⟨w.heap.size, 4, none⟩) l0).trans x4; have y5 := (hb.cell (p := ⟨w.heap.size, 5, none⟩) l0).trans x5; have l2 := World.block_lt_of_cell? _ _ y0; clear hb)
        | (go_at_call 66; (with_reducible refine (SL _ HB2.out).mono ?_); rintro e w3 ⟨rfl, hb⟩; have HB3 := Lib.hid (HB2.out.trans (hb.mono HB2.out.size)); have z0 := (hb.cell (p := ⟨w.heap.size, 0, none⟩) l2).trans y0; have z1 := (hb.cell (p := ⟨w.heap.size, 1, none⟩) l2).trans y1; have z2 := (hb.cell (p := ⟨w.heap.size, 2, none⟩) l2).trans y2; have z3 := (hb.cell (p := ⟨w.heap.size, 3, none⟩) l2).trans y3; have z4 := (hb.cell (p := ⟨w.heap.size, 4, none⟩) l2).trans y4; have z5 := (hb.cell (p := ⟨w.heap.size, 5, none⟩) l2).trans y5; have l3 := World.block_lt_of_cell? _ _ z0; clear hb)
        | (go_at_call 67; (with_reducible refine (CH _ HB3.out).mono ?_); rintro e w4 ⟨rfl, hb⟩; have HB4 := Lib.hid (HB3.out.trans (hb.mono HB3.out.size)); have q0 := (hb.cell (p := ⟨w.heap.size, 0, none⟩) l3).trans z0; have q1 := (hb.cell (p := ⟨w.heap.size, 1, none⟩) l3).trans z1; have q2 := (hb.cell (p := ⟨w.heap.size, 2, none⟩) l3).trans z2; have q3 := (hb.cell (p := ⟨w.heap.size, 3, none⟩) l3).trans z3; have q4 := (hb.cell (p := ⟨w.heap.size, 4, none⟩) l3).trans z4; have q5 := (hb.cell (p := ⟨w.heap.size, 5, none⟩) l3).trans z5; clear hb)
        | (go_at_call 68; (with_reducible refine (CR _ HB4.out).mono ?_); rintro e w5 ⟨rfl, hb⟩; have HB5 := Lib.hid (HB4.out.trans (hb.mono HB4.out.size)); clear hb))
      go_ret
      first | exact ⟨retb (by simp), HB5.out⟩ | exact ⟨retb (by simp), HB4.out⟩ | exact ⟨retb (by simp), HB3.out⟩ | exact ⟨retb (by simp), HB2.out⟩
end Go.Proofs.YtnfhccnicojdcaaGreatDoor
