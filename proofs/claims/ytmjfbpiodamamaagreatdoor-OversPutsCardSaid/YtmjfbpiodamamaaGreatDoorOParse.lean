/-
  The reader of an override's words: its methods, and read of a line: what each leaves and returns; nothing old turns. Conditions: LaidE. read of a line: what it returns; nothing old turns. Condition: LaidE. The program's Parse of overrides: what it returns; nothing old turns. Conditions: LaidP, LaidE.
-/
import Derived.Test.YtmjfbpiodamamaaGreatDoorOPrint
import Derived.Test.YtmjfbpiodamamaaGreatDoorTextsWalk
import Derived.Test.YtmjfbpiodamamaaGreatDoorSPWords2
import Derived.Maps.AppendAt
import Derived.Shelf.Abstract
import Derived.Deep.AppendLies
import Derived.Laws.EntriesVeiled
namespace Go.Proofs.YtmjfbpiodamamaaGreatDoor
open Go.RowKit
theorem set_grown (w : World) (b i : Nat) (u : Value) : w.grownBy (w.setCell ⟨b, i, none⟩ u) (some b) :=
  ⟨rfl, rfl, rfl, (KeepsWalks.setCell w ⟨b, i, none⟩ u).size, fun k _ hk => Below.heap_setCell _ _ _ k (fun e => hk (by rw [e]))⟩
theorem grownBb {w w' : World} {b : Nat} (h : Below w.heap.size w w') : w.grownBy w' (some b) := (grownV h).but (some b)
structure R5 (W : World) (b : Nat) (p : ByteArray) (m u g e : Int) : Prop where
  c0 : W.cell? ⟨b, 0, none⟩ = some (.string p)
  c1 : W.cell? ⟨b, 1, none⟩ = some (.int .i64 m)
  c2 : W.cell? ⟨b, 2, none⟩ = some (.int .i64 u)
  c3 : W.cell? ⟨b, 3, none⟩ = some (.int .i64 g)
  c4 : W.cell? ⟨b, 4, none⟩ = some (.int .i64 e)
  f : ∀ i, W.frozen? ⟨b, i, none⟩ = false
theorem R5.new (W : World) (t : TypeId) : R5 (W.alloc (.cells #[.string ⟨#[]⟩, .int .i64 0, .int .i64 0, .int .i64 0, .int .i64 0] t)) W.heap.size ⟨#[]⟩ 0 0 0 0 := by
  have h := heap_alloc_new W (.cells #[.string ⟨#[]⟩, .int .i64 0, .int .i64 0, .int .i64 0, .int .i64 0] t)
  exact ⟨by rw [cellRow _ W.heap.size 0 _ t (0, 0) h]; rfl, by rw [cellRow _ W.heap.size 1 _ t (0, 0) h]; rfl, by rw [cellRow _ W.heap.size 2 _ t (0, 0) h]; rfl, by rw [cellRow _ W.heap.size 3 _ t (0, 0) h]; rfl, by rw [cellRow _ W.heap.size 4 _ t (0, 0) h]; rfl, fun i => frozen_of_row _ W.heap.size i _ t h⟩
theorem R5.on {A B : World} {b : Nat} {p : ByteArray} {m u g e : Int} (h : R5 A b p m u g e) (hb : Below A.heap.size A B) : R5 B b p m u g e := by
  have hlt := World.block_lt_of_cell? A _ h.c0
  have k := fun o => hb.cell (p := ⟨b, o, none⟩) hlt
  exact ⟨by rw [k]; exact h.c0, by rw [k]; exact h.c1, by rw [k]; exact h.c2, by rw [k]; exact h.c3, by rw [k]; exact h.c4, fun i => by rw [hb.frozen (p := ⟨b, i, none⟩) hlt]; exact h.f i⟩
theorem R5.lt {A : World} {b : Nat} {p : ByteArray} {m u g e : Int} (h : R5 A b p m u g e) : b < A.heap.size := World.block_lt_of_cell? A _ h.c0
theorem set_oth {A : World} {b i j : Nat} {u v : Value} (hij : i ≠ j) (hv : A.cell? ⟨b, j, none⟩ = some v) : (A.setCell ⟨b, i, none⟩ u).cell? ⟨b, j, none⟩ = some v := (World.cell?_setCell_other _ _ _ _ (fun e => hij (congrArg Addr.off e))).trans hv
theorem set_same {A : World} {b i : Nat} {u v : Value} (hv : A.cell? ⟨b, i, none⟩ = some v) : (A.setCell ⟨b, i, none⟩ u).cell? ⟨b, i, none⟩ = some u := World.cell?_setCell_same _ _ _ hv
theorem set_frz {A : World} {b i j : Nat} {u : Value} (h : A.frozen? ⟨b, j, none⟩ = false) : (A.setCell ⟨b, i, none⟩ u).frozen? ⟨b, j, none⟩ = false := by
  first | (rw [World.frozen?_setCell]; exact h) | simpa using h
theorem R5.set0 {A : World} {b : Nat} {p : ByteArray} {m u g e : Int} (h : R5 A b p m u g e) (q : ByteArray) : R5 (A.setCell ⟨b, 0, none⟩ (.string q)) b q m u g e :=
  ⟨set_same h.c0, set_oth (by omega) h.c1, set_oth (by omega) h.c2, set_oth (by omega) h.c3, set_oth (by omega) h.c4, fun i => set_frz (h.f i)⟩
theorem R5.set1 {A : World} {b : Nat} {p : ByteArray} {m u g e : Int} (h : R5 A b p m u g e) (q : Int) : R5 (A.setCell ⟨b, 1, none⟩ (.int .i64 q)) b p q u g e :=
  ⟨set_oth (by omega) h.c0, set_same h.c1, set_oth (by omega) h.c2, set_oth (by omega) h.c3, set_oth (by omega) h.c4, fun i => set_frz (h.f i)⟩
theorem R5.set2 {A : World} {b : Nat} {p : ByteArray} {m u g e : Int} (h : R5 A b p m u g e) (q : Int) : R5 (A.setCell ⟨b, 2, none⟩ (.int .i64 q)) b p m q g e :=
  ⟨set_oth (by omega) h.c0, set_oth (by omega) h.c1, set_same h.c2, set_oth (by omega) h.c3, set_oth (by omega) h.c4, fun i => set_frz (h.f i)⟩
theorem R5.set3 {A : World} {b : Nat} {p : ByteArray} {m u g e : Int} (h : R5 A b p m u g e) (q : Int) : R5 (A.setCell ⟨b, 3, none⟩ (.int .i64 q)) b p m u q e :=
  ⟨set_oth (by omega) h.c0, set_oth (by omega) h.c1, set_oth (by omega) h.c2, set_same h.c3, set_oth (by omega) h.c4, fun i => set_frz (h.f i)⟩
theorem R5.set4 {A : World} {b : Nat} {p : ByteArray} {m u g e : Int} (h : R5 A b p m u g e) (q : Int) : R5 (A.setCell ⟨b, 4, none⟩ (.int .i64 q)) b p m u g q :=
  ⟨set_oth (by omega) h.c0, set_oth (by omega) h.c1, set_oth (by omega) h.c2, set_oth (by omega) h.c3, set_same h.c4, fun i => set_frz (h.f i)⟩
def noteO (e z : Int) : Int := if e = 0 then z else e
theorem note_any (b : Nat) (p : ByteArray) (m u g e z : Int) (W : World) (h : R5 W b p m u g e) :
    Calls Tryz.prog 80 #[.pointer (some ⟨b, 0, none⟩), .int .i64 z] W fun E w' => E = .returned (.tuple #[]) ∧ R5 w' b p m u g (noteO e z) ∧ W.grownBy w' (some b) := by
  have c4 := h.c4
  have f4 := h.f 4
  by_cases he : e = 0
  · subst he
    have HR := Lib.hid (h.set4 z)
    have HG := Lib.hid (set_grown W b 4 (.int .i64 z))
    clear h
    go_enter Tryz.func80, Tryz.ntmps80
    go_wp2
    go_end0
    exact ⟨rfl, by rw [noteO, if_pos rfl]; exact HR.out, HG.out⟩
  · have HR := Lib.hid h
    have he' : (e == 0) = false := by rw [beq_eq_false_iff_ne]; exact he
    clear h
    go_enter Tryz.func80, Tryz.ntmps80
    go_wp2
    go_end0
    exact ⟨rfl, by rw [noteO, if_neg he]; exact HR.out, World.grownBy.refl _ _⟩
def cutO (s : Bs) : Bs := Lib.trimPrefix s [35]
def nE (s : Bs) : Int := (numI (cutO s)).getD 0
def mE (s : Bs) : Int := if Lib.hasPrefix s [35] = true then (match numI (cutO s) with | some _ => 0 | none => 2) else 2
theorem cutO_len (s : Bs) : (cutO s).length ≤ s.length := by
  unfold cutO Lib.trimPrefix
  split <;> simp
theorem markO_is (s : Bs) : (∀ n, markO s = some n → mE s = 0 ∧ nE s = n) ∧ (markO s = none → mE s = 2) := by
  cases s with
  | nil => exact ⟨fun n h => (by simp [markO] at h), fun _ => rfl⟩
  | cons c s =>
    by_cases hc : c = 35
    · subst hc
      have h1 : Lib.hasPrefix (35 :: s) [35] = true := by simp [Lib.hasPrefix]
      have h2 : cutO (35 :: s) = s := by unfold cutO Lib.trimPrefix; rw [if_pos h1]; rfl
      have h3 : markO (35 :: s) = numI s := by unfold markO; rw [if_pos (show (35 :: s).head? = some 35 from rfl)]; rfl
      unfold mE nE
      rw [h1, h2, h3, if_pos rfl]
      cases numI s with
      | none => exact ⟨fun n h => (by cases h), fun _ => rfl⟩
      | some n => exact ⟨fun k h => (by cases h; exact ⟨rfl, rfl⟩), fun h => (by cases h)⟩
    · have h1 : ¬ Lib.hasPrefix (c :: s) [35] = true := by simp [Lib.hasPrefix]; exact fun e => hc e.symm
      have h3 : markO (c :: s) = none := by unfold markO; rw [if_neg (by simpa using hc)]
      unfold mE
      rw [h3, if_neg h1]
      exact ⟨fun n h => (by cases h), fun _ => rfl⟩
def IntP (n z : Int) (w : World) (e : Ending) (w' : World) : Prop := e = .returned (.tuple #[.int .i64 n, .int .i64 z]) ∧ Below w.heap.size w w'
theorem int_two (s : ByteArray) (hs : s.size ≤ 4000) (w : World) (h : LaidE w) : Calls Tryz.prog 98 #[.string s] w (IntP ((numI s.data.toList).getD 0) (match numI s.data.toList with | some _ => 0 | none => 2) w) :=
  (bitsTextsw.int_any s hs w h).mono (fun e w' hp => by
    unfold bitsTextsw.IntPost at hp
    unfold IntP
    cases hn : numI s.data.toList with
    | some n => rw [hn] at hp; exact hp
    | none => rw [hn] at hp; exact hp)
def RdP (b : Nat) (p : ByteArray) (m u g e : Int) (W : World) (E : Ending) (w' : World) : Prop := E = .returned (.tuple #[]) ∧ R5 w' b p m u g e ∧ W.grownBy w' (some b)
set_option maxHeartbeats 2000000 in
theorem id_any (b : Nat) (p : ByteArray) (m u g e : Int) (s : ByteArray) (hs : s.size ≤ 4000) (W : World) (hL : LaidE W) (h : R5 W b p m u g e) :
    Calls Tryz.prog 78 #[.pointer (some ⟨b, 0, none⟩), .string s] W fun E w' => E = .returned (.int .i64 (nE s.data.toList)) ∧ R5 w' b p m u g (noteO e (mE s.data.toList)) ∧ W.grownBy w' (some b) := by
  have C := fun w => Tryz.strings_CutPrefix s ⟨#[35]⟩ w
  have I := int_two ⟨(cutO s.data.toList).toArray⟩ (by rw [sizeOf, bytesOf]; have := cutO_len s.data.toList; rw [sizeOf] at hs; omega) W hL
  rw [bytesOf] at I
  unfold cutO at I
  have N0 := fun (z : Int) (W' : World) (hb : Below W.heap.size W W') => note_any b p m u g e z W' (h.on hb)
  have HG : Hid (∀ W' W2, Below W.heap.size W W' → W'.grownBy W2 (some b) → W.grownBy W2 (some b)) := Lib.hid (fun W' W2 h1 h2 => (grownBb h1).trans h2)
  unfold nE mE cutO
  unfold IntP at I
  clear hL h hs
  generalize ((numI (Lib.trimPrefix s.data.toList [35])).getD 0) = n at *
  obtain ⟨z, hz⟩ : ∃ z, (match numI (Lib.trimPrefix s.data.toList [35]) with | some _ => (0 : Int) | none => 2) = z := ⟨_, rfl⟩
  simp only [hz] at I ⊢
  clear hz
  have e35 : (⟨#[35]⟩ : ByteArray).data.toList = [35] := rfl
  rw [e35] at C
  generalize (⟨(Lib.trimPrefix s.data.toList [35]).toArray⟩ : ByteArray) = D at *
  cases hq : Lib.hasPrefix s.data.toList [35]
  · rw [hq] at C
    have N1 := N0 2
    clear N0 hq
    rw [if_neg (by decide)]
    go_enter Tryz.func78, Tryz.ntmps78
    go_wp2_with (first
      | (go_at_call 97; (with_reducible refine (C _).mono ?_); rintro e1 w1 ⟨rfl, rfl⟩)
      | (go_at_call 98; (with_reducible refine I.mono ?_); rintro e2 w2 ⟨rfl, hb⟩; have HB := Lib.hid hb; clear hb)
      | (go_at_call 80; (with_reducible refine (N1 _ HB.out).mono ?_); rintro e3 w3 ⟨rfl, h5, hg⟩; have H5 := Lib.hid h5; have HG3 := Lib.hid (HG.out _ _ HB.out hg); clear h5 hg))
    go_ret
    exact ⟨rfl, H5.out, HG3.out⟩
  · rw [hq] at C
    have N1 := N0 z
    clear N0 hq
    rw [if_pos rfl]
    go_enter Tryz.func78, Tryz.ntmps78
    go_wp2_with (first
      | (go_at_call 97; (with_reducible refine (C _).mono ?_); rintro e1 w1 ⟨rfl, rfl⟩)
      | (go_at_call 98; (with_reducible refine I.mono ?_); rintro e2 w2 ⟨rfl, hb⟩; have HB := Lib.hid hb; clear hb)
      | (go_at_call 80; (with_reducible refine (N1 _ HB.out).mono ?_); rintro e3 w3 ⟨rfl, h5, hg⟩; have H5 := Lib.hid h5; have HG3 := Lib.hid (HG.out _ _ HB.out hg); clear h5 hg))
    go_ret
    exact ⟨rfl, H5.out, HG3.out⟩
theorem uid_any (b : Nat) (p : ByteArray) (m u g e : Int) (s : ByteArray) (hs : s.size ≤ 4000) (W : World) (hL : LaidE W) (h : R5 W b p m u g e) :
    Calls Tryz.prog 56 #[.pointer (some ⟨b, 0, none⟩), .string s] W (RdP b p m (nE s.data.toList) g (noteO e (mE s.data.toList)) W) := by
  have I := id_any b p m u g e s hs W hL h
  unfold RdP
  clear hL h hs
  generalize nE s.data.toList = n at *
  generalize noteO e (mE s.data.toList) = z at *
  go_enter Tryz.func56, Tryz.ntmps56
  go_wp2_with (go_at_call 78; (with_reducible refine I.mono ?_); rintro e1 w1 ⟨rfl, h5, hg⟩; have H5 := Lib.hid (h5.set2 n); have HG := Lib.hid (hg.trans (set_grown w1 b 2 (.int .i64 n))); have c2 := h5.c2; have f2 := h5.f 2; clear h5 hg)
  go_end0
  exact ⟨rfl, H5.out, HG.out⟩
theorem gid_any (b : Nat) (p : ByteArray) (m u g e : Int) (s : ByteArray) (hs : s.size ≤ 4000) (W : World) (hL : LaidE W) (h : R5 W b p m u g e) :
    Calls Tryz.prog 57 #[.pointer (some ⟨b, 0, none⟩), .string s] W (RdP b p m u (nE s.data.toList) (noteO e (mE s.data.toList)) W) := by
  have I := id_any b p m u g e s hs W hL h
  unfold RdP
  clear hL h hs
  generalize nE s.data.toList = n at *
  generalize noteO e (mE s.data.toList) = z at *
  go_enter Tryz.func57, Tryz.ntmps57
  go_wp2_with (go_at_call 78; (with_reducible refine I.mono ?_); rintro e1 w1 ⟨rfl, h5, hg⟩; have H5 := Lib.hid (h5.set3 n); have HG := Lib.hid (hg.trans (set_grown w1 b 3 (.int .i64 n))); have c3 := h5.c3; have f3 := h5.f 3; clear h5 hg)
  go_end0
  exact ⟨rfl, H5.out, HG.out⟩
theorem path_any5 (b : Nat) (p : ByteArray) (m u g e : Int) (s : ByteArray) (W : World) (h : R5 W b p m u g e) :
    Calls Tryz.prog 59 #[.pointer (some ⟨b, 0, none⟩), .string s] W (RdP b s m u g e W) := by
  have H5 := Lib.hid (h.set0 s)
  have HG := Lib.hid (set_grown W b 0 (.string s))
  have c0 := h.c0
  have f0 := h.f 0
  unfold RdP
  clear h
  go_enter Tryz.func59, Tryz.ntmps59
  go_wp2
  go_end0
  exact ⟨rfl, H5.out, HG.out⟩
def oE (s : Bs) : Int := match numOf 8 4 s with | some _ => 0 | none => 2
theorem oct_two (s : ByteArray) (hs : s.size ≤ 4000) (w : World) (h : LaidE w) : Calls Tryz.prog 79 #[.string s] w (IntP (modeO s.data.toList) (oE s.data.toList) w) :=
  (parseOctal_any s hs w h).mono (fun e w' hp => by
    unfold OctPost at hp
    unfold IntP modeO oE
    cases hn : numOf 8 4 s.data.toList with
    | some n => rw [hn] at hp; exact hp
    | none => rw [hn] at hp; exact hp)
set_option maxHeartbeats 2000000 in
theorem mode_any5 (b : Nat) (p : ByteArray) (m u g e : Int) (s : ByteArray) (hs : s.size ≤ 4000) (W : World) (hL : LaidE W) (h : R5 W b p m u g e) :
    Calls Tryz.prog 58 #[.pointer (some ⟨b, 0, none⟩), .string s] W (RdP b p (modeO s.data.toList) u g (noteO e (oE s.data.toList)) W) := by
  have I := oct_two s hs W hL
  unfold IntP at I
  have HH : Hid (∀ W', Below W.heap.size W W' → R5 W' b p m u g e) := Lib.hid (fun W' hb => h.on hb)
  have HN : Hid (∀ (n z : Int) (W' : World), Below W.heap.size W W' → Calls Tryz.prog 80 #[.pointer (some ⟨b, 0, none⟩), .int .i64 z] (W'.setCell ⟨b, 1, none⟩ (.int .i64 n)) (RdP b p n u g (noteO e z) W)) := Lib.hid (fun n z W' hb =>
    (note_any b p n u g e z _ ((h.on hb).set1 n)).mono (fun E w' ⟨h1, h2, h3⟩ => ⟨h1, h2, (grownBb hb).trans ((set_grown W' b 1 _).trans h3)⟩))
  generalize modeO s.data.toList = n at *
  generalize oE s.data.toList = z at *
  have HN2 := HN.out n z
  unfold RdP at HN2
  unfold RdP
  clear hL h hs HN
  go_enter Tryz.func58, Tryz.ntmps58
  go_wp2_with (first
    | (go_at_call 79; (with_reducible refine I.mono ?_); rintro e2 w2 ⟨rfl, hb⟩; have HB := Lib.hid hb; have c1 := (HH.out _ hb).c1; have f1 := (HH.out _ hb).f 1; clear hb)
    | (go_at_call 80; (with_reducible refine (HN2 _ HB.out).mono ?_); rintro e3 w3 ⟨rfl, h5, hg⟩; have H5 := Lib.hid h5; have HG3 := Lib.hid hg; clear h5 hg))
  go_end0
  exact ⟨rfl, H5.out, HG3.out⟩
end Go.Proofs.YtmjfbpiodamamaaGreatDoor
namespace Go.Proofs.YtmjfbpiodamamaaGreatDoor
open Go.RowKit
theorem words_len (s : Bs) : (wordsL s).length ≤ s.length + 1 ∧ ∀ p ∈ wordsL s, p.length ≤ s.length := by
  unfold wordsL
  refine ⟨Nat.le_trans (List.length_filter_le _ _) (spl_len 32 s), fun p hp => spl_piece 32 s p (List.mem_filter.1 hp).1⟩
def ReadOP (s : Bs) (w : World) (e : Ending) (w' : World) : Prop := ∃ (x : Ov) (z : Int), e = .returned (.tuple #[aggO x, .int .i64 z]) ∧ (∀ y, rdO s = some y → z = 0 ∧ x = y) ∧ (rdO s = none → z = 2) ∧ Below w.heap.size w w'
theorem rdO_none {s : Bs} (h : (wordsL s).length ≠ 4) : rdO s = none := by
  unfold rdO
  split
  · rename_i a b c d e; rw [e] at h; simp at h
  · rfl
theorem rdO_four {s a b c d : Bs} (h : wordsL s = [a, b, c, d]) : (∀ y, rdO s = some y → noteO (noteO (noteO 0 (mE a)) (mE b)) (oE c) = 0 ∧ (d, modeO c, nE a, nE b) = y) ∧ (rdO s = none → noteO (noteO (noteO 0 (mE a)) (mE b)) (oE c) = 2) := by
  unfold rdO
  rw [h]
  dsimp only
  obtain ⟨a1, a2⟩ := markO_is a
  obtain ⟨b1, b2⟩ := markO_is b
  cases ha : markO a with
  | none =>
    rw [a2 ha]
    exact ⟨fun y h => (by cases h), fun _ => rfl⟩
  | some u =>
    obtain ⟨a3, a4⟩ := a1 u ha
    rw [a3, a4]
    cases hb : markO b with
    | none =>
      rw [b2 hb]
      exact ⟨fun y h => (by cases h), fun _ => rfl⟩
    | some g =>
      obtain ⟨b3, b4⟩ := b1 g hb
      rw [b3, b4]
      unfold oE modeO
      cases hc : numOf 8 4 c with
      | none => exact ⟨fun y h => (by cases h), fun _ => rfl⟩
      | some m => exact ⟨fun y h => (by cases h; exact ⟨rfl, rfl⟩), fun h => (by cases h)⟩
abbrev oOver : Obj := .cells #[.string ⟨#[]⟩, .int .i64 0, .int .i64 0, .int .i64 0] 41
abbrev oRdr : Obj := .cells #[.string ⟨#[]⟩, .int .i64 0, .int .i64 0, .int .i64 0, .int .i64 0] 88
abbrev mthO (f b : Nat) : Value := .func (.func f) #[.pointer (some ⟨b, 0, none⟩)] #[]
abbrev oSteps (b : Nat) : Obj := .cells #[mthO 56 b, mthO 57 b, mthO 58 b, mthO 59 b] 89
abbrev rdW (w : World) : World := ((w.alloc oOver).alloc oRdr).alloc (oSteps (w.heap.size + 1))
/-- What stands behind the call of Words: the result's box, the reader, the steps, the words. -/
structure RdI (w W : World) (ub uo : Nat) (a b c d : Bs) : Prop where
  below : Below w.heap.size w W
  size : w.heap.size + 3 ≤ W.heap.size
  z0 : W.cell? ⟨w.heap.size, 0, none⟩ = some (.string ⟨#[]⟩)
  z1 : W.cell? ⟨w.heap.size, 1, none⟩ = some (.int .i64 0)
  z2 : W.cell? ⟨w.heap.size, 2, none⟩ = some (.int .i64 0)
  z3 : W.cell? ⟨w.heap.size, 3, none⟩ = some (.int .i64 0)
  fz : ∀ i, W.frozen? ⟨w.heap.size, i, none⟩ = false
  s0 : W.cell? ⟨w.heap.size + 1 + 1, 0, none⟩ = some (mthO 56 (w.heap.size + 1))
  s1 : W.cell? ⟨w.heap.size + 1 + 1, 1, none⟩ = some (mthO 57 (w.heap.size + 1))
  s2 : W.cell? ⟨w.heap.size + 1 + 1, 2, none⟩ = some (mthO 58 (w.heap.size + 1))
  s3 : W.cell? ⟨w.heap.size + 1 + 1, 3, none⟩ = some (mthO 59 (w.heap.size + 1))
  ne : ub ≠ w.heap.size + 1
  w0 : W.cell? ⟨ub, uo, none⟩ = some (.string (bsT a))
  w1 : W.cell? ⟨ub, uo + 1, none⟩ = some (.string (bsT b))
  w2 : W.cell? ⟨ub, uo + 2, none⟩ = some (.string (bsT c))
  w3 : W.cell? ⟨ub, uo + 3, none⟩ = some (.string (bsT d))
theorem RdI.on {w W W' : World} {ub uo : Nat} {a b c d : Bs} (h : RdI w W ub uo a b c d) (hg : W.grownBy W' (some (w.heap.size + 1))) : RdI w W' ub uo a b c d := by
  have hs := h.size
  have e0 : ∀ {i : Nat} {v : Value}, W.cell? ⟨w.heap.size, i, none⟩ = some v → W'.cell? ⟨w.heap.size, i, none⟩ = some v := fun hv => hg.cell hv (by simp)
  have e2 : ∀ {i : Nat} {v : Value}, W.cell? ⟨w.heap.size + 1 + 1, i, none⟩ = some v → W'.cell? ⟨w.heap.size + 1 + 1, i, none⟩ = some v := fun hv => hg.cell hv (by simp)
  have eu : ∀ {i : Nat} {v : Value}, W.cell? ⟨ub, i, none⟩ = some v → W'.cell? ⟨ub, i, none⟩ = some v := fun hv => hg.cell hv (by simpa using h.ne)
  exact ⟨h.below.grown hg h.below.size (fun k hk => by cases hk; omega), Nat.le_trans h.size hg.size, e0 h.z0, e0 h.z1, e0 h.z2, e0 h.z3, fun i => by rw [hg.frozen_far ⟨w.heap.size, i, none⟩ (by show w.heap.size < _; omega) (by simp)]; exact h.fz i, e2 h.s0, e2 h.s1, e2 h.s2, e2 h.s3, h.ne, eu h.w0, eu h.w1, eu h.w2, eu h.w3⟩
theorem rdW_steps (w : World) : (rdW w).heap[w.heap.size + 1 + 1]? = some (oSteps (w.heap.size + 1)) := by
  have := heap_alloc_new ((w.alloc oOver).alloc oRdr) (oSteps (w.heap.size + 1))
  rw [World.size_alloc, World.size_alloc] at this
  exact this
theorem rdW_start {w W : World} {a b c d : Bs} {ua : Option Addr} {un uc : Nat} (hb : Below (rdW w).heap.size (rdW w) W) (ho : OwnT W (rdW w).heap.size (.slice ua un uc) [a, b, c, d]) :
    ∃ ub uo, ua = some ⟨ub, uo, none⟩ ∧ un = 4 ∧ RdI w W ub uo a b c d ∧ R5 W (w.heap.size + 1) ⟨#[]⟩ 0 0 0 0 := by
  have hz : (rdW w).heap.size = w.heap.size + 3 := by rw [World.size_alloc, World.size_alloc, World.size_alloc]
  have hlt := World.ownsRow.lt ho
  obtain ⟨ua', uc', ub, uo, e, _, hua, hcell⟩ := ho.holds
  simp only [Value.slice.injEq, List.length_cons, List.length_nil] at e
  obtain ⟨rfl, rfl, rfl⟩ := e
  obtain ⟨rfl, _⟩ := hua (by simp)
  have hub : w.heap.size + 3 ≤ ub := by have := (hlt ub rfl).1; rw [hz] at this; exact this
  have B1 := (Below.refl w.heap.size w).alloc (Nat.le_refl _) oOver
  have B2 := B1.alloc B1.size oRdr
  have B3 := B2.alloc B2.size (oSteps (w.heap.size + 1))
  have hb0 := B3.trans (hb.mono (by omega))
  obtain ⟨x0, x1, x2, x3⟩ := boxV4 w (.string ⟨#[]⟩) (.int .i64 0) (.int .i64 0) (.int .i64 0) 41
  have C2 : Below (w.alloc oOver).heap.size (w.alloc oOver) (rdW w) := ((Below.refl _ _).alloc (Nat.le_refl _) oRdr).alloc (by simp only [World.size_alloc]; omega) _
  have C3 : Below (w.alloc oOver).heap.size (w.alloc oOver) W := C2.trans (hb.mono (by rw [hz, World.size_alloc]; omega))
  have hl1 : w.heap.size < (w.alloc oOver).heap.size := by rw [World.size_alloc]; omega
  have kz : ∀ {i : Nat} {v : Value}, (w.alloc oOver).cell? ⟨w.heap.size, i, none⟩ = some v → W.cell? ⟨w.heap.size, i, none⟩ = some v := fun hv => (C3.cell (p := ⟨w.heap.size, _, none⟩) hl1).trans hv
  have ks : ∀ {i : Nat} {v : Value}, (rdW w).cell? ⟨w.heap.size + 1 + 1, i, none⟩ = some v → W.cell? ⟨w.heap.size + 1 + 1, i, none⟩ = some v := fun hv => (hb.cell (p := ⟨w.heap.size + 1 + 1, _, none⟩) (by show w.heap.size + 1 + 1 < _; omega)).trans hv
  have hst := rdW_steps w
  have k5 := R5.new (w.alloc oOver) 88
  rw [World.size_alloc] at k5
  refine ⟨ub, uo, rfl, rfl, ⟨hb0, by have := hb.size; omega, kz x0, kz x1, kz x2, kz x3, fun i => ?_, ks ?_, ks ?_, ks ?_, ks ?_, by omega, ?_, ?_, ?_, ?_⟩, (k5.on ((Below.refl _ _).alloc (Nat.le_refl _) _)).on hb⟩
  · rw [C3.frozen (p := ⟨w.heap.size, i, none⟩) hl1]
    exact frozen_of_row _ w.heap.size i _ _ (heap_alloc_new w _)
  · rw [cellRow _ _ 0 _ _ (0, 0) hst]; rfl
  · rw [cellRow _ _ 1 _ _ (0, 0) hst]; rfl
  · rw [cellRow _ _ 2 _ _ (0, 0) hst]; rfl
  · rw [cellRow _ _ 3 _ _ (0, 0) hst]; rfl
  · simpa using hcell 0 a rfl
  · exact hcell 1 b rfl
  · exact hcell 2 c rfl
  · exact hcell 3 d rfl
theorem rdW_box {w W : World} (hb : Below (rdW w).heap.size (rdW w) W) : W.cell? ⟨w.heap.size, 0, none⟩ = some (.string ⟨#[]⟩) ∧ W.cell? ⟨w.heap.size, 1, none⟩ = some (.int .i64 0) ∧ W.cell? ⟨w.heap.size, 2, none⟩ = some (.int .i64 0) ∧ W.cell? ⟨w.heap.size, 3, none⟩ = some (.int .i64 0) ∧ (∀ i, W.frozen? ⟨w.heap.size, i, none⟩ = false) ∧ Below w.heap.size w W := by
  have hz : (rdW w).heap.size = w.heap.size + 3 := by rw [World.size_alloc, World.size_alloc, World.size_alloc]
  have B1 := (Below.refl w.heap.size w).alloc (Nat.le_refl _) oOver
  have B2 := B1.alloc B1.size oRdr
  have B3 := B2.alloc B2.size (oSteps (w.heap.size + 1))
  obtain ⟨x0, x1, x2, x3⟩ := boxV4 w (.string ⟨#[]⟩) (.int .i64 0) (.int .i64 0) (.int .i64 0) 41
  have C2 : Below (w.alloc oOver).heap.size (w.alloc oOver) (rdW w) := ((Below.refl _ _).alloc (Nat.le_refl _) oRdr).alloc (by simp only [World.size_alloc]; omega) _
  have C3 : Below (w.alloc oOver).heap.size (w.alloc oOver) W := C2.trans (hb.mono (by rw [hz, World.size_alloc]; omega))
  have hl1 : w.heap.size < (w.alloc oOver).heap.size := by rw [World.size_alloc]; omega
  have kz : ∀ {i : Nat} {v : Value}, (w.alloc oOver).cell? ⟨w.heap.size, i, none⟩ = some v → W.cell? ⟨w.heap.size, i, none⟩ = some v := fun hv => (C3.cell (p := ⟨w.heap.size, _, none⟩) hl1).trans hv
  exact ⟨kz x0, kz x1, kz x2, kz x3, fun i => by
    rw [C3.frozen (p := ⟨w.heap.size, i, none⟩) hl1]
    exact frozen_of_row _ w.heap.size i _ _ (heap_alloc_new w _), B3.trans (hb.mono (by omega))⟩
theorem put4_cells {A : World} {b : Nat} {x0 x1 x2 x3 : Value} (h0 : A.cell? ⟨b, 0, none⟩ = some x0) (h1 : A.cell? ⟨b, 1, none⟩ = some x1) (h2 : A.cell? ⟨b, 2, none⟩ = some x2) (h3 : A.cell? ⟨b, 3, none⟩ = some x3) (y0 y1 y2 y3 : Value) :
    ((((A.setCell ⟨b, 0, none⟩ y0).setCell ⟨b, 1, none⟩ y1).setCell ⟨b, 2, none⟩ y2).setCell ⟨b, 3, none⟩ y3).cell? ⟨b, 0, none⟩ = some y0 ∧
    ((((A.setCell ⟨b, 0, none⟩ y0).setCell ⟨b, 1, none⟩ y1).setCell ⟨b, 2, none⟩ y2).setCell ⟨b, 3, none⟩ y3).cell? ⟨b, 1, none⟩ = some y1 ∧
    ((((A.setCell ⟨b, 0, none⟩ y0).setCell ⟨b, 1, none⟩ y1).setCell ⟨b, 2, none⟩ y2).setCell ⟨b, 3, none⟩ y3).cell? ⟨b, 2, none⟩ = some y2 ∧
    ((((A.setCell ⟨b, 0, none⟩ y0).setCell ⟨b, 1, none⟩ y1).setCell ⟨b, 2, none⟩ y2).setCell ⟨b, 3, none⟩ y3).cell? ⟨b, 3, none⟩ = some y3 :=
  ⟨set_oth (by omega) (set_oth (by omega) (set_oth (by omega) (set_same h0))), set_oth (by omega) (set_oth (by omega) (set_same (set_oth (by omega) h1))), set_oth (by omega) (set_same (set_oth (by omega) (set_oth (by omega) h2))), set_same (set_oth (by omega) (set_oth (by omega) (set_oth (by omega) h3)))⟩
theorem put4_below {B : Nat} {w A : World} {b : Nat} (h : Below B w A) (hb : B ≤ b) (y0 y1 y2 y3 : Value) : Below B w ((((A.setCell ⟨b, 0, none⟩ y0).setCell ⟨b, 1, none⟩ y1).setCell ⟨b, 2, none⟩ y2).setCell ⟨b, 3, none⟩ y3) :=
  (((h.setCell (p := ⟨b, 0, none⟩) hb _).setCell (p := ⟨b, 1, none⟩) hb _).setCell (p := ⟨b, 2, none⟩) hb _).setCell (p := ⟨b, 3, none⟩) hb _
/-- The reader's state behind so many steps. -/
def St5 (W : World) (b : Nat) (x y z t : Bs) : Nat → Prop
  | 0 => R5 W b ⟨#[]⟩ 0 0 0 0
  | 1 => R5 W b ⟨#[]⟩ 0 (nE x) 0 (noteO 0 (mE x))
  | 2 => R5 W b ⟨#[]⟩ 0 (nE x) (nE y) (noteO (noteO 0 (mE x)) (mE y))
  | 3 => R5 W b ⟨#[]⟩ (modeO z) (nE x) (nE y) (noteO (noteO (noteO 0 (mE x)) (mE y)) (oE z))
  | _ => R5 W b (bsT t) (modeO z) (nE x) (nE y) (noteO (noteO (noteO 0 (mE x)) (mE y)) (oE z))
set_option maxRecDepth 100000 in
set_option maxHeartbeats 8000000 in
theorem readO_any (s : ByteArray) (hs : s.size ≤ 4000) (w : World) (hL : LaidE w) : Calls Tryz.prog 36 #[.string s] w (ReadOP s.data.toList w) := by
  have PW := fun W => pwords_any s (by omega) W
  unfold PWordsPost at PW
  obtain ⟨ls, hls⟩ : ∃ ls, wordsL s.data.toList = ls := ⟨_, rfl⟩
  have hwl := (words_len s.data.toList).2
  rw [hls] at PW hwl
  by_cases h4 : ls.length = 4
  · obtain ⟨a, b, c, d, rfl⟩ : ∃ a b c d, ls = [a, b, c, d] := by
      match ls, h4 with
      | [a, b, c, d], _ => exact ⟨a, b, c, d, rfl⟩
    have HF := Lib.hid (rdO_four hls)
    have HQ : Hid (∀ (m u g z : Int) w', (modeO c, nE a, nE b, noteO (noteO (noteO 0 (mE a)) (mE b)) (oE c)) = (m, u, g, z) → Below w.heap.size w w' → ReadOP s.data.toList w (.returned (.tuple #[.agg #[.string (bsT d), .int .i64 m, .int .i64 u, .int .i64 g], .int .i64 z])) w') := Lib.hid (fun m u g z w' e hb => by
      simp only [Prod.mk.injEq] at e
      obtain ⟨rfl, rfl, rfl, rfl⟩ := e
      exact ⟨(d, modeO c, nE a, nE b), _, rfl, HF.out.1, HF.out.2, hb⟩)
    have ha := hwl a (by simp)
    have hb := hwl b (by simp)
    have hc := hwl c (by simp)
    rw [← sizeOf] at ha hb hc
    have ha4 : (bsT a).size ≤ 4000 := by rw [sizeOf, bytesOf]; omega
    have hb4 : (bsT b).size ≤ 4000 := by rw [sizeOf, bytesOf]; omega
    have hc4 : (bsT c).size ≤ 4000 := by rw [sizeOf, bytesOf]; omega
    have HLE := Lib.hid hL
    have HST := Lib.hid (fun W (ua : Option Addr) un uc (hb : Below (rdW w).heap.size (rdW w) W) (ho : OwnT W (rdW w).heap.size (.slice ua un uc) [a, b, c, d]) => rdW_start hb ho)
    clear hls hwl hL h4 hs ha hb hc HF
    go_enter Tryz.func36, Tryz.ntmps36
    go_wp2_with (go_at_call 60; (with_reducible refine (PW _).mono ?_); rintro e w1 ⟨u, rfl, ho, hb⟩; obtain ⟨ua, un, uc, rfl⟩ := OwnT.form ho; obtain ⟨ub, uo, rfl, rfl, hI, h5⟩ := HST.out _ _ _ _ hb ho; have HI := Lib.hid hI; have H5 := Lib.hid h5; clear ho hb PW hI h5)
    have hfin : ∀ W, Hid (RdI w W ub uo a b c d) → Hid (St5 W (w.heap.size + 1) a b c d 4) → True := fun _ _ _ => trivial
    clear hfin
    go_loopw [24] (fun i wr => ∃ k : Nat, k ≤ 4 ∧ i = .int .i64 k ∧ Hid (RdI w wr ub uo a b c d) ∧ Hid (St5 wr (w.heap.size + 1) a b c d k)) (fun i _ => 4 - (intOf i).toNat)
    case atStart => exact ⟨0, by omega, rfl, HI, H5⟩
    case round =>
      clear HI H5 HST
      obtain ⟨k, hk, rfl, HI, H5⟩ := hrel
      have hLE := HLE.out.on HI.out.below
      have hI := HI.out
      rcases (by omega : k = 0 ∨ k = 1 ∨ k = 2 ∨ k = 3 ∨ k = 4) with rfl | rfl | rfl | rfl | rfl
      · have U := uid_any _ _ _ _ _ _ (bsT a) ha4 wr hLE H5.out
        unfold RdP at U
        rw [bytesOf] at U
        have s0 := hI.s0
        have w0 := hI.w0
        have HGO := Lib.hid (fun W (hg : wr.grownBy W (some (w.heap.size + 1))) => hI.on hg)
        clear hLE hI HI H5
        generalize bsT a = X at *
        go_wp2_with (go_at_call 56; (with_reducible refine U.mono ?_); rintro e w2 ⟨rfl, h5, hg⟩; have H5' := Lib.hid h5; have HI' := Lib.hid (HGO.out _ hg); clear h5 hg U)
        go_roundw
        case rel => exact ⟨1, by omega, by go_num, HI', H5'⟩
        case measure => simp [intOf]
      · have U := gid_any _ _ _ _ _ _ (bsT b) hb4 wr hLE H5.out
        unfold RdP at U
        rw [bytesOf] at U
        have s1 := hI.s1
        have w1 := hI.w1
        have HGO := Lib.hid (fun W (hg : wr.grownBy W (some (w.heap.size + 1))) => hI.on hg)
        clear hLE hI HI H5
        generalize bsT b = X at *
        go_wp2_with (go_at_call 57; (with_reducible refine U.mono ?_); rintro e w2 ⟨rfl, h5, hg⟩; have H5' := Lib.hid h5; have HI' := Lib.hid (HGO.out _ hg); clear h5 hg U)
        go_roundw
        case rel => exact ⟨2, by omega, by go_num, HI', H5'⟩
        case measure => simp [intOf]
      · have U := mode_any5 _ _ _ _ _ _ (bsT c) hc4 wr hLE H5.out
        unfold RdP at U
        rw [bytesOf] at U
        have s2 := hI.s2
        have w2 := hI.w2
        have HGO := Lib.hid (fun W (hg : wr.grownBy W (some (w.heap.size + 1))) => hI.on hg)
        clear hLE hI HI H5
        generalize bsT c = X at *
        go_wp2_with (go_at_call 58; (with_reducible refine U.mono ?_); rintro e w2 ⟨rfl, h5, hg⟩; have H5' := Lib.hid h5; have HI' := Lib.hid (HGO.out _ hg); clear h5 hg U)
        go_roundw
        case rel => exact ⟨3, by omega, by go_num, HI', H5'⟩
        case measure => simp [intOf]
      · have U := path_any5 _ _ _ _ _ _ (bsT d) wr H5.out
        unfold RdP at U
        have s3 := hI.s3
        have w3 := hI.w3
        obtain ⟨X, hX⟩ : ∃ X, bsT d = X := ⟨_, rfl⟩
        have HXX := Lib.hid hX
        have HGO := Lib.hid (fun W (hg : wr.grownBy W (some (w.heap.size + 1))) => hI.on hg)
        rw [hX] at U w3
        clear hLE hI HI H5 hX
        go_wp2_with (go_at_call 59; (with_reducible refine U.mono ?_); rintro e w2 ⟨rfl, h5, hg⟩; have H5' := Lib.hid h5; have HI' := Lib.hid (HGO.out _ hg); clear h5 hg U)
        go_roundw
        case rel => exact ⟨4, by omega, by go_num, HI', Lib.hid (by have := H5'.out; rw [← HXX.out] at this; exact this)⟩
        case measure => simp [intOf]
      · obtain ⟨k0, k1, k2, k3, k4, -⟩ : R5 wr (w.heap.size + 1) _ _ _ _ _ := H5.out
        obtain ⟨m, hm⟩ : ∃ m, modeO c = m := ⟨_, rfl⟩
        obtain ⟨u, hu⟩ : ∃ u, nE a = u := ⟨_, rfl⟩
        obtain ⟨g, hg⟩ : ∃ g, nE b = g := ⟨_, rfl⟩
        obtain ⟨z, hz⟩ : ∃ z, noteO (noteO (noteO 0 (mE a)) (mE b)) (oE c) = z := ⟨_, rfl⟩
        have HQ2 := Lib.hid (fun w' hb => HQ.out m u g z w' (by rw [hm, hu, hg, hz]) hb)
        rw [hm] at k1
        rw [hu] at k2
        rw [hg] at k3
        rw [hz] at k4
        have z0 := hI.z0
        have z1 := hI.z1
        have z2 := hI.z2
        have z3 := hI.z3
        have f0 := hI.fz 0
        have f1 := hI.fz 1
        have f2 := hI.fz 2
        have f3 := hI.fz 3
        have HBB := Lib.hid hI.below
        have HP4 := Lib.hid (put4_cells z0 z1 z2 z3 (.string (bsT d)) (.int .i64 m) (.int .i64 u) (.int .i64 g))
        clear hm hu hg hz HQ hLE hI HI H5
        generalize bsT d = X at *
        go_wp2
        go_region
        go_wp2
        obtain ⟨p0, p1, p2, p3⟩ := HP4.out
        exact bodyPost_ret (v := .tuple #[.agg #[.string X, .int .i64 m, .int .i64 u, .int .i64 g], .int .i64 z]) (by simp [results, Tryz.results36, go_sem, p0, p1, p2, p3]) rfl (HQ2.out _ ((put4_below HBB.out (Nat.le_refl _) _ _ _ _).drew))
  · have HN := Lib.hid (rdO_none (s := s.data.toList) (by rw [hls]; exact h4))
    have HB3 := Lib.hid (fun W (hb : Below (rdW w).heap.size (rdW w) W) => rdW_box hb)
    have HQ : Hid (∀ w', Below w.heap.size w w' → ReadOP s.data.toList w (.returned (.tuple #[.agg #[.string ⟨#[]⟩, .int .i64 0, .int .i64 0, .int .i64 0], .int .i64 2])) w') := Lib.hid (fun w' hb => ⟨([], 0, 0, 0), 2, rfl, fun y h => (by rw [HN.out] at h; cases h), fun _ => rfl, hb⟩)
    obtain ⟨n, hn⟩ : ∃ n, ls.length = n := ⟨_, rfl⟩
    have HNL := Lib.hid hn
    rw [hn] at h4
    have e4 : ((n : Int) != 4) = true := by simp [bne_iff_ne]; omega
    have e4' : ((n : Int) == 4) = false := by rw [beq_eq_false_iff_ne]; omega
    clear hls hwl hL hn h4
    go_enter Tryz.func36, Tryz.ntmps36
    go_wp2_with (go_at_call 60; (with_reducible refine (PW _).mono ?_); rintro e w1 ⟨u, rfl, ho, hb⟩; obtain ⟨ua, uc, ub, uo, rfl, -⟩ := ho.holds; rw [HNL.out]; obtain ⟨z0, z1, z2, z3, fz, hbw⟩ := HB3.out _ hb; have f0 := fz 0; have f1 := fz 1; have f2 := fz 2; have f3 := fz 3; have HBB := Lib.hid hbw; have HP4 := Lib.hid (put4_cells z0 z1 z2 z3 (.string ⟨#[]⟩) (.int .i64 0) (.int .i64 0) (.int .i64 0)); clear ho hb PW fz hbw)
    obtain ⟨p0, p1, p2, p3⟩ := HP4.out
    exact bodyPost_ret (v := .tuple #[.agg #[.string ⟨#[]⟩, .int .i64 0, .int .i64 0, .int .i64 0], .int .i64 2]) (by simp [results, Tryz.results36, go_sem, p0, p1, p2, p3]) rfl (HQ.out _ (put4_below HBB.out (Nat.le_refl _) _ _ _ _))
end Go.Proofs.YtmjfbpiodamamaaGreatDoor
namespace Go.Proofs.YtmjfbpiodamamaaGreatDoor
open Go.RowKit
def PaPostO (s : Bs) (w : World) (e : Ending) (w' : World) : Prop := ∃ v z, e = .returned (.tuple #[v, .int .i64 z]) ∧ (∀ l, parseO s = some l → z = 0 ∧ HoldO w' v l) ∧ (parseO s = none → z = 2 ∧ v = .slice none 0 0) ∧ Below w.heap.size w w'
/-- What is read of each, if of all. -/
def eachO (f : Bs → Option Ov) : List Bs → Option (List Ov)
  | [] => some []
  | s :: l => match f s, eachO f l with
    | some x, some xs => some (x :: xs)
    | _, _ => none
theorem each_rds : ∀ l, rdsO l = eachO rdO l
  | [] => rfl
  | s :: l => by rw [rdsO, eachO, each_rds l]; cases rdO s <;> cases eachO rdO l <;> rfl
theorem each_reads : ∀ l, readsO l = eachO readO l
  | [] => rfl
  | s :: l => by rw [readsO, eachO, each_reads l]; cases readO s <;> cases eachO readO l <;> rfl
theorem each_app (f : Bs → Option Ov) : ∀ (a b : List Bs), eachO f (a ++ b) = (eachO f a).bind fun x => (eachO f b).map fun y => x ++ y
  | [], b => by simp [eachO]
  | s :: a, b => by
    rw [List.cons_append, eachO, eachO, each_app f a b]
    cases f s with
    | none => rfl
    | some x =>
      cases eachO f a with
      | none => rfl
      | some xs => cases eachO f b <;> rfl
theorem each_snoc {f : Bs → Option Ov} {ls : List Bs} {k : Nat} {p : Bs} {x : Ov} {xs : List Ov} (h : eachO f (ls.take k) = some xs) (hp : ls[k]? = some p) (hx : f p = some x) : eachO f (ls.take (k + 1)) = some (xs ++ [x]) := by
  rw [List.take_add_one, hp, each_app, h]
  simp [eachO, hx]
theorem each_bad {f : Bs → Option Ov} {ls : List Bs} {k : Nat} {p : Bs} (hp : ls[k]? = some p) (hx : f p = none) : eachO f ls = none := by
  obtain ⟨hk, e⟩ := List.getElem?_eq_some_iff.1 hp
  have : ls = ls.take k ++ p :: ls.drop (k + 1) := by rw [← e, ← List.drop_eq_getElem_cons hk, List.take_append_drop]
  rw [this, each_app]
  cases eachO f (ls.take k) with
  | none => rfl
  | some xs => simp [eachO, hx]
theorem each_len {f : Bs → Option Ov} : ∀ {l : List Bs} {xs : List Ov}, eachO f l = some xs → xs.length = l.length
  | [], xs, h => by cases h; rfl
  | s :: l, xs, h => by
    rw [eachO] at h
    cases hs : f s with
    | none => rw [hs] at h; cases h
    | some x =>
      cases hl : eachO f l with
      | none => rw [hs, hl] at h; cases h
      | some ys => rw [hs, hl] at h; cases h; rw [List.length_cons, List.length_cons, each_len hl]
theorem each_small {f : Bs → Option Ov} (hf : ∀ p x, f p = some x → x.1.length ≤ p.length) : ∀ {l : List Bs} {xs : List Ov}, eachO f l = some xs → (∀ p ∈ l, p.length ≤ 4000) → SmallO xs
  | [], xs, h, _ => by cases h; exact fun x hx => by simp at hx
  | s :: l, xs, h, hp => by
    rw [eachO] at h
    cases hs : f s with
    | none => rw [hs] at h; cases h
    | some x =>
      cases hl : eachO f l with
      | none => rw [hs, hl] at h; cases h
      | some ys =>
        rw [hs, hl] at h; cases h
        intro y hy
        rcases List.mem_cons.1 hy with rfl | hy
        · exact Nat.le_trans (hf _ _ hs) (hp s (by simp))
        · exact each_small hf hl (fun p h => hp p (by simp [h])) y hy
theorem rdO_len (p : Bs) (x : Ov) (h : rdO p = some x) : x.1.length ≤ p.length := by
  unfold rdO at h
  split at h
  · rename_i a b c d e
    split at h
    · cases h
      exact (words_len p).2 d (by rw [e]; simp)
    · cases h
  · cases h
theorem readO_len (p : Bs) (x : Ov) (h : readO p = some x) : x.1.length ≤ p.length := by
  unfold readO at h
  split at h
  · rename_i a b c d e
    cases h
    exact spl_piece 32 p d (by rw [e]; simp)
  · cases h
open Classical in
theorem parseO_none {s : Bs} (h : linesO s = none) : parseO s = none := by rw [parseO_prog, h]; rfl
open Classical in
theorem parseO_some {s : Bs} {ls : List Bs} (h : linesO s = some ls) : parseO s = (eachO rdO ls).bind fun l => if printO l = (s, 0) then some l else none := by rw [parseO_prog, h, Option.bind_some, each_rds]
open Classical in
set_option maxRecDepth 100000 in
set_option maxHeartbeats 16000000 in
theorem parseO_any (s : ByteArray) (hs : s.size ≤ 90000) (hp : ∀ p ∈ spl 10 s.data.toList, p.length ≤ 4000) (w : World) (hL : LaidP w) (hE : LaidE w) : Calls Tryz.prog 13 #[.string s] w (PaPostO s.data.toList w) := by
  have L := fun w => slines_any s hs w
  unfold PLinesPost at L
  have HBAD : Hid (∀ w', parseO s.data.toList = none → Below w.heap.size w w' → PaPostO s.data.toList w (.returned (.tuple #[.slice none 0 0, .int .i64 2])) w') := Lib.hid (fun w' h hb => ⟨_, 2, rfl, fun l hl => (by rw [h] at hl; cases hl), fun _ => ⟨rfl, rfl⟩, hb⟩)
  have HOK : Hid (∀ (l : List Ov) v w', parseO s.data.toList = some l → HoldO w' v l → Below w.heap.size w w' → PaPostO s.data.toList w (.returned (.tuple #[v, .int .i64 0])) w') := Lib.hid (fun l v w' h h1 hb => ⟨v, 0, rfl, fun l' hl => (by rw [h] at hl; cases hl; exact ⟨rfl, h1⟩), fun hn => (by rw [h] at hn; cases hn), hb⟩)
  have HL := Lib.hid hL
  have HE := Lib.hid hE
  cases hlo : linesO s.data.toList with
  | none =>
    have L2 : ∀ w, Calls Tryz.prog 35 #[.string s] w fun e w' => e = .returned (.tuple #[.slice none 0 0, .int .i64 2]) ∧ Below w.heap.size w w' := fun w => (L w).mono fun e w' ⟨v, z, he, _, h2, hb⟩ => ⟨by rw [he, (h2 hlo).1, (h2 hlo).2], hb⟩
    have HN := Lib.hid (parseO_none hlo)
    clear L hlo hp hL hE
    go_enter Tryz.func13, Tryz.ntmps13
    go_wp2_with (go_at_call 35; refine (L2 _).mono ?_; rintro e w1 ⟨rfl, hb⟩; have HB := Lib.hid hb; clear hb)
    go_ret2
    exact HBAD.out _ HN.out HB.out
  | some ls =>
    have L2 : ∀ w, Calls Tryz.prog 35 #[.string s] w fun e w' => ∃ v, e = .returned (.tuple #[v, .int .i64 0]) ∧ HoldT w' v ls ∧ Below w.heap.size w w' := fun w => (L w).mono fun e w' ⟨v, z, he, h1, _, hb⟩ => ⟨v, by rw [he, (h1 ls hlo).1], (h1 ls hlo).2.holds, hb⟩
    have HPS := Lib.hid (parseO_some hlo)
    obtain ⟨hl1, hl2⟩ := lines_len hlo
    rw [← sizeOf] at hl1
    have HSL : Hid (∀ p ∈ ls, p.length ≤ 4000) := Lib.hid (fun p h => hp p (hl2 p h))
    obtain ⟨i0, hi, hz0, hz1, hz2'⟩ := info_parts infoO
    obtain ⟨n, hN⟩ : ∃ n, ls.length = n := ⟨_, rfl⟩
    rw [hN] at hl1
    have HN := Lib.hid hN
    clear L hlo hp hl2 hN hL hE
    go_enter Tryz.func13, Tryz.ntmps13
    go_wp2_with (go_at_call 35; refine (L2 _).mono ?_; rintro e w1 ⟨v, rfl, hh, hb⟩; obtain ⟨a, c, b, o, rfl, hc, ha, hcell⟩ := hh; rw [HN.out] at hc ha ⊢; have HC := Lib.hid hcell; have HB1 := Lib.hid hb; clear hcell hb L2)
    have hsz1 := HB1.out.size
    go_loopw [6, 23] (fun u i wr => ∃ (k : Nat) (xs : List Ov), k ≤ n ∧ i = .int .i64 k ∧ xs.length = k ∧ Hid (eachO rdO (ls.take k) = some xs) ∧ Hid (OwnO wr w1.heap.size u xs) ∧ Hid (Below w1.heap.size w1 wr)) (fun _ i _ => n - (intOf i).toNat)
    case atStart => exact ⟨0, [], by omega, rfl, rfl, Lib.hid rfl, Lib.hid (OwnV.nil _ _ _ _), Lib.hid (Below.refl _ _)⟩
    case round =>
      obtain ⟨k, xs, hk, rfl, hxl, HX, HO, HB⟩ := hrel
      have hsz := HB.out.size
      by_cases hlt : k < n
      · obtain ⟨rfl, hbw⟩ := ha (by omega)
        obtain ⟨p, hp⟩ : ∃ p, ls[k]? = some p := ⟨_, List.getElem?_eq_getElem (by rw [HN.out]; exact hlt)⟩
        have c0 := HC.out k p hp
        rw [← HB.out.cell (p := ⟨b, o + k, none⟩) hbw] at c0
        have HBW := Lib.hid (HB1.out.trans (HB.out.mono hsz1))
        have RD := readO_any ⟨p.toArray⟩ (by rw [sizeOf, bytesOf]; exact HSL.out p (List.mem_of_getElem? hp)) wr (HE.out.on HBW.out)
        unfold ReadOP at RD
        rw [bytesOf] at RD
        generalize (⟨p.toArray⟩ : ByteArray) = P at *
        cases hrd : rdO p with
        | none =>
          have RD2 : Calls Tryz.prog 36 #[.string P] wr fun e w' => ∃ x : Ov, e = .returned (.tuple #[aggO x, .int .i64 2]) ∧ Below wr.heap.size wr w' := RD.mono fun e w' ⟨x, z, he, _, h2, hb⟩ => ⟨x, by rw [he, h2 hrd], hb⟩
          have HNO : Hid (parseO s.data.toList = none) := Lib.hid (by rw [HPS.out, each_bad hp hrd]; rfl)
          clear RD hrd hp
          obtain ⟨ua, uc, rfl⟩ := OwnV.form HO.out
          unfold aggO at RD2
          go_wp2_with (go_at_call 36; (with_reducible refine RD2.mono ?_); rintro e w2 ⟨⟨q0, q1, q2, q3⟩, rfl, hb⟩; dsimp only; have HB2 := Lib.hid (HBW.out.trans (hb.mono HBW.out.size)); clear hb RD2)
          go_ret2
          exact HBAD.out _ HNO.out (HB2.out.alloc HB2.out.size _)
        | some x =>
          obtain ⟨q0, q1, q2, q3⟩ := x
          have RD2 : Calls Tryz.prog 36 #[.string P] wr fun e w' => e = .returned (.tuple #[.agg #[.string (bsT q0), .int .i64 q1, .int .i64 q2, .int .i64 q3], .int .i64 0]) ∧ Below wr.heap.size wr w' := RD.mono fun e w' ⟨x, z, he, h1, _, hb⟩ => ⟨by obtain ⟨rfl, rfl⟩ := h1 _ hrd; exact he, hb⟩
          have HX2 := Lib.hid (each_snoc HX.out hp hrd)
          obtain ⟨X, hX⟩ : ∃ X, bsT q0 = X := ⟨_, rfl⟩
          have HXX : Hid (X.data.toList = q0) := Lib.hid (by rw [← hX, bytesOf])
          rw [hX] at RD2
          clear RD hrd hp HX hX
          obtain ⟨ua, uc, hu⟩ := OwnV.form HO.out
          rw [List.length_map, hxl] at hu
          subst hu
          have HOK2 : Hid (wr.ownsRow w1.heap.size 41 4 (.slice ua k uc) k (xs.map cellsO).flatten) := Lib.hid (by have := HO.out.2; rw [List.length_map, hxl] at this; exact this)
          have hbelow : ∀ v' w3, w3.ownsRow w1.heap.size 41 4 v' (k + 1) ((xs.map cellsO).flatten ++ [.string X, .int .i64 q1, .int .i64 q2, .int .i64 q3]) → OwnO w3 w1.heap.size v' (xs ++ [(q0, q1, q2, q3)]) := fun v' w3 h => OwnO.app (x := (q0, q1, q2, q3)) HXX.out (by rw [hxl]; exact h)
          have HAPP := Lib.hid hbelow
          have hxl2 : (xs ++ [(q0, q1, q2, q3)]).length = k + 1 := by rw [List.length_append, hxl]; rfl
          have HXL2 := Lib.hid hxl2
          clear hbelow hxl2 hxl HO
          go_wp2_with (first
            | (go_at_call 36; (with_reducible refine RD2.mono ?_); rintro e w2 ⟨rfl, hb⟩; have HB2 := Lib.hid (HB.out.trans (hb.mono hsz)); have hz2 := HB2.out.size; have HO2 : Hid (w2.ownsRow w1.heap.size 41 4 (.slice ua k uc) k (xs.map cellsO).flatten) := Lib.hid (World.ownsRow.kept HOK2.out (grownV hb) (by cases Value.ownBlock _ <;> simp)); clear hb RD2)
            | (at_builtin; refine wpList_append_own _ rfl _ _ 22 rfl w1.heap.size 41 i0 _ 4 40 Tryz.underlying22 hi hz0 hz1 hz2' rfl (by decide) _ _ _ rfl (World.ownsRow.alloc (World.ownsRow.alloc HO2.out _) _) ⟨w2.heap.size + 1, 0, none⟩ 1 1 [.string X, .int .i64 q1, .int .i64 q2, .int .i64 q3] rfl rfl ?c1 ?c2 ?c3 ?c4 ?c5 ?_))
          case c1 =>
            intro j u hj
            have hzz : (w2.alloc (.cells #[.string X, .int .i64 q1, .int .i64 q2, .int .i64 q3] 41)).heap.size = w2.heap.size + 1 := World.size_alloc _ _
            obtain ⟨x0, x1, x2, x3⟩ := boxV4 (w2.alloc (.cells #[.string X, .int .i64 q1, .int .i64 q2, .int .i64 q3] 41)) (.string X) (.int .i64 q1) (.int .i64 q2) (.int .i64 q3) 41
            rw [hzz] at x0 x1 x2 x3
            rw [Addr.add_lit]
            match j, hj with
            | 0, hj => simp at hj; subst hj; exact x0
            | 1, hj => simp at hj; subst hj; exact x1
            | 2, hj => simp at hj; subst hj; exact x2
            | 3, hj => simp at hj; subst hj; exact x3
          case c2 => intro u hu; simp at hu; rcases hu with rfl | rfl | rfl | rfl <;> rfl
          case c3 => unfold maxLen; omega
          case c4 => omega
          case c5 => simp; omega
          · intro v' w3 hown' hgrow _
            have HO3 := Lib.hid (HAPP.out _ _ hown')
            have HB3 : Hid (Below w1.heap.size w1 w3) := Lib.hid (((HB2.out.alloc hz2 _).alloc (by simp; omega) _).grown hgrow (by simp; omega) (fun k hk => by have := (World.ownsRow.lt HO2.out k hk).1; omega))
            clear hown' hgrow
            go_wp2
            go_roundw
            case rel => exact ⟨k + 1, _, by omega, by go_num, HXL2.out, HX2, HO3, HB3⟩
            case measure => simp [intOf]; omega
      · obtain rfl : k = n := by omega
        have HR : Hid (eachO rdO ls = some xs) := Lib.hid (by have := HX.out; rw [List.take_of_length_le (by rw [HN.out]; omega)] at this; exact this)
        have HBW := Lib.hid (HB1.out.trans (HB.out.mono hsz1))
        have HH := Lib.hid HO.out.holds
        have PR := printO_any _ xs (by omega) (each_small rdO_len HR.out HSL.out) wr (HL.out.on HBW.out) (HE.out.on HBW.out).laid HH.out
        unfold PrPostO at PR
        obtain ⟨ua, uc, hu⟩ := OwnV.form HO.out
        rw [List.length_map, hxl] at hu
        subst hu
        obtain ⟨T, hT⟩ : ∃ T, T = bsT (printO xs).1 := ⟨_, rfl⟩
        obtain ⟨z, hz⟩ : ∃ z, z = (printO xs).2 := ⟨_, rfl⟩
        rw [← hT, ← hz] at PR
        have HTZ : Hid (printO xs = (T.data.toList, z)) := Lib.hid (by rw [hT, bytesOf, hz])
        have hq := eqT T s
        have HPX : Hid (parseO s.data.toList = if (T.data.toList, z) = (s.data.toList, 0) then some xs else none) := Lib.hid (by rw [HPS.out, HR.out, Option.bind_some, HTZ.out])
        clear hT hz HO hlt HX hxl
        by_cases hz0 : z = 0
        · subst hz0
          by_cases hts : T.data.toList = s.data.toList
          · rw [decide_eq_true hts] at hq
            have HX : Hid (parseO s.data.toList = some xs) := Lib.hid (by rw [HPX.out, if_pos (by rw [hts])])
            clear hts
            go_wp2_with (go_at_call 9; (with_reducible refine PR.mono ?_); rintro e w4 ⟨rfl, hb⟩; have HB4 := Lib.hid (HBW.out.trans (hb.mono HBW.out.size)); have HH4 := Lib.hid (HoldV.on HH.out hb); clear hb PR)
            go_ret2
            exact HOK.out xs _ _ HX.out HH4.out HB4.out
          · rw [decide_eq_false hts] at hq
            have HX : Hid (parseO s.data.toList = none) := Lib.hid (by rw [HPX.out, if_neg (fun g => hts (Prod.mk.inj g).1)])
            clear hts
            go_wp2_with (go_at_call 9; (with_reducible refine PR.mono ?_); rintro e w4 ⟨rfl, hb⟩; have HB4 := Lib.hid (HBW.out.trans (hb.mono HBW.out.size)); clear hb PR)
            go_ret2
            exact HBAD.out _ HX.out HB4.out
        · have hzb : (z == 0) = false := by rw [beq_eq_false_iff_ne]; exact hz0
          have hzn : (z != 0) = true := by rw [bne, hzb]; rfl
          have HX : Hid (parseO s.data.toList = none) := Lib.hid (by rw [HPX.out, if_neg (fun g => hz0 (Prod.mk.inj g).2)])
          clear hz0 hq
          go_wp2_with (go_at_call 9; (with_reducible refine PR.mono ?_); rintro e w4 ⟨rfl, hb⟩; have HB4 := Lib.hid (HBW.out.trans (hb.mono HBW.out.size)); clear hb PR)
          go_ret2
          exact HBAD.out _ HX.out HB4.out
end Go.Proofs.YtmjfbpiodamamaaGreatDoor
