import Derived.Test.YtkbkaeefdhkgdaaGreatDoorPSPA
import Derived.Test.YtkbkaeefdhkgdaaGreatDoorPSPLines2
import Derived.Test.YtkbkaeefdhkgdaaGreatDoorPSParse
set_option maxRecDepth 100000
set_option maxHeartbeats 32000000
namespace Go.Proofs.YtkbkaeefdhkgdaaGreatDoor
section
open Go.RowKit Go.Shelf
attribute [local go_sem] Oper.semAt_some
theorem txB_is (c : UInt8) (h : ¬ c = 10) : txB c = prB c := by
 have : ¬ c.toNat = 10 := fun g => h (UInt8.toNat_inj.1 g)
 unfold txB prB; rw [decide_eq_false this]; rfl
theorem text_lines (s : Bs) : s.all txB = (spl 10 s).all fun p => p.all prB := by
 induction s with
 | nil => rfl
 | cons x s ih =>
  rw [spl_cons, List.all_cons, ih]
  by_cases h : x = 10
  ·
   subst h; simp [txB]
  ·
   rw [if_neg h, txB_is x h]
   have hne := spl_ne 10 s
   cases hs : spl 10 s with
   | nil => exact absurd hs hne
   | cons p ps => simp [glue, Bool.and_assoc]
def textB (t : Bs) : Bool := decide (t.length ≤ 65536) && t.all txB && linesB (spl 10 t)
theorem field_parts (n t : Bs) : fieldB (n, t) = (snameB n && textB t) := by
 rw [field_is]; unfold snameB textB
 rw [Bool.eq_iff_iff]
 simp only [Bool.and_eq_true]
 exact ⟨fun ⟨⟨⟨⟨⟨⟨a, b⟩, c⟩, d⟩, e⟩, f⟩, g⟩ => ⟨⟨⟨⟨a, b⟩, d⟩, e⟩, ⟨c, f⟩, g⟩, fun ⟨⟨⟨⟨a, b⟩, d⟩, e⟩, ⟨c, f⟩, g⟩ => ⟨⟨⟨⟨⟨⟨a, b⟩, c⟩, d⟩, e⟩, f⟩, g⟩⟩
def okLn (x : LineX) : Bool := (lnOf x).all prB && lineAt x.1.1 (lnOf x)
theorem text_yes {s : Bs} {ys : List LineX} (h : AllLn s ys) (hok : ys.all okLn = true) (hl : s.length ≤ 65536) : textB s = true := by
 have hk := List.all_eq_true.1 hok
 unfold textB
 rw [decide_eq_true hl, text_lines, ← h.1]
 simp only [Bool.true_and, Bool.and_eq_true]
 constructor
 ·
  rw [List.all_eq_true]
  intro p hp
  obtain ⟨x, hx, rfl⟩ := List.mem_map.1 hp
  have := hk x hx
  unfold okLn at this
  rw [Bool.and_eq_true] at this; exact this.1
 ·
  have hne : ys.map lnOf ≠ [] := by rw [h.1]; exact spl_ne _ _
  rw [linesB_at _ hne]
  intro j hj
  have hj' : j < ys.length := by simpa using hj
  have h1 := hk ys[j] (List.getElem_mem hj')
  have h2 := h.2 j ys[j] (List.getElem?_eq_getElem hj')
  unfold okLn at h1
  rw [Bool.and_eq_true, h2] at h1
  rw [List.getElem_map]; exact h1.2
theorem text_no {s : Bs} {ys : List LineX} (h : SomeLn s ys) (hno : ys.all okLn = false) : textB s = false := by
 rw [List.all_eq_false] at hno
 obtain ⟨x, hx, hb⟩ := hno
 obtain ⟨j, hj, rfl⟩ := List.mem_iff_getElem.1 hx
 have hi := h.2 j ys[j] (List.getElem?_eq_getElem hj)
 have hjs : j < (spl 10 s).length := by have := h.1.length_le; simp at this; omega
 have he : (spl 10 s)[j] = lnOf ys[j] := by
  have := h.1.getElem (i := j) (by simpa using hj)
  rw [← this, List.getElem_map]
 unfold okLn at hb
 unfold textB
 by_cases h1 : (lnOf ys[j]).all prB = true
 ·
  have h2 : lineAt j (spl 10 s)[j] = false := by
   rw [h1, Bool.true_and, hi, ← he] at hb; simpa using hb
  rw [linesB_no (spl_ne _ _) hjs h2, Bool.and_false]
 ·
  have : s.all txB = false := by
   rw [text_lines, List.all_eq_false]
   exact ⟨_, List.getElem_mem hjs, by rw [he]; exact h1⟩
  rw [this, Bool.and_false, Bool.false_and]
theorem pre32 (l : Bs) : Lib.hasPrefix l [32] = decide (l.head? = some 32) := by
 cases l with
 | nil => rfl
 | cons c l =>
  show Lib.hasPrefix (c :: l) [32] = decide (some c = some 32)
  by_cases h : c = 32
  ·
   subst h; simp [Lib.hasPrefix, List.isPrefixOf]
  ·
   have : ¬ 32 = c := fun g => h g.symm
   simp [Lib.hasPrefix, List.isPrefixOf, h, this]
theorem suf32 (l : Bs) : Lib.hasSuffix l [32] = decide (l.getLast? = some 32) := by
 unfold Lib.hasSuffix
 rw [Bool.eq_iff_iff, List.isSuffixOf_iff_suffix, decide_eq_true_eq]
 constructor
 ·
  rintro ⟨t, rfl⟩; simp
 ·
  intro h
  obtain ⟨t, ht⟩ := List.getLast?_eq_some_iff.1 h
  exact ⟨t, ht.symm⟩
theorem prefix_any (s : ByteArray) (w : World) : Calls Tryz.prog 114 #[.string s, .string ⟨#[32]⟩] w fun e w' => e = .returned (.bool (decide (s.data.toList.head? = some 32))) ∧ w = w' :=
 (Tryz.strings_HasPrefix s ⟨#[32]⟩ w).mono fun _ _ h => ⟨by rw [h.1]; exact congrArg (fun b => Ending.returned (.bool b)) (pre32 _), h.2.symm⟩
theorem suffix_any (s : ByteArray) (hs : s.size ≤ 100000) (w : World) : Calls Tryz.prog 162 #[.string s, .string ⟨#[32]⟩] w fun e w' => e = .returned (.bool (decide (s.data.toList.getLast? = some 32))) ∧ w = w' :=
 (Tryz.strings_HasSuffix s ⟨#[32]⟩ w (by omega)).mono fun _ _ h => ⟨by rw [h.1]; exact congrArg (fun b => Ending.returned (.bool b)) (suf32 _), h.2.symm⟩
theorem rightText_any (s : ByteArray) (hs : s.size ≤ 90000) (w : World) : Calls Tryz.prog 131 #[.string s] w fun e w' => e = .returned (.bool (textB s.data.toList)) ∧ Below w.heap.size w w' := by
 obtain ⟨R, HR⟩ : ∃ R, Hid (textB s.data.toList = R) := ⟨_, rfl⟩
 rw [HR.out]
 have hl := sizeOf s
 by_cases h6 : 65536 < s.size
 ·
  have HF : Hid (false = R) := Lib.hid (by rw [← HR.out]; unfold textB; rw [decide_eq_false (by omega)]; rfl)
  clear HR hl
  go_enter Tryz.func131, Tryz.ntmps131
  go_wp2
  exact bodyPost_ret (v := .bool false) (by simp [results, Tryz.results131, go_sem]) rfl ⟨retb HF.out, (Below.refl _ _).alloc (Nat.le_refl _) _⟩
 ·
  have HY : Hid (∀ ys, AllLn s.data.toList ys → ys.all okLn = true → true = R) := Lib.hid (fun ys h1 h2 => by rw [← HR.out]; exact (text_yes h1 h2 (by omega)).symm)
  have HN : Hid (∀ ys, SomeLn s.data.toList ys → ys.all okLn = false → false = R) := Lib.hid (fun ys h1 h2 => by rw [← HR.out]; exact (text_no h1 h2).symm)
  clear HR hl
  refine (callsIn_wide (n := 5)).1 ?_
  refine callsIn_of_wp_marks Tryz.func131 rfl trivial ?_ rfl
  simp only [Tryz.ntmps131, List.size_toArray, List.length_cons, List.length_nil, Nat.reduceAdd, Nat.reduceSub, Array.replicate_succ, Array.replicate_zero, List.push_toArray, List.append_toArray, List.nil_append, List.cons_append]
  have hd6 : decide (65536 < (s.size : Int)) = false := decide_eq_false (by omega)
  gi_wp2_with (refine ⟨trivial, ?_⟩; gi_at_call 95; refine (lines_in _ _ _).mono ?_; rintro e w' ⟨rfl, rfl⟩)
  have bN : ((w.alloc (.cells #[.bool false] 4)).alloc (.cells #[.string s] 9)).cell? ⟨w.heap.size + 1, 0, none⟩ = some (.string s) := by
   simp
  have bR : ((w.alloc (.cells #[.bool false] 4)).alloc (.cells #[.string s] 9)).cell? ⟨w.heap.size, 0, none⟩ = some (.bool false) := by
   rw [((Below.refl (w.alloc (.cells #[.bool false] 4)).heap.size _).alloc (Nat.le_refl _) _).cell (p := ⟨w.heap.size, 0, none⟩) (by simp)]
   simp [World.cell?_alloc_new]
  have hB0 : Below w.heap.size w ((w.alloc (.cells #[.bool false] 4)).alloc (.cells #[.string s] 9)) := ((Below.refl _ w).alloc (Nat.le_refl _) _).alloc (by simp) _
  refine wpIn_rangeFunc_ownG rfl (by omega) (gf := 133) (lb := #[.pointer (some ⟨w.heap.size + 1, 0, none⟩)]) rfl trivial (enters_of Tryz.func133 (by kernel_rfl) rfl)
   (lines_stops _ (by omega) (Below w.heap.size) s hs (w.heap.size + 1) _ (by simp) bN) belowK_t (belowK_b (by simp; omega)) (Below.refl _ _) (fun _ => rfl)
   (fun pre W => pre.all okLn = true ∧ (W.cell? ⟨w.heap.size, 0, none⟩ = some (.bool false) ∧ W.frozen? ⟨w.heap.size, 0, none⟩ = false) ∧ Below w.heap.size w W)
   (fun c pre W => c = .ret ∧ pre.all okLn = false ∧ W.cell? ⟨w.heap.size, 0, none⟩ = some (.bool false) ∧ Below w.heap.size w W)
   (fun s A B row hs hg hr => ⟨hs.1, ⟨cell_kept hs.2.1.1 hg (fun r e => (hr r e).2), (frozen_kept hs.2.1.1 hg (fun r e => (hr r e).2)).trans hs.2.1.2⟩, ownFrom_below (β := Unit) (Nat.le_refl _) (by simp; omega) () A B row hs.2.2 hg hr⟩)
   (fun c s A B row hs hg hr => ⟨hs.1, hs.2.1, cell_kept hs.2.2.1 hg (fun r e => (hr r e).2), ownFrom_below (β := Unit) (Nat.le_refl _) (by simp; omega) () A B row hs.2.2.2 hg hr⟩)
   ⟨rfl, ⟨bR, by simp⟩, hB0⟩
   (fun x => { tmps := #[.string s, undef, .pointer (some ⟨w.heap.size, 0, none⟩), .int .i64 x.1.1, .string x.1.2, .string s, .int .i64 s.size, .bool false, .string s, .func (.func 133) #[] #[.pointer (some ⟨w.heap.size + 1, 0, none⟩)], .int .i64 x.1.1, .string x.1.2, undef, undef, undef, undef, undef, undef, undef, undef, undef, undef, undef, undef, undef, undef, undef, undef, undef, undef, undef, undef, undef], defers := [] }) ?assign ?body ?done ?stop
  case assign =>
   intro l x W K hK
   dsimp only [encLn]
   gi_wp2
   exact hK
  case body =>
   rintro l pre ⟨⟨i, L⟩, hi, hL⟩ W ⟨hok, ⟨hc, hf⟩, hB⟩ hlt
   have hi' : i ≤ 100000 := hi
   have hL' : L.size ≤ 100000 := hL
   have P := fun w => sprintable_any L hL' w
   have S := fun w => suffix_any L hL' w
   have H := fun w => prefix_any L w
   have e0 := emptyT L
   have HNX : Hid (∀ b, okLn ⟨(i, L), hi, hL⟩ = b → (pre ++ [(⟨(i, L), hi, hL⟩ : LineX)]).all okLn = b) := Lib.hid (fun b hb => by rw [List.all_append, hok, List.all_cons, hb]; simp)
   have hokI : okLn ⟨(i, L), hi, hL⟩ = (L.data.toList.all prB && (!(decide (i = 0) && decide (L.data.toList.head? = some 32)) && endB L.data.toList && !(decide (0 < i) && decide (L.data.toList = [])))) := rfl
   have hee : decide (L.data.toList = []) = decide (L.size = 0) := by
    rw [sizeOf]; cases L.data.toList <;> simp
   unfold endB at hokI
   rw [hee] at hokI
   have hB' := hB
   clear hok hlt hee
   dsimp only []
   generalize L.data.toList.all prB = b1 at *
   generalize decide (L.data.toList.getLast? = some 32) = b2 at *
   generalize decide (L.data.toList.head? = some 32) = b3 at *
   generalize decide (L.size = 0) = b4 at *
   cases b1
   ·
    have HG := Lib.hid (HNX.out false (by rw [hokI]; rfl))
    clear hokI HNX
    gi_wp2_with (first | (refine ⟨trivial, ?_⟩; gi_at_call 161; refine (CallsIn.inRound l (callsIn_wide.2 (P _))).mono ?_; rintro e w' ⟨rfl, rfl⟩) | (refine ⟨trivial, ?_⟩; gi_at_call 162; refine (CallsIn.inRound l (callsIn_wide.2 (S _))).mono ?_; rintro e w' ⟨rfl, rfl⟩) | (refine ⟨trivial, ?_⟩; gi_at_call 114; refine (CallsIn.inRound l (callsIn_wide.2 (H _))).mono ?_; rintro e w' ⟨rfl, rfl⟩) | (refine ⟨(trivial : Fence.wide.fn _), ?_⟩))
    exact ⟨(KeepsOthers.setCell _ _ _).from _, rfl, HG.out, World.cell?_setCell_same' _ _ _ (by rw [hc]; rfl), hB.setCell (p := ⟨w.heap.size, 0, none⟩) (Nat.le_refl _) _⟩
   ·
    cases b2
    ·
     by_cases h0 : i = 0
     ·
      cases b3
      ·
       have HG := Lib.hid (HNX.out true (by rw [hokI, h0]; simp))
       subst h0
       clear hokI HNX
       gi_wp2_with (first | (refine ⟨trivial, ?_⟩; gi_at_call 161; refine (CallsIn.inRound l (callsIn_wide.2 (P _))).mono ?_; rintro e w' ⟨rfl, rfl⟩) | (refine ⟨trivial, ?_⟩; gi_at_call 162; refine (CallsIn.inRound l (callsIn_wide.2 (S _))).mono ?_; rintro e w' ⟨rfl, rfl⟩) | (refine ⟨trivial, ?_⟩; gi_at_call 114; refine (CallsIn.inRound l (callsIn_wide.2 (H _))).mono ?_; rintro e w' ⟨rfl, rfl⟩) | (refine ⟨(trivial : Fence.wide.fn _), ?_⟩))
       exact ⟨KeepsFrom.refl _ _, Below.refl _ _, HG.out, ⟨hc, hf⟩, hB⟩
      ·
       have HG := Lib.hid (HNX.out false (by rw [hokI, h0]; simp))
       subst h0
       clear hokI HNX
       gi_wp2_with (first | (refine ⟨trivial, ?_⟩; gi_at_call 161; refine (CallsIn.inRound l (callsIn_wide.2 (P _))).mono ?_; rintro e w' ⟨rfl, rfl⟩) | (refine ⟨trivial, ?_⟩; gi_at_call 162; refine (CallsIn.inRound l (callsIn_wide.2 (S _))).mono ?_; rintro e w' ⟨rfl, rfl⟩) | (refine ⟨trivial, ?_⟩; gi_at_call 114; refine (CallsIn.inRound l (callsIn_wide.2 (H _))).mono ?_; rintro e w' ⟨rfl, rfl⟩) | (refine ⟨(trivial : Fence.wide.fn _), ?_⟩))
       exact ⟨(KeepsOthers.setCell _ _ _).from _, rfl, HG.out, World.cell?_setCell_same' _ _ _ (by rw [hc]; rfl), hB.setCell (p := ⟨w.heap.size, 0, none⟩) (Nat.le_refl _) _⟩
     ·
      have h1 : ((i : Int) == 0) = false := by rw [beq_eq_false_iff_ne]; omega
      have h2 : (0 : Int) < i := by omega
      cases b4
      ·
       have HG := Lib.hid (HNX.out true (by rw [hokI, decide_eq_false h0]; simp))
       clear hokI HNX h0
       gi_wp2_with (first | (refine ⟨trivial, ?_⟩; gi_at_call 161; refine (CallsIn.inRound l (callsIn_wide.2 (P _))).mono ?_; rintro e w' ⟨rfl, rfl⟩) | (refine ⟨trivial, ?_⟩; gi_at_call 162; refine (CallsIn.inRound l (callsIn_wide.2 (S _))).mono ?_; rintro e w' ⟨rfl, rfl⟩) | (refine ⟨trivial, ?_⟩; gi_at_call 114; refine (CallsIn.inRound l (callsIn_wide.2 (H _))).mono ?_; rintro e w' ⟨rfl, rfl⟩) | (refine ⟨(trivial : Fence.wide.fn _), ?_⟩))
       exact ⟨KeepsFrom.refl _ _, Below.refl _ _, HG.out, ⟨hc, hf⟩, hB⟩
      ·
       have HG := Lib.hid (HNX.out false (by rw [hokI, decide_eq_true (p := 0 < i) (by omega)]; simp))
       clear hokI HNX h0
       gi_wp2_with (first | (refine ⟨trivial, ?_⟩; gi_at_call 161; refine (CallsIn.inRound l (callsIn_wide.2 (P _))).mono ?_; rintro e w' ⟨rfl, rfl⟩) | (refine ⟨trivial, ?_⟩; gi_at_call 162; refine (CallsIn.inRound l (callsIn_wide.2 (S _))).mono ?_; rintro e w' ⟨rfl, rfl⟩) | (refine ⟨trivial, ?_⟩; gi_at_call 114; refine (CallsIn.inRound l (callsIn_wide.2 (H _))).mono ?_; rintro e w' ⟨rfl, rfl⟩) | (refine ⟨(trivial : Fence.wide.fn _), ?_⟩))
       exact ⟨(KeepsOthers.setCell _ _ _).from _, rfl, HG.out, World.cell?_setCell_same' _ _ _ (by rw [hc]; rfl), hB.setCell (p := ⟨w.heap.size, 0, none⟩) (Nat.le_refl _) _⟩
    ·
     have HG := Lib.hid (HNX.out false (by rw [hokI]; simp))
     clear hokI HNX
     gi_wp2_with (first | (refine ⟨trivial, ?_⟩; gi_at_call 161; refine (CallsIn.inRound l (callsIn_wide.2 (P _))).mono ?_; rintro e w' ⟨rfl, rfl⟩) | (refine ⟨trivial, ?_⟩; gi_at_call 162; refine (CallsIn.inRound l (callsIn_wide.2 (S _))).mono ?_; rintro e w' ⟨rfl, rfl⟩) | (refine ⟨trivial, ?_⟩; gi_at_call 114; refine (CallsIn.inRound l (callsIn_wide.2 (H _))).mono ?_; rintro e w' ⟨rfl, rfl⟩) | (refine ⟨(trivial : Fence.wide.fn _), ?_⟩))
     exact ⟨(KeepsOthers.setCell _ _ _).from _, rfl, HG.out, World.cell?_setCell_same' _ _ _ (by rw [hc]; rfl), hB.setCell (p := ⟨w.heap.size, 0, none⟩) (Nat.le_refl _) _⟩
  case done =>
   rintro D xs W hD hall ⟨hok, ⟨hc, hf⟩, hB⟩ hK
   have HF := Lib.hid (HY.out xs hall hok)
   clear hall hok HY HN
   gi_wp2
   have hK' := (KeepsOthers.setCell W ⟨w.heap.size, 0, none⟩ (.bool true)).same D _ hK rfl
   refine ⟨by simp, .inl ⟨_, _, rfl, run_takeDeferred hK', ?_⟩⟩
   have hc5 := cell_kept (World.cell?_setCell_same' W ⟨w.heap.size, 0, none⟩ (.bool true) (by rw [hc]; rfl)) (grownBy_putObj' _ D (.deferred none)) (fun r e => by cases e; exact ⟨_, hK', rfl⟩)
   refine ⟨.bool true, ?_, retb HF.out, (hB.setCell (p := ⟨w.heap.size, 0, none⟩) (Nat.le_refl _) _).trans (belowK_b (w := w) (Nat.le_refl _) _ D _ _ (by simp at hD; omega) hK' rfl rfl)⟩
   simp [results, Tryz.f131, go_sem, hc5]
  case stop =>
   rintro D c pre W hD hsome ⟨rfl, hno, hc, hB⟩ hK
   have HF := Lib.hid (HN.out pre hsome hno)
   clear hsome hno HY HN
   gi_wp2
   refine ⟨by simp, .inl ⟨_, _, rfl, run_takeDeferred hK, ?_⟩⟩
   have hc5 := cell_kept hc (grownBy_putObj' _ D (.deferred none)) (fun r e => by cases e; exact ⟨_, hK, rfl⟩)
   refine ⟨.bool false, ?_, retb HF.out, hB.trans (belowK_b (w := w) (Nat.le_refl _) _ D _ _ (by simp at hD; omega) hK rfl rfl)⟩
   simp [results, Tryz.f131, go_sem, hc5]
theorem field_any (n t : ByteArray) (hn : n.size ≤ 90000) (ht : t.size ≤ 90000) (w : World) : Calls Tryz.prog 93 #[.string n, .string t] w fun e w' => e = .returned (.bool (fieldB (n.data.toList, t.data.toList))) ∧ Below w.heap.size w w' := by
 have N := fun w => rightName_any n (by omega) w
 have T := fun w => rightText_any t ht w
 rw [field_parts]
 generalize snameB n.data.toList = b1 at *
 generalize textB t.data.toList = b2 at *
 cases b1
 ·
  clear T
  go_enter Tryz.func93, Tryz.ntmps93
  go_wp2_with (go_at_call 130; refine (N _).mono ?_; rintro e w1 ⟨rfl, rfl⟩)
  go_ret
  exact ⟨rfl, Below.refl _ _⟩
 ·
  rw [Bool.true_and]
  go_enter Tryz.func93, Tryz.ntmps93
  go_wp2_with (first | (go_at_call 130; refine (N _).mono ?_; rintro e w1 ⟨rfl, rfl⟩) | (go_at_call 131; refine (T _).mono ?_; rintro e w1 ⟨rfl, hb⟩; have HB := Lib.hid hb; clear hb))
  go_ret
  exact ⟨rfl, HB.out⟩
end
section
open Go.RowKit
def hasN (x : Bs) (fs : List Fld) : Bool := fs.any fun f => sameB f.1 x
theorem hasN_mem (x : Bs) (fs : List Fld) : hasN x fs = true ↔ lower x ∈ fs.map fun f => lower f.1 := by
 unfold hasN sameB
 rw [List.any_eq_true, List.mem_map]
 simp only [decide_eq_true_eq]
theorem hasN_take {x : Bs} {fs : List Fld} {k : Nat} {f : Fld} (h : fs[k]? = some f) : hasN x (fs.take (k + 1)) = (hasN x (fs.take k) || sameB f.1 x) := by
 unfold hasN
 rw [List.take_add_one, h, List.any_append]; simp
def PGetPost (x : Bs) (fs : List Fld) (w : World) (e : Ending) (w' : World) : Prop := ∃ T : ByteArray, e = .returned (.tuple #[.string T, .bool (hasN x fs)]) ∧ Below w.heap.size w w'
theorem get_any (v : Value) (fs : List Fld) (x : ByteArray) (hf : fs.length ≤ 90000) (hfs : ∀ f ∈ fs, f.1.length ≤ 90000 ∧ f.2.length ≤ 90000) (hx : x.size ≤ 90000) (w : World) (h : HoldR 2 w v (fs.map rowF)) :
  Calls Tryz.prog 68 #[v, .string x] w (PGetPost x.data.toList fs w) := by
 have HH := Lib.hid h
 have HS := Lib.hid hfs
 obtain ⟨a, c, b, o, rfl, hc, ha, hcell⟩ := h
 obtain ⟨n, hn⟩ : ∃ n, fs.length = n := ⟨_, rfl⟩
 have HN := Lib.hid hn
 rw [List.length_map, hn] at hc ha ⊢
 rw [List.length_map] at HH
 rw [hn] at hf HH
 clear hcell hfs hn
 have HP : Hid (∀ (T : ByteArray) w' b, hasN x.data.toList fs = b → Below w.heap.size w w' → PGetPost x.data.toList fs w (.returned (.tuple #[.string T, .bool b])) w') := Lib.hid (fun T w' b h1 h2 => ⟨T, by rw [h1], h2⟩)
 have SN := fun (y : ByteArray) (hy : y.size ≤ 100000) w => sameName_any y x hy (by omega) w
 go_enter Tryz.func68, Tryz.ntmps68
 go_wp2
 go_loopw [10] (fun i wr => ∃ k : Nat, k ≤ n ∧ i = .int .i64 k ∧ Hid (hasN x.data.toList (fs.take k) = false) ∧ Hid (Below w.heap.size w wr)) (fun i _ => n - (intOf i).toNat)
 case atStart => exact ⟨0, by omega, rfl, Lib.hid rfl, Lib.hid (Below.refl _ _)⟩
 case round =>
  obtain ⟨k, hk, rfl, H, HB⟩ := hrel
  by_cases hlt : k < n
  ·
   obtain ⟨rfl, hbw⟩ := ha (by omega)
   obtain ⟨f, hfk⟩ : ∃ f, fs[k]? = some f := ⟨_, List.getElem?_eq_getElem (by rw [HN.out]; exact hlt)⟩
   have hfm := HS.out f (List.mem_of_getElem? hfk)
   obtain ⟨X, hX⟩ : ∃ X : ByteArray, X.data.toList = f.1 := ⟨⟨f.1.toArray⟩, by simp⟩
   obtain ⟨Y, hY⟩ : ∃ Y : ByteArray, Y.data.toList = f.2 := ⟨⟨f.2.toArray⟩, by simp⟩
   obtain ⟨d0, d1⟩ := rowF_cells (HH.out.on HB.out) hfk hX hY
   have hXs : X.size ≤ 100000 := by rw [sizeOf, hX]; omega
   have S := SN X hXs
   have hst := hasN_take (x := x.data.toList) hfk
   rw [H.out, Bool.false_or, ← hX] at hst
   have hsz := HB.out.size
   have HBX : Hid (Below w.heap.size w (wr.alloc (.cells #[.string X, .string Y] 79))) := Lib.hid (HB.out.alloc hsz _)
   have hsub : hasN x.data.toList (fs.take (k + 1)) = true → hasN x.data.toList fs = true := fun g => by
    unfold hasN at g ⊢
    rw [List.any_eq_true] at g ⊢
    obtain ⟨y, hy, hy2⟩ := g
    exact ⟨y, List.mem_of_mem_take hy, hy2⟩
   generalize sameB X.data.toList x.data.toList = q at *
   cases q
   ·
    have HK := Lib.hid hst
    clear hst hsub hX hY hfm hfk SN H
    go_wp2_with (go_at_call 116; refine (S _).mono ?_; rintro e w1 ⟨rfl, q, rfl⟩)
    go_roundw
    case rel => exact ⟨k + 1, by omega, by go_num, HK, Lib.hid (belowQ HBX.out q)⟩
    case measure => simp [intOf]; omega
   ·
    have HK := Lib.hid (hsub hst)
    clear hst hsub hX hY hfm hfk SN H
    go_wp2_with (go_at_call 116; refine (S _).mono ?_; rintro e w1 ⟨rfl, q, rfl⟩)
    go_ret2
    exact HP.out Y _ true HK.out (belowQ HBX.out q)
  ·
   obtain rfl : k = n := by omega
   have HK : Hid (hasN x.data.toList fs = false) := Lib.hid (by have := H.out; rwa [List.take_of_length_le (by rw [HN.out]; omega)] at this)
   clear hlt SN H
   go_wp2
   go_ret2
   exact HP.out _ _ false HK.out HB.out
end
section
open Go.RowKit
theorem join_is : ∀ (l : List Bs), Lib.join l [10] = joinC 10 l
 | [] => rfl
 | [p] => by simp [Lib.join, joinC, List.intercalate]
 | p :: q :: ps => by
  have := join_is (q :: ps)
  unfold Lib.join List.intercalate at this ⊢
  rw [joinC, ← this, List.intersperse_cons_cons]
  simp
theorem joinC_len (N : Nat) : ∀ (l : List Bs), (∀ p ∈ l, p.length ≤ N) → (joinC 10 l).length ≤ l.length * (N + 1)
 | [], _ => by simp [joinC]
 | [p], h => by have := h p (by simp); simp [joinC]; omega
 | p :: q :: ps, h => by
  have h1 := joinC_len N (q :: ps) (fun x hx => h x (List.mem_cons_of_mem _ hx))
  have h2 := h p (by simp)
  rw [joinC, List.length_append, List.length_cons, List.length_cons (a := p), Nat.add_mul]
  omega
theorem joinC_any (v : Value) (ls : List Bs) (hn : ls.length ≤ 90001) (hp : ∀ p ∈ ls, p.length ≤ 90000) (w : World) (h : HoldT w v ls) :
  Calls Tryz.prog 43 #[v, .string ⟨#[10]⟩] w fun e w' => e = .returned (.string ⟨(joinC 10 ls).toArray⟩) ∧ Below w.heap.size w w' := by
 obtain ⟨a, c, b, o, rfl, hc, ha, hcell⟩ := h
 rcases Nat.eq_zero_or_pos ls.length with h0 | h0
 ·
  have e0 : ls = [] := List.eq_nil_of_length_eq_zero h0
  subst e0
  exact (Tryz.strings_Join_none a c ⟨#[10]⟩ w).mono fun e w' ⟨he, hw⟩ => by subst hw; exact ⟨he, Below.refl _ _⟩
 ·
  obtain ⟨rfl, hb⟩ := ha h0
  have hm : (ls.map fun l => ByteArray.mk l.toArray).map (·.data.toList) = ls := by simp [Function.comp_def]
  have hj := joinC_len 90000 ls hp
  have hj2 : ls.length * (90000 + 1) ≤ 90001 * 90001 := Nat.mul_le_mul hn (Nat.le_refl _)
  have := Tryz.strings_Join b o c (ls.map fun l => ByteArray.mk l.toArray) ⟨#[10]⟩ w (fun j x hx => by
   rw [List.getElem?_map] at hx
   cases hg : ls[j]? with
   | none => rw [hg] at hx; cases hx
   | some l => rw [hg] at hx; obtain rfl := Option.some.inj hx; exact hcell j l hg) hb (by rw [List.length_map]; omega) (by rw [List.length_map]; exact hc) (by rw [hm]; show (Lib.join ls [10]).length ≤ _; rw [join_is]; omega)
  rw [hm, List.length_map, show (ByteArray.mk #[10]).data.toList = [10] from rfl, join_is] at this
  exact this
theorem colon_cases (x : ByteArray) {A B : ByteArray} {ok : Bool} (h : CutIs x 58 A B ok) : A.data.toList = x.data.toList.take (colonAt x.data.toList) ∧ B.data.toList = x.data.toList.drop (colonAt x.data.toList + 1) ∧ A.size ≤ x.size ∧ B.size ≤ x.size := by
 rcases h with ⟨_, hf, rfl, rfl⟩ | ⟨_, k, hf, hk, rfl, rfl⟩
 ·
  have hc := colonAt_no _ (firstI_neg.1 (by omega : firstI 58 A.data.toList < 0))
  rw [hc, List.take_length, List.drop_eq_nil_of_le (by omega)]
  exact ⟨rfl, rfl, Nat.le_refl _, Nat.zero_le _⟩
 ·
  obtain ⟨h1, h2⟩ := first_not hf (by rw [← sizeOf]; exact hk)
  have hl : (x.data.toList.take k).length = k := by rw [List.length_take, ← sizeOf]; omega
  have hc : colonAt x.data.toList = k := by
   have := colonAt_at _ (x.data.toList.drop (k + 1)) h1
   rw [← h2, hl] at this; exact this
  rw [hc]
  exact ⟨by rw [extL]; simp, by rw [extL, List.take_of_length_le (by rw [List.length_drop, ← sizeOf]; omega)], by rw [ByteArray.size_extract]; omega, by rw [ByteArray.size_extract]; omega⟩
theorem trim_one (l : Bs) : Lib.trimPrefix l [32] = trim1 l := by
 unfold Lib.trimPrefix trim1
 rw [pre32]
 by_cases h : l.head? = some 32
 ·
  rw [decide_eq_true h, if_pos rfl, if_pos h]; simp
 ·
  rw [decide_eq_false h, if_neg (by simp), if_neg h]
theorem one1s (X : ByteArray) : ∀ u ∈ [Value.string X], u.oneCell' = true := by
 intro u hu
 simp at hu
 subst hu; rfl
structure BoxF (w : World) (b : Nat) (x y : ByteArray) : Prop where
 c0 : w.cell? ⟨b, 0, none⟩ = some (.string x)
 c1 : w.cell? ⟨b, 1, none⟩ = some (.string y)
 f : ∀ i, w.frozen? ⟨b, i, none⟩ = false
theorem BoxF.new (A : World) (x y : ByteArray) (t : TypeId) : BoxF (A.alloc (.cells #[.string x, .string y] t)) A.heap.size x y :=
 ⟨by simp [World.cell?_alloc_new], by simp [World.cell?_alloc_new], fun i => frozen_of_row _ A.heap.size i _ t (heap_alloc_new A _)⟩
theorem BoxF.on {A B : World} {b : Nat} {x y : ByteArray} (h : BoxF A b x y) (hb : Below A.heap.size A B) : BoxF B b x y := by
 have hlt := World.block_lt_of_cell? A _ h.c0
 have k := fun o => hb.cell (p := ⟨b, o, none⟩) hlt
 exact ⟨by rw [k]; exact h.c0, by rw [k]; exact h.c1, fun i => by rw [hb.frozen (p := ⟨b, i, none⟩) hlt]; exact h.f i⟩
abbrev putF (w : World) (b : Nat) (x y : ByteArray) : World := (w.setCell ⟨b, 0, none⟩ (.string x)).setCell ⟨b, 1, none⟩ (.string y)
theorem BoxF.put {w : World} {b : Nat} {x y : ByteArray} (h : BoxF w b x y) (x' y' : ByteArray) : (putF w b x' y').cell? ⟨b, 0, none⟩ = some (.string x') ∧ (putF w b x' y').cell? ⟨b, 1, none⟩ = some (.string y') := by
 have o : ∀ (A : World) (i j : Nat) (u v : Value), i ≠ j → A.cell? ⟨b, j, none⟩ = some v → (A.setCell ⟨b, i, none⟩ u).cell? ⟨b, j, none⟩ = some v := fun A i j u v hij hv => (World.cell?_setCell_other _ _ _ _ (fun e => hij (congrArg Addr.off e))).trans hv
 have s0 : ∀ (A : World) (i : Nat) (u v : Value), A.cell? ⟨b, i, none⟩ = some v → (A.setCell ⟨b, i, none⟩ u).cell? ⟨b, i, none⟩ = some u := fun A i u v hv => World.cell?_setCell_same _ _ _ hv
 exact ⟨o _ 1 0 _ _ (by omega) (s0 _ 0 _ _ h.c0), s0 _ 1 _ _ (o _ 0 1 _ _ (by omega) h.c1)⟩
theorem putF_below {B : Nat} {w0 w : World} {b : Nat} (h : Below B w0 w) (hb : B ≤ b) (x y : ByteArray) : Below B w0 (putF w b x y) := (h.setCell (p := ⟨b, 0, none⟩) hb _).setCell (p := ⟨b, 1, none⟩) hb _
theorem OwnT.lit (w : World) (base : Nat) (T : ByteArray) (h : base ≤ w.heap.size) : OwnT (w.alloc (.cells #[.string T] 9)) base (.slice (some ⟨w.heap.size, 0, none⟩) 1 1) [T.data.toList] := by
 refine ⟨by simp [txts], .inr ⟨w.heap.size, 1, #[.string T], by simp, h, heap_alloc_new w _, by simp, by decide, by simp, ?_⟩⟩
 simp [txts, ← strOf (x := T) rfl]
def ReadPost (x : Bs) (ms : List Bs) (w : World) (e : Ending) (w' : World) : Prop := e = .returned (fldV (readFld x ms)) ∧ Below w.heap.size w w'
theorem readField_any (x : ByteArray) (v : Value) (ms : List Bs) (hx : x.size ≤ 90000) (hm : ms.length ≤ 90000) (hml : ∀ p ∈ ms, p.length ≤ 90000) (hmh : ∀ p ∈ ms, p.head? = some 32) (w : World) (h : HoldT w v ms) :
  Calls Tryz.prog 115 #[.string x, v] w (ReadPost x.data.toList ms w) := by
 have C := fun w => cut2_any x (by omega) 58 w
 have TP : ∀ (s : ByteArray) w, Calls Tryz.prog 147 #[.string s, .string ⟨#[32]⟩] w fun e w' => e = .returned (.string ⟨(trim1 s.data.toList).toArray⟩) ∧ w = w' := fun s w => (Tryz.strings_TrimPrefix s ⟨#[32]⟩ w).mono fun e w' hp => by
  have e2 : Lib.trimPrefix s.data.toList (ByteArray.mk #[32]).data.toList = trim1 s.data.toList := trim_one _
  rw [e2] at hp
  exact ⟨hp.1, hp.2.symm⟩
 obtain ⟨a, c, b, o, rfl, hc, ha, hcell⟩ := h
 have HCL := Lib.hid hcell
 have HM := Lib.hid (And.intro hml hmh)
 obtain ⟨m, hN⟩ : ∃ m, ms.length = m := ⟨_, rfl⟩
 rw [hN] at hc ha hm ⊢
 have HN := Lib.hid hN
 obtain ⟨i0, hi, hz0, hz1, hz2⟩ := info_parts infoT
 clear hcell hml hmh hN
 go_enter Tryz.func115, Tryz.ntmps115
 go_wp2_with (go_at_call 123; refine (C _).mono ?_; clear C; rintro e w1 ⟨A, B, ok, rfl, HC, q, rfl⟩; refine Hid.out ?_)
 obtain ⟨hA, hB, hAs, hBs⟩ := colon_cases x HC.out
 obtain ⟨T, hT⟩ : ∃ T : ByteArray, T.data.toList = trim1 B.data.toList := ⟨⟨(trim1 B.data.toList).toArray⟩, by simp⟩
 have hTs : T.size ≤ 90000 := by
  rw [sizeOf, hT]
  have : (trim1 B.data.toList).length ≤ B.data.toList.length := by unfold trim1; split <;> simp
  rw [← sizeOf B] at this; omega
 have TB := fun w => TP B w
 rw [← strOf hT] at TB
 have HFIN : Hid (∀ ls : List Bs, ls = T.data.toList :: ms.map List.tail → ∀ S : ByteArray, S.data.toList = joinC 10 ls → ∀ w', Below w.heap.size w w' → ReadPost x.data.toList ms w (.returned (.agg #[.string A, .string S])) w') := Lib.hid (fun ls hls S hS w' hb => ⟨by
  unfold readFld fldV
  rw [← hA, ← hB, ← hT, ← hls, ← hS, ← strOf (x := A) rfl, ← strOf (x := S) rfl], hb⟩)
 have HR0 := Lib.hid ((BoxF.new w ⟨#[]⟩ ⟨#[]⟩ 79))
 obtain ⟨W0, hW0⟩ : ∃ W0 : World, W0 = w.alloc (.cells #[.string ⟨#[]⟩, .string ⟨#[]⟩] 79) := ⟨_, rfl⟩
 have HSZ : Hid (W0.heap.size = w.heap.size + 1) := Lib.hid (by rw [hW0]; simp)
 have HB0 : Hid (Below w.heap.size w W0) := Lib.hid (by rw [hW0]; exact (Below.refl _ _).alloc (Nat.le_refl _) _)
 rw [← hW0] at HR0 ⊢
 clear hW0 hA hB hT TP HC hAs hBs
 refine Lib.hid ?_
 go_wp2_with (go_at_call 147; refine (TB _).mono ?_; rintro e w1 ⟨rfl, rfl⟩)
 clear TB
 go_loopw [22, 8] (fun i va wr => ∃ k : Nat, k ≤ m ∧ i = .int .i64 k ∧ Hid (OwnT wr W0.heap.size va (T.data.toList :: (ms.take k).map List.tail)) ∧ Hid (Below W0.heap.size W0 wr)) (fun i _ _ => m - (intOf i).toNat)
 case atStart => exact ⟨0, by omega, rfl, Lib.hid (OwnT.lit (W0.drewN q) W0.heap.size T (Nat.le_refl _)), Lib.hid ((belowQ (Below.refl _ _) q).alloc (Nat.le_refl _) _)⟩
 case round =>
  obtain ⟨k, hk, rfl, HO, HB⟩ := hrel
  by_cases hlt : k < m
  ·
   obtain ⟨rfl, hbw⟩ := ha (by omega)
   obtain ⟨p, hp⟩ : ∃ p, ms[k]? = some p := ⟨_, List.getElem?_eq_getElem (by rw [HN.out]; exact hlt)⟩
   obtain ⟨P, hP⟩ : ∃ P : ByteArray, P.data.toList = p := ⟨⟨p.toArray⟩, by simp⟩
   have hcp : wr.cell? ⟨b, o + k, none⟩ = some (.string P) := by
    have h0 := HCL.out k p hp
    rw [← strOf hP] at h0
    have h1 : W0.cell? ⟨b, o + k, none⟩ = some (.string P) := (HB0.out.cell (p := ⟨b, o + k, none⟩) hbw).trans h0
    exact (HB.out.cell (p := ⟨b, o + k, none⟩) (by have := HSZ.out; show b < _; omega)).trans h1
   have hpm := HM.out.1 p (List.mem_of_getElem? hp)
   have hph := HM.out.2 p (List.mem_of_getElem? hp)
   have hPs : P.size ≤ 90000 := by rw [sizeOf, hP]; exact hpm
   have hP0 : 1 ≤ P.size := by
    rw [sizeOf, hP]
    cases p with
    | nil => cases hph
    | cons _ _ => simp
   have htl : (P.extract 1 P.size).data.toList = p.tail := by rw [extL, hP, List.take_of_length_le (by rw [List.length_drop, sizeOf, hP]; omega)]; simp
   have HNX : Hid ((T.data.toList :: (ms.take k).map List.tail) ++ [p.tail] = T.data.toList :: (ms.take (k + 1)).map List.tail) := Lib.hid (by rw [List.take_add_one, hp]; simp)
   have HTL := Lib.hid htl
   have hlen : (T.data.toList :: (ms.take k).map List.tail).length = k + 1 := by rw [List.length_cons, List.length_map, List.length_take, HN.out]; omega
   have HLEN := Lib.hid hlen
   have hsz := HB.out.size
   clear hp hP hpm hph htl hlen
   obtain ⟨L, hL⟩ : ∃ L : List Bs, T.data.toList :: (ms.take k).map List.tail = L := ⟨_, rfl⟩
   rw [hL] at HO HNX HLEN
   have hLL := HLEN.out
   clear hL HLEN
   go_wp2_with (first | (at_builtin; refine wpList_append_own _ rfl _ _ 40 rfl W0.heap.size 9 i0 (.string ⟨#[]⟩) 1 16 Tryz.underlying40 hi hz0 hz1 hz2 rfl (by decide) _ _ _ rfl (World.ownsRow.alloc HO.out _) ⟨wr.heap.size, 0, none⟩ 1 1 [.string (P.extract 1 P.size)] rfl rfl (news1 _ _ rfl) (one1s _) ?c3 ?c4 ?c5 ?_))
   case c3 => unfold maxLen; omega
   case c4 => omega
   case c5 => omega
   ·
    intro v' w1 hown' hgrow _
    have HO' : Hid (OwnT w1 W0.heap.size v' (T.data.toList :: (ms.take (k + 1)).map List.tail)) := Lib.hid (by rw [← HNX.out]; exact OwnT.app HTL.out (by rw [hLL]; exact hown'))
    have HB' : Hid (Below W0.heap.size W0 w1) := Lib.hid (belowG HB.out HO.out hgrow (Nat.le_refl _) hsz)
    clear hown' hgrow
    go_wp2
    go_roundw
    case rel => exact ⟨k + 1, by omega, by go_num, HO', HB'⟩
    case measure => simp [intOf]; omega
  ·
   obtain rfl : k = m := by omega
   have hall : (T.data.toList :: (ms.take k).map List.tail) = T.data.toList :: ms.map List.tail := by rw [List.take_of_length_le (by rw [HN.out]; omega)]
   have HF2 := Lib.hid (HFIN.out _ rfl)
   have hlen : (T.data.toList :: ms.map List.tail).length = k + 1 := by simp [HN.out]
   have HH := HO.out.holds
   rw [hall] at HH
   have J := joinC_any _ (T.data.toList :: ms.map List.tail) (by omega) (fun p hp => by
    rcases List.mem_cons.1 hp with rfl | hp
    ·
     rw [← sizeOf]; exact hTs
    ·
     obtain ⟨q, hq, rfl⟩ := List.mem_map.1 hp
     have := HM.out.1 q hq
     rw [List.length_tail]; omega) wr HH
   clear HH
   obtain ⟨S, hS⟩ : ∃ S : ByteArray, S.data.toList = joinC 10 (T.data.toList :: ms.map List.tail) := ⟨⟨(joinC 10 (T.data.toList :: ms.map List.tail)).toArray⟩, by simp⟩
   rw [← strOf hS] at J
   have HF3 := Lib.hid (HF2.out S hS)
   have hsz := HB.out.size
   clear hall hlen hS ha
   go_wp2_with (go_at_call 43; refine J.mono ?_; clear J; rintro e w2 ⟨rfl, hb2⟩; obtain ⟨r0, r1, rf⟩ := (HR0.out.on HB.out).on hb2; have HB2 := Lib.hid (HB0.out.trans ((HB.out.trans (hb2.mono hsz)).mono (by have := HSZ.out; omega))); clear hb2)
   obtain ⟨k0, k1⟩ := BoxF.put ⟨r0, r1, rf⟩ A S
   exact bodyPost_ret (v := .agg #[.string A, .string S]) (by simp [results, Tryz.results115, go_sem, k0, k1]) rfl (HF3.out _ (putF_below HB2.out (Nat.le_refl _) _ _))
end
end Go.Proofs.YtkbkaeefdhkgdaaGreatDoor
