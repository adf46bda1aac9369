import Derived.Test.YtkbkaeefdhkgdaaGreatDoorGSPA
import Derived.Test.YtkbkaeefdhkgdaaGreatDoorGSPLines2
import Derived.Test.YtkbkaeefdhkgdaaGreatDoorGSPrint
set_option maxRecDepth 100000
set_option maxHeartbeats 32000000
namespace Go.Proofs.YtkbkaeefdhkgdaaGreatDoor
section
open Go.RowKit Go.Shelf
attribute [local go_sem] Oper.semAt_some
theorem txB_is (c : UInt8) (h : ¬ c = 10) : txB c = prB c := by
 have : ¬ c.toNat = 10 := fun g => h (UInt8.toNat_inj.1 g)
 unfold txB prB; rw [decide_eq_false this]; rfl
theorem text_lines (s : Bs) : s.all txB = (spl 10 s).all fun p => p.all prB := by
 induction s with
 | nil => rfl
 | cons x s ih =>
  rw [spl_cons, List.all_cons, ih]
  by_cases h : x = 10
  ·
   subst h; simp [txB]
  ·
   rw [if_neg h, txB_is x h]
   have hne := spl_ne 10 s
   cases hs : spl 10 s with
   | nil => exact absurd hs hne
   | cons p ps => simp [glue, Bool.and_assoc]
def textB (t : Bs) : Bool := decide (t.length ≤ 65536) && t.all txB && linesB (spl 10 t)
theorem field_parts (n t : Bs) : fieldB (n, t) = (snameB n && textB t) := by
 rw [field_is]; unfold snameB textB
 rw [Bool.eq_iff_iff]
 simp only [Bool.and_eq_true]
 exact ⟨fun ⟨⟨⟨⟨⟨⟨a, b⟩, c⟩, d⟩, e⟩, f⟩, g⟩ => ⟨⟨⟨⟨a, b⟩, d⟩, e⟩, ⟨c, f⟩, g⟩, fun ⟨⟨⟨⟨a, b⟩, d⟩, e⟩, ⟨c, f⟩, g⟩ => ⟨⟨⟨⟨⟨⟨a, b⟩, c⟩, d⟩, e⟩, f⟩, g⟩⟩
def okLn (x : LineX) : Bool := (lnOf x).all prB && lineAt x.1.1 (lnOf x)
theorem text_yes {s : Bs} {ys : List LineX} (h : AllLn s ys) (hok : ys.all okLn = true) (hl : s.length ≤ 65536) : textB s = true := by
 have hk := List.all_eq_true.1 hok
 unfold textB
 rw [decide_eq_true hl, text_lines, ← h.1]
 simp only [Bool.true_and, Bool.and_eq_true]
 constructor
 ·
  rw [List.all_eq_true]
  intro p hp
  obtain ⟨x, hx, rfl⟩ := List.mem_map.1 hp
  have := hk x hx
  unfold okLn at this
  rw [Bool.and_eq_true] at this; exact this.1
 ·
  have hne : ys.map lnOf ≠ [] := by rw [h.1]; exact spl_ne _ _
  rw [linesB_at _ hne]
  intro j hj
  have hj' : j < ys.length := by simpa using hj
  have h1 := hk ys[j] (List.getElem_mem hj')
  have h2 := h.2 j ys[j] (List.getElem?_eq_getElem hj')
  unfold okLn at h1
  rw [Bool.and_eq_true, h2] at h1
  rw [List.getElem_map]; exact h1.2
theorem text_no {s : Bs} {ys : List LineX} (h : SomeLn s ys) (hno : ys.all okLn = false) : textB s = false := by
 rw [List.all_eq_false] at hno
 obtain ⟨x, hx, hb⟩ := hno
 obtain ⟨j, hj, rfl⟩ := List.mem_iff_getElem.1 hx
 have hi := h.2 j ys[j] (List.getElem?_eq_getElem hj)
 have hjs : j < (spl 10 s).length := by have := h.1.length_le; simp at this; omega
 have he : (spl 10 s)[j] = lnOf ys[j] := by
  have := h.1.getElem (i := j) (by simpa using hj)
  rw [← this, List.getElem_map]
 unfold okLn at hb
 unfold textB
 by_cases h1 : (lnOf ys[j]).all prB = true
 ·
  have h2 : lineAt j (spl 10 s)[j] = false := by
   rw [h1, Bool.true_and, hi, ← he] at hb; simpa using hb
  rw [linesB_no (spl_ne _ _) hjs h2, Bool.and_false]
 ·
  have : s.all txB = false := by
   rw [text_lines, List.all_eq_false]
   exact ⟨_, List.getElem_mem hjs, by rw [he]; exact h1⟩
  rw [this, Bool.and_false, Bool.false_and]
theorem pre32 (l : Bs) : Lib.hasPrefix l [32] = decide (l.head? = some 32) := by
 cases l with
 | nil => rfl
 | cons c l =>
  show Lib.hasPrefix (c :: l) [32] = decide (some c = some 32)
  by_cases h : c = 32
  ·
   subst h; simp [Lib.hasPrefix, List.isPrefixOf]
  ·
   have : ¬ 32 = c := fun g => h g.symm
   simp [Lib.hasPrefix, List.isPrefixOf, h, this]
theorem suf32 (l : Bs) : Lib.hasSuffix l [32] = decide (l.getLast? = some 32) := by
 unfold Lib.hasSuffix
 rw [Bool.eq_iff_iff, List.isSuffixOf_iff_suffix, decide_eq_true_eq]
 constructor
 ·
  rintro ⟨t, rfl⟩; simp
 ·
  intro h
  obtain ⟨t, ht⟩ := List.getLast?_eq_some_iff.1 h
  exact ⟨t, ht.symm⟩
theorem prefix_any (s : ByteArray) (w : World) : Calls Tryz.prog 114 #[.string s, .string ⟨#[32]⟩] w fun e w' => e = .returned (.bool (decide (s.data.toList.head? = some 32))) ∧ w = w' :=
 (Tryz.strings_HasPrefix s ⟨#[32]⟩ w).mono fun _ _ h => ⟨by rw [h.1]; exact congrArg (fun b => Ending.returned (.bool b)) (pre32 _), h.2.symm⟩
theorem suffix_any (s : ByteArray) (hs : s.size ≤ 100000) (w : World) : Calls Tryz.prog 162 #[.string s, .string ⟨#[32]⟩] w fun e w' => e = .returned (.bool (decide (s.data.toList.getLast? = some 32))) ∧ w = w' :=
 (Tryz.strings_HasSuffix s ⟨#[32]⟩ w (by omega)).mono fun _ _ h => ⟨by rw [h.1]; exact congrArg (fun b => Ending.returned (.bool b)) (suf32 _), h.2.symm⟩
theorem rightText_any (s : ByteArray) (hs : s.size ≤ 90000) (w : World) : Calls Tryz.prog 131 #[.string s] w fun e w' => e = .returned (.bool (textB s.data.toList)) ∧ Below w.heap.size w w' := by
 obtain ⟨R, HR⟩ : ∃ R, Hid (textB s.data.toList = R) := ⟨_, rfl⟩
 rw [HR.out]
 have hl := sizeOf s
 by_cases h6 : 65536 < s.size
 ·
  have HF : Hid (false = R) := Lib.hid (by rw [← HR.out]; unfold textB; rw [decide_eq_false (by omega)]; rfl)
  clear HR hl
  go_enter Tryz.func131, Tryz.ntmps131
  go_wp2
  exact bodyPost_ret (v := .bool false) (by simp [results, Tryz.results131, go_sem]) rfl ⟨retb HF.out, (Below.refl _ _).alloc (Nat.le_refl _) _⟩
 ·
  have HY : Hid (∀ ys, AllLn s.data.toList ys → ys.all okLn = true → true = R) := Lib.hid (fun ys h1 h2 => by rw [← HR.out]; exact (text_yes h1 h2 (by omega)).symm)
  have HN : Hid (∀ ys, SomeLn s.data.toList ys → ys.all okLn = false → false = R) := Lib.hid (fun ys h1 h2 => by rw [← HR.out]; exact (text_no h1 h2).symm)
  clear HR hl
  refine (callsIn_wide (n := 5)).1 ?_
  refine callsIn_of_wp_marks Tryz.func131 rfl trivial ?_ rfl
  simp only [Tryz.ntmps131, List.size_toArray, List.length_cons, List.length_nil, Nat.reduceAdd, Nat.reduceSub, Array.replicate_succ, Array.replicate_zero, List.push_toArray, List.append_toArray, List.nil_append, List.cons_append]
  have hd6 : decide (65536 < (s.size : Int)) = false := decide_eq_false (by omega)
  gi_wp2_with (refine ⟨trivial, ?_⟩; gi_at_call 95; refine (lines_in _ _ _).mono ?_; rintro e w' ⟨rfl, rfl⟩)
  have bN : ((w.alloc (.cells #[.bool false] 4)).alloc (.cells #[.string s] 9)).cell? ⟨w.heap.size + 1, 0, none⟩ = some (.string s) := by
   simp
  have bR : ((w.alloc (.cells #[.bool false] 4)).alloc (.cells #[.string s] 9)).cell? ⟨w.heap.size, 0, none⟩ = some (.bool false) := by
   rw [((Below.refl (w.alloc (.cells #[.bool false] 4)).heap.size _).alloc (Nat.le_refl _) _).cell (p := ⟨w.heap.size, 0, none⟩) (by simp)]
   simp [World.cell?_alloc_new]
  have hB0 : Below w.heap.size w ((w.alloc (.cells #[.bool false] 4)).alloc (.cells #[.string s] 9)) := ((Below.refl _ w).alloc (Nat.le_refl _) _).alloc (by simp) _
  refine wpIn_rangeFunc_ownG rfl (by omega) (gf := 133) (lb := #[.pointer (some ⟨w.heap.size + 1, 0, none⟩)]) rfl trivial (enters_of Tryz.func133 (by kernel_rfl) rfl)
   (lines_stops _ (by omega) (Below w.heap.size) s hs (w.heap.size + 1) _ (by simp) bN) belowK_t (belowK_b (by simp; omega)) (Below.refl _ _) (fun _ => rfl)
   (fun pre W => pre.all okLn = true ∧ (W.cell? ⟨w.heap.size, 0, none⟩ = some (.bool false) ∧ W.frozen? ⟨w.heap.size, 0, none⟩ = false) ∧ Below w.heap.size w W)
   (fun c pre W => c = .ret ∧ pre.all okLn = false ∧ W.cell? ⟨w.heap.size, 0, none⟩ = some (.bool false) ∧ Below w.heap.size w W)
   (fun s A B row hs hg hr => ⟨hs.1, ⟨cell_kept hs.2.1.1 hg (fun r e => (hr r e).2), (frozen_kept hs.2.1.1 hg (fun r e => (hr r e).2)).trans hs.2.1.2⟩, ownFrom_below (β := Unit) (Nat.le_refl _) (by simp; omega) () A B row hs.2.2 hg hr⟩)
   (fun c s A B row hs hg hr => ⟨hs.1, hs.2.1, cell_kept hs.2.2.1 hg (fun r e => (hr r e).2), ownFrom_below (β := Unit) (Nat.le_refl _) (by simp; omega) () A B row hs.2.2.2 hg hr⟩)
   ⟨rfl, ⟨bR, by simp⟩, hB0⟩
   (fun x => { tmps := #[.string s, undef, .pointer (some ⟨w.heap.size, 0, none⟩), .int .i64 x.1.1, .string x.1.2, .string s, .int .i64 s.size, .bool false, .string s, .func (.func 133) #[] #[.pointer (some ⟨w.heap.size + 1, 0, none⟩)], .int .i64 x.1.1, .string x.1.2, undef, undef, undef, undef, undef, undef, undef, undef, undef, undef, undef, undef, undef, undef, undef, undef, undef, undef, undef, undef, undef], defers := [] }) ?assign ?body ?done ?stop
  case assign =>
   intro l x W K hK
   dsimp only [encLn]
   gi_wp2
   exact hK
  case body =>
   rintro l pre ⟨⟨i, L⟩, hi, hL⟩ W ⟨hok, ⟨hc, hf⟩, hB⟩ hlt
   have hi' : i ≤ 100000 := hi
   have hL' : L.size ≤ 100000 := hL
   have P := fun w => sprintable_any L hL' w
   have S := fun w => suffix_any L hL' w
   have H := fun w => prefix_any L w
   have e0 := emptyT L
   have HNX : Hid (∀ b, okLn ⟨(i, L), hi, hL⟩ = b → (pre ++ [(⟨(i, L), hi, hL⟩ : LineX)]).all okLn = b) := Lib.hid (fun b hb => by rw [List.all_append, hok, List.all_cons, hb]; simp)
   have hokI : okLn ⟨(i, L), hi, hL⟩ = (L.data.toList.all prB && (!(decide (i = 0) && decide (L.data.toList.head? = some 32)) && endB L.data.toList && !(decide (0 < i) && decide (L.data.toList = [])))) := rfl
   have hee : decide (L.data.toList = []) = decide (L.size = 0) := by
    rw [sizeOf]; cases L.data.toList <;> simp
   unfold endB at hokI
   rw [hee] at hokI
   have hB' := hB
   clear hok hlt hee
   dsimp only []
   generalize L.data.toList.all prB = b1 at *
   generalize decide (L.data.toList.getLast? = some 32) = b2 at *
   generalize decide (L.data.toList.head? = some 32) = b3 at *
   generalize decide (L.size = 0) = b4 at *
   cases b1
   ·
    have HG := Lib.hid (HNX.out false (by rw [hokI]; rfl))
    clear hokI HNX
    gi_wp2_with (first | (refine ⟨trivial, ?_⟩; gi_at_call 161; refine (CallsIn.inRound l (callsIn_wide.2 (P _))).mono ?_; rintro e w' ⟨rfl, rfl⟩) | (refine ⟨trivial, ?_⟩; gi_at_call 162; refine (CallsIn.inRound l (callsIn_wide.2 (S _))).mono ?_; rintro e w' ⟨rfl, rfl⟩) | (refine ⟨trivial, ?_⟩; gi_at_call 114; refine (CallsIn.inRound l (callsIn_wide.2 (H _))).mono ?_; rintro e w' ⟨rfl, rfl⟩) | (refine ⟨(trivial : Fence.wide.fn _), ?_⟩))
    exact ⟨(KeepsOthers.setCell _ _ _).from _, rfl, HG.out, World.cell?_setCell_same' _ _ _ (by rw [hc]; rfl), hB.setCell (p := ⟨w.heap.size, 0, none⟩) (Nat.le_refl _) _⟩
   ·
    cases b2
    ·
     by_cases h0 : i = 0
     ·
      cases b3
      ·
       have HG := Lib.hid (HNX.out true (by rw [hokI, h0]; simp))
       subst h0
       clear hokI HNX
       gi_wp2_with (first | (refine ⟨trivial, ?_⟩; gi_at_call 161; refine (CallsIn.inRound l (callsIn_wide.2 (P _))).mono ?_; rintro e w' ⟨rfl, rfl⟩) | (refine ⟨trivial, ?_⟩; gi_at_call 162; refine (CallsIn.inRound l (callsIn_wide.2 (S _))).mono ?_; rintro e w' ⟨rfl, rfl⟩) | (refine ⟨trivial, ?_⟩; gi_at_call 114; refine (CallsIn.inRound l (callsIn_wide.2 (H _))).mono ?_; rintro e w' ⟨rfl, rfl⟩) | (refine ⟨(trivial : Fence.wide.fn _), ?_⟩))
       exact ⟨KeepsFrom.refl _ _, Below.refl _ _, HG.out, ⟨hc, hf⟩, hB⟩
      ·
       have HG := Lib.hid (HNX.out false (by rw [hokI, h0]; simp))
       subst h0
       clear hokI HNX
       gi_wp2_with (first | (refine ⟨trivial, ?_⟩; gi_at_call 161; refine (CallsIn.inRound l (callsIn_wide.2 (P _))).mono ?_; rintro e w' ⟨rfl, rfl⟩) | (refine ⟨trivial, ?_⟩; gi_at_call 162; refine (CallsIn.inRound l (callsIn_wide.2 (S _))).mono ?_; rintro e w' ⟨rfl, rfl⟩) | (refine ⟨trivial, ?_⟩; gi_at_call 114; refine (CallsIn.inRound l (callsIn_wide.2 (H _))).mono ?_; rintro e w' ⟨rfl, rfl⟩) | (refine ⟨(trivial : Fence.wide.fn _), ?_⟩))
       exact ⟨(KeepsOthers.setCell _ _ _).from _, rfl, HG.out, World.cell?_setCell_same' _ _ _ (by rw [hc]; rfl), hB.setCell (p := ⟨w.heap.size, 0, none⟩) (Nat.le_refl _) _⟩
     ·
      have h1 : ((i : Int) == 0) = false := by rw [beq_eq_false_iff_ne]; omega
      have h2 : (0 : Int) < i := by omega
      cases b4
      ·
       have HG := Lib.hid (HNX.out true (by rw [hokI, decide_eq_false h0]; simp))
       clear hokI HNX h0
       gi_wp2_with (first | (refine ⟨trivial, ?_⟩; gi_at_call 161; refine (CallsIn.inRound l (callsIn_wide.2 (P _))).mono ?_; rintro e w' ⟨rfl, rfl⟩) | (refine ⟨trivial, ?_⟩; gi_at_call 162; refine (CallsIn.inRound l (callsIn_wide.2 (S _))).mono ?_; rintro e w' ⟨rfl, rfl⟩) | (refine ⟨trivial, ?_⟩; gi_at_call 114; refine (CallsIn.inRound l (callsIn_wide.2 (H _))).mono ?_; rintro e w' ⟨rfl, rfl⟩) | (refine ⟨(trivial : Fence.wide.fn _), ?_⟩))
       exact ⟨KeepsFrom.refl _ _, Below.refl _ _, HG.out, ⟨hc, hf⟩, hB⟩
      ·
       have HG := Lib.hid (HNX.out false (by rw [hokI, decide_eq_true (p := 0 < i) (by omega)]; simp))
       clear hokI HNX h0
       gi_wp2_with (first | (refine ⟨trivial, ?_⟩; gi_at_call 161; refine (CallsIn.inRound l (callsIn_wide.2 (P _))).mono ?_; rintro e w' ⟨rfl, rfl⟩) | (refine ⟨trivial, ?_⟩; gi_at_call 162; refine (CallsIn.inRound l (callsIn_wide.2 (S _))).mono ?_; rintro e w' ⟨rfl, rfl⟩) | (refine ⟨trivial, ?_⟩; gi_at_call 114; refine (CallsIn.inRound l (callsIn_wide.2 (H _))).mono ?_; rintro e w' ⟨rfl, rfl⟩) | (refine ⟨(trivial : Fence.wide.fn _), ?_⟩))
       exact ⟨(KeepsOthers.setCell _ _ _).from _, rfl, HG.out, World.cell?_setCell_same' _ _ _ (by rw [hc]; rfl), hB.setCell (p := ⟨w.heap.size, 0, none⟩) (Nat.le_refl _) _⟩
    ·
     have HG := Lib.hid (HNX.out false (by rw [hokI]; simp))
     clear hokI HNX
     gi_wp2_with (first | (refine ⟨trivial, ?_⟩; gi_at_call 161; refine (CallsIn.inRound l (callsIn_wide.2 (P _))).mono ?_; rintro e w' ⟨rfl, rfl⟩) | (refine ⟨trivial, ?_⟩; gi_at_call 162; refine (CallsIn.inRound l (callsIn_wide.2 (S _))).mono ?_; rintro e w' ⟨rfl, rfl⟩) | (refine ⟨trivial, ?_⟩; gi_at_call 114; refine (CallsIn.inRound l (callsIn_wide.2 (H _))).mono ?_; rintro e w' ⟨rfl, rfl⟩) | (refine ⟨(trivial : Fence.wide.fn _), ?_⟩))
     exact ⟨(KeepsOthers.setCell _ _ _).from _, rfl, HG.out, World.cell?_setCell_same' _ _ _ (by rw [hc]; rfl), hB.setCell (p := ⟨w.heap.size, 0, none⟩) (Nat.le_refl _) _⟩
  case done =>
   rintro D xs W hD hall ⟨hok, ⟨hc, hf⟩, hB⟩ hK
   have HF := Lib.hid (HY.out xs hall hok)
   clear hall hok HY HN
   gi_wp2
   have hK' := (KeepsOthers.setCell W ⟨w.heap.size, 0, none⟩ (.bool true)).same D _ hK rfl
   refine ⟨by simp, .inl ⟨_, _, rfl, run_takeDeferred hK', ?_⟩⟩
   have hc5 := cell_kept (World.cell?_setCell_same' W ⟨w.heap.size, 0, none⟩ (.bool true) (by rw [hc]; rfl)) (grownBy_putObj' _ D (.deferred none)) (fun r e => by cases e; exact ⟨_, hK', rfl⟩)
   refine ⟨.bool true, ?_, retb HF.out, (hB.setCell (p := ⟨w.heap.size, 0, none⟩) (Nat.le_refl _) _).trans (belowK_b (w := w) (Nat.le_refl _) _ D _ _ (by simp at hD; omega) hK' rfl rfl)⟩
   simp [results, Tryz.f131, go_sem, hc5]
  case stop =>
   rintro D c pre W hD hsome ⟨rfl, hno, hc, hB⟩ hK
   have HF := Lib.hid (HN.out pre hsome hno)
   clear hsome hno HY HN
   gi_wp2
   refine ⟨by simp, .inl ⟨_, _, rfl, run_takeDeferred hK, ?_⟩⟩
   have hc5 := cell_kept hc (grownBy_putObj' _ D (.deferred none)) (fun r e => by cases e; exact ⟨_, hK, rfl⟩)
   refine ⟨.bool false, ?_, retb HF.out, hB.trans (belowK_b (w := w) (Nat.le_refl _) _ D _ _ (by simp at hD; omega) hK rfl rfl)⟩
   simp [results, Tryz.f131, go_sem, hc5]
theorem field_any (n t : ByteArray) (hn : n.size ≤ 90000) (ht : t.size ≤ 90000) (w : World) : Calls Tryz.prog 93 #[.string n, .string t] w fun e w' => e = .returned (.bool (fieldB (n.data.toList, t.data.toList))) ∧ Below w.heap.size w w' := by
 have N := fun w => rightName_any n (by omega) w
 have T := fun w => rightText_any t ht w
 rw [field_parts]
 generalize snameB n.data.toList = b1 at *
 generalize textB t.data.toList = b2 at *
 cases b1
 ·
  clear T
  go_enter Tryz.func93, Tryz.ntmps93
  go_wp2_with (go_at_call 130; refine (N _).mono ?_; rintro e w1 ⟨rfl, rfl⟩)
  go_ret
  exact ⟨rfl, Below.refl _ _⟩
 ·
  rw [Bool.true_and]
  go_enter Tryz.func93, Tryz.ntmps93
  go_wp2_with (first | (go_at_call 130; refine (N _).mono ?_; rintro e w1 ⟨rfl, rfl⟩) | (go_at_call 131; refine (T _).mono ?_; rintro e w1 ⟨rfl, hb⟩; have HB := Lib.hid hb; clear hb))
  go_ret
  exact ⟨rfl, HB.out⟩
end
section
open Go.RowKit
def hasN (x : Bs) (fs : List Fld) : Bool := fs.any fun f => sameB f.1 x
theorem hasN_mem (x : Bs) (fs : List Fld) : hasN x fs = true ↔ lower x ∈ fs.map fun f => lower f.1 := by
 unfold hasN sameB
 rw [List.any_eq_true, List.mem_map]
 simp only [decide_eq_true_eq]
theorem hasN_take {x : Bs} {fs : List Fld} {k : Nat} {f : Fld} (h : fs[k]? = some f) : hasN x (fs.take (k + 1)) = (hasN x (fs.take k) || sameB f.1 x) := by
 unfold hasN
 rw [List.take_add_one, h, List.any_append]; simp
def PGetPost (x : Bs) (fs : List Fld) (w : World) (e : Ending) (w' : World) : Prop := ∃ T : ByteArray, e = .returned (.tuple #[.string T, .bool (hasN x fs)]) ∧ Below w.heap.size w w'
theorem get_any (v : Value) (fs : List Fld) (x : ByteArray) (hf : fs.length ≤ 90000) (hfs : ∀ f ∈ fs, f.1.length ≤ 90000 ∧ f.2.length ≤ 90000) (hx : x.size ≤ 90000) (w : World) (h : HoldR 2 w v (fs.map rowF)) :
  Calls Tryz.prog 68 #[v, .string x] w (PGetPost x.data.toList fs w) := by
 have HH := Lib.hid h
 have HS := Lib.hid hfs
 obtain ⟨a, c, b, o, rfl, hc, ha, hcell⟩ := h
 obtain ⟨n, hn⟩ : ∃ n, fs.length = n := ⟨_, rfl⟩
 have HN := Lib.hid hn
 rw [List.length_map, hn] at hc ha ⊢
 rw [List.length_map] at HH
 rw [hn] at hf HH
 clear hcell hfs hn
 have HP : Hid (∀ (T : ByteArray) w' b, hasN x.data.toList fs = b → Below w.heap.size w w' → PGetPost x.data.toList fs w (.returned (.tuple #[.string T, .bool b])) w') := Lib.hid (fun T w' b h1 h2 => ⟨T, by rw [h1], h2⟩)
 have SN := fun (y : ByteArray) (hy : y.size ≤ 100000) w => sameName_any y x hy (by omega) w
 go_enter Tryz.func68, Tryz.ntmps68
 go_wp2
 go_loopw [10] (fun i wr => ∃ k : Nat, k ≤ n ∧ i = .int .i64 k ∧ Hid (hasN x.data.toList (fs.take k) = false) ∧ Hid (Below w.heap.size w wr)) (fun i _ => n - (intOf i).toNat)
 case atStart => exact ⟨0, by omega, rfl, Lib.hid rfl, Lib.hid (Below.refl _ _)⟩
 case round =>
  obtain ⟨k, hk, rfl, H, HB⟩ := hrel
  by_cases hlt : k < n
  ·
   obtain ⟨rfl, hbw⟩ := ha (by omega)
   obtain ⟨f, hfk⟩ : ∃ f, fs[k]? = some f := ⟨_, List.getElem?_eq_getElem (by rw [HN.out]; exact hlt)⟩
   have hfm := HS.out f (List.mem_of_getElem? hfk)
   obtain ⟨X, hX⟩ : ∃ X : ByteArray, X.data.toList = f.1 := ⟨⟨f.1.toArray⟩, by simp⟩
   obtain ⟨Y, hY⟩ : ∃ Y : ByteArray, Y.data.toList = f.2 := ⟨⟨f.2.toArray⟩, by simp⟩
   obtain ⟨d0, d1⟩ := rowF_cells (HH.out.on HB.out) hfk hX hY
   have hXs : X.size ≤ 100000 := by rw [sizeOf, hX]; omega
   have S := SN X hXs
   have hst := hasN_take (x := x.data.toList) hfk
   rw [H.out, Bool.false_or, ← hX] at hst
   have hsz := HB.out.size
   have HBX : Hid (Below w.heap.size w (wr.alloc (.cells #[.string X, .string Y] 79))) := Lib.hid (HB.out.alloc hsz _)
   have hsub : hasN x.data.toList (fs.take (k + 1)) = true → hasN x.data.toList fs = true := fun g => by
    unfold hasN at g ⊢
    rw [List.any_eq_true] at g ⊢
    obtain ⟨y, hy, hy2⟩ := g
    exact ⟨y, List.mem_of_mem_take hy, hy2⟩
   generalize sameB X.data.toList x.data.toList = q at *
   cases q
   ·
    have HK := Lib.hid hst
    clear hst hsub hX hY hfm hfk SN H
    go_wp2_with (go_at_call 116; refine (S _).mono ?_; rintro e w1 ⟨rfl, q, rfl⟩)
    go_roundw
    case rel => exact ⟨k + 1, by omega, by go_num, HK, Lib.hid (belowQ HBX.out q)⟩
    case measure => simp [intOf]; omega
   ·
    have HK := Lib.hid (hsub hst)
    clear hst hsub hX hY hfm hfk SN H
    go_wp2_with (go_at_call 116; refine (S _).mono ?_; rintro e w1 ⟨rfl, q, rfl⟩)
    go_ret2
    exact HP.out Y _ true HK.out (belowQ HBX.out q)
  ·
   obtain rfl : k = n := by omega
   have HK : Hid (hasN x.data.toList fs = false) := Lib.hid (by have := H.out; rwa [List.take_of_length_le (by rw [HN.out]; omega)] at this)
   clear hlt SN H
   go_wp2
   go_ret2
   exact HP.out _ _ false HK.out HB.out
end
end Go.Proofs.YtkbkaeefdhkgdaaGreatDoor
