import Derived.Test.YtkbkaeefdhkgdaaGreatDoorPSOwn
set_option maxRecDepth 100000
set_option maxHeartbeats 32000000
namespace Go.Proofs.YtkbkaeefdhkgdaaGreatDoor
section
open Go.RowKit
abbrev lenS (l : List Bs) : Nat := (l.map fun p => p.length + 1).sum
theorem glue_lenS (u : Bs) (l : List Bs) (h : l ≠ []) : lenS (glue u l) = u.length + lenS l := by
 cases l with
 | nil => exact absurd rfl h
 | cons p l => simp [glue, lenS]; omega
theorem spl_sum (c : UInt8) (s : Bs) : lenS (spl c s) = s.length + 1 := by
 induction s with
 | nil => simp [spl, lenS]
 | cons x s ih =>
  rw [spl_cons]; split
  ·
   simp only [lenS, List.map_cons, List.sum_cons, List.length_nil, List.length_cons] at ih ⊢; omega
  ·
   rw [glue_lenS _ _ (spl_ne _ _), ih]; simp; omega
theorem drop_sum (l : List Bs) : lenS l.dropLast ≤ lenS l := by
 rcases List.eq_nil_or_concat l with rfl | ⟨a, b, rfl⟩
 ·
  simp
 ·
  simp [lenS]
abbrev wF (f : Fld) : Nat := f.1.length + 3 * f.2.length + 3
abbrev wFs (st : List Fld) : Nat := (st.map wF).sum
abbrev wS (l : List (List Fld)) : Nat := (l.map fun st => wFs st + 1).sum
theorem headF_len {p : Bs} {f : Fld} (h : headF p = some f) : f.1.length + f.2.length + 1 ≤ p.length := by
 unfold headF at h
 split at h
 ·
  rename_i hc
  simp only [Option.some.injEq] at h
  subst h
  simp only [List.length_take]
  have h2 : (p.drop (colonAt p + 1)).length = p.length - (colonAt p + 1) := List.length_drop
  split
  ·
   rw [List.length_tail]; omega
  ·
   omega
 ·
  cases h
theorem last_cases (at' : List Fld) (h : at' ≠ []) : ∃ st f, at' = st ++ [f] := by
 rcases List.eq_nil_or_concat at' with rfl | ⟨a, b, rfl⟩
 ·
  exact absurd rfl h
 ·
  exact ⟨a, b, by simp⟩
theorem addLine_last (st : List Fld) (f : Fld) (p : Bs) : addLine (st ++ [f]) p = st ++ [(f.1, f.2 ++ 10 :: p)] := by simp [addLine]
theorem step_len {out out' : List (List Fld)} {at' at'' : List Fld} {p : Bs} (h : pstep (some (out, at')) p = some (out', at'')) : wS out' + wFs at'' ≤ wS out + wFs at' + (3 * p.length + 4) := by
 unfold pstep at h
 simp only [] at h
 split at h
 ·
  simp only [Option.some.injEq, Prod.mk.injEq] at h
  obtain ⟨rfl, rfl⟩ := h
  simp [wS, wFs]; omega
 ·
  split at h
  ·
   rename_i h0 hc
   obtain ⟨st, f, rfl⟩ := last_cases at' hc.2
   rw [addLine_last] at h
   simp only [Option.some.injEq, Prod.mk.injEq] at h
   obtain ⟨rfl, rfl⟩ := h
   have : p.tail.length = p.length - 1 := List.length_tail
   have h1 : 0 < p.length := List.length_pos_iff.2 h0
   simp [wFs, wF] at *; omega
  ·
   split at h
   ·
    cases h
   ·
    rename_i f hf
    simp only [Option.some.injEq, Prod.mk.injEq] at h
    obtain ⟨rfl, rfl⟩ := h
    have := headF_len hf
    simp [wFs, wF]; omega
theorem fold_none (ls : List Bs) : ls.foldl pstep none = none := by
 induction ls with
 | nil => rfl
 | cons p ls ih => rw [List.foldl_cons]; exact ih
theorem fold_len (ls : List Bs) : ∀ {out out' : List (List Fld)} {at' at'' : List Fld}, ls.foldl pstep (some (out, at')) = some (out', at'') → wS out' + wFs at'' ≤ wS out + wFs at' + 4 * lenS ls := by
 induction ls with
 | nil =>
  intro out out' at' at'' h
  simp only [List.foldl_nil, Option.some.injEq, Prod.mk.injEq] at h
  obtain ⟨rfl, rfl⟩ := h
  omega
 | cons p ls ih =>
  intro out out' at' at'' h
  rw [List.foldl_cons] at h
  cases hp : pstep (some (out, at')) p with
  | none => rw [hp, fold_none] at h; cases h
  | some x =>
   obtain ⟨o1, a1⟩ := x
   rw [hp] at h
   have h1 := ih h
   have h2 := step_len hp
   simp only [lenS, List.map_cons, List.sum_cons] at h1 ⊢
   omega
theorem tail_sum (ps : List Bs) : (ps.flatMap tailLine).length = lenS ps + ps.length := by
 induction ps with
 | nil => rfl
 | cons p ps ih => simp only [List.flatMap_cons, List.length_append, ih, tailLine, lenS, List.map_cons, List.sum_cons, List.length_cons, List.length_nil]; omega
theorem printT_len (ls : List Bs) : (printT ls).length ≤ lenS ls + ls.length := by
 cases ls with
 | nil => simp [printT]
 | cons p ps =>
  unfold printT headLine
  rw [List.length_append, tail_sum]
  have : (if p ≠ [] then 32 :: p else p).length ≤ p.length + 1 := by split <;> simp
  simp only [List.length_append, List.length_cons, List.length_nil, lenS, List.map_cons, List.sum_cons] at *
  omega
theorem printF_len (f : Fld) : (printF f).length ≤ wF f := by
 have h1 := printT_len (spl 10 f.2)
 have h2 := spl_sum 10 f.2
 have h3 := spl_len 10 f.2
 unfold printF
 simp only [List.length_append, List.length_cons]
 unfold wF; omega
theorem printS_len (st : List Fld) : (printS st).length ≤ wFs st := by
 unfold printS
 induction st with
 | nil => simp
 | cons f st ih =>
  have := printF_len f
  simp only [List.flatMap_cons, List.length_append, wFs, List.map_cons, List.sum_cons] at *
  omega
theorem printSs_len (l : List (List Fld)) : (printSs l).length ≤ wS l := by
 induction l with
 | nil => simp [printSs]
 | cons st l ih =>
  rw [printSs_cons]
  have := printS_len st
  split
  ·
   simp only [List.append_nil, wS, List.map_cons, List.sum_cons]; omega
  ·
   simp only [List.length_append, List.length_cons, wS, List.map_cons, List.sum_cons] at *; omega
theorem sum_mem {α : Type} (g : α → Nat) : ∀ (l : List α) (x : α), x ∈ l → g x ≤ (l.map g).sum
 | [], x, h => by cases h
 | y :: l, x, h => by
  simp only [List.map_cons, List.sum_cons]
  rcases List.mem_cons.1 h with rfl | h
  ·
   omega
  ·
   have := sum_mem g l x h; omega
theorem sum_len {α : Type} (g : α → Nat) (l : List α) (hg : ∀ x ∈ l, 1 ≤ g x) : l.length ≤ (l.map g).sum := by
 induction l with
 | nil => simp
 | cons x l ih =>
  have := hg x (by simp)
  have := ih (fun y hy => hg y (List.mem_cons_of_mem _ hy))
  simp only [List.map_cons, List.sum_cons, List.length_cons]; omega
structure Small (l : List (List Fld)) (B : Nat) : Prop where
 n : l.length ≤ B
 ns : ∀ st ∈ l, st.length ≤ B
 fs : ∀ st ∈ l, ∀ f ∈ st, f.1.length ≤ B ∧ f.2.length ≤ B
 pr : (printSs l).length ≤ B
theorem small_of {l : List (List Fld)} {B : Nat} (h : wS l ≤ B) : Small l B where
 n := Nat.le_trans (sum_len _ l (fun x _ => by omega)) h
 ns := fun st hst => by
  have h1 : wFs st + 1 ≤ wS l := sum_mem (fun st => wFs st + 1) l st hst
  have h2 : st.length ≤ wFs st := sum_len wF st (fun x _ => by unfold wF; omega)
  omega
 fs := fun st hst f hf => by
  have h1 : wFs st + 1 ≤ wS l := sum_mem (fun st => wFs st + 1) l st hst
  have h2 : wF f ≤ wFs st := sum_mem wF st f hf
  unfold wF at h2
  omega
 pr := Nat.le_trans (printSs_len l) h
theorem fold_small {s : Bs} {ls : List Bs} {out : List (List Fld)} {at' : List Fld} (hs : ls = (spl 10 s).dropLast) (h : ls.foldl pstep (some ([], [])) = some (out, at')) : wS out + wFs at' ≤ 4 * (s.length + 1) := by
 have h1 := fold_len ls h
 have h2 := drop_sum (spl 10 s)
 rw [spl_sum, ← hs] at h2
 simp only [wS, wFs, List.map_nil, List.sum_nil] at h1
 simp only [wS, wFs]
 omega
theorem take_sum : ∀ (l : List Bs) (k : Nat), lenS (l.take k) ≤ lenS l
 | [], k => by simp
 | p :: l, 0 => by simp [lenS]
 | p :: l, k + 1 => by
  have := take_sum l k
  simp only [List.take_succ_cons, lenS, List.map_cons, List.sum_cons] at *; omega
theorem fold_small' {s : Bs} {ls : List Bs} {k : Nat} {out : List (List Fld)} {at' : List Fld} (hs : ls = (spl 10 s).dropLast) (h : (ls.take k).foldl pstep (some ([], [])) = some (out, at')) : Small (out ++ [at']) (4 * (s.length + 1) + 1) := by
 refine small_of ?_
 have h1 := fold_len _ h
 have h2 := drop_sum (spl 10 s)
 have h3 := take_sum ls k
 rw [spl_sum, ← hs] at h2
 simp only [wS, wFs, List.map_nil, List.sum_nil] at h1
 simp only [wS, wFs, List.map_append, List.sum_append, List.map_cons, List.map_nil, List.sum_cons, List.sum_nil]
 omega
theorem parse_of {s : Bs} {out : List (List Fld)} {at' : List Fld} (h0 : (spl 10 s).getLast? = some []) (h : (spl 10 s).dropLast.foldl pstep (some ([], [])) = some (out, at')) (l : List (List Fld)) (hl : l = if (spl 10 s).dropLast = [] then out else out ++ [at']) : parseS s = if printE l = (s, 0) then some l else none := by
 unfold parseS linesO parseL
 rw [if_pos h0]
 simp only [h]
 rw [← hl]
theorem parse_unended {s : Bs} (h0 : ¬ (spl 10 s).getLast? = some []) : parseS s = none := by
 unfold parseS linesO
 rw [if_neg h0]
theorem parse_bad {s : Bs} {k : Nat} (h : ((spl 10 s).dropLast.take k).foldl pstep (some ([], [])) = none) : parseS s = none := by
 unfold parseS linesO
 split
 ·
  rfl
 ·
  rename_i ls hls
  split at hls
  ·
   simp only [Option.some.injEq] at hls
   subst hls
   have : (spl 10 s).dropLast.foldl pstep (some ([], [])) = none := by
    rw [← List.take_append_drop k (spl 10 s).dropLast, List.foldl_append, h, fold_none]
   unfold parseL
   rw [this]
  ·
   cases hls
theorem fold_next {ls : List Bs} {k : Nat} {p : Bs} (h : ls[k]? = some p) : (ls.take (k + 1)).foldl pstep (some ([], [])) = pstep ((ls.take k).foldl pstep (some ([], []))) p := by
 rw [List.take_add_one, h]
 simp [List.foldl_append]
theorem pstep_empty (out : List (List Fld)) (at' : List Fld) : pstep (some (out, at')) [] = some (out ++ [at'], []) := by simp [pstep]
theorem pstep_more (out : List (List Fld)) (st : List Fld) (f : Fld) (p : Bs) : pstep (some (out, st ++ [f])) (32 :: p) = some (out, st ++ [(f.1, f.2 ++ 10 :: p)]) := by
 unfold pstep; simp only []; rw [if_neg (by simp), if_pos ⟨rfl, by simp⟩, List.tail_cons, addLine_last]
theorem pstep_head {out : List (List Fld)} {at' : List Fld} {p : Bs} (h0 : p ≠ []) (h1 : ¬ (p.head? = some 32 ∧ at' ≠ [])) : pstep (some (out, at')) p = (headF p).map fun f => (out, at' ++ [f]) := by
 unfold pstep; simp only []; rw [if_neg h0, if_neg h1]
 cases headF p <;> rfl
end
section
open Go.RowKit
def ParsePost6 (s : Bs) (w : World) (e : Ending) (w' : World) : Prop := ∃ v b, e = .returned (.tuple #[v, .bool b]) ∧ (∀ l, parseS s = some l → b = true ∧ HoldRR 2 w' v (l.map (·.map rowF)) ∧ Small l (4 * (s.length + 1) + 1)) ∧ (parseS s = none → b = false) ∧ Below w.heap.size w w'
theorem news2 {w : World} {b : Nat} (X Y : ByteArray) (t : TypeId) (hb : b = w.heap.size) : ∀ j u, [Value.string X, .string Y][j]? = some u → (w.alloc (.cells #[.string X, .string Y] t)).cell? ((⟨b, 0, none⟩ : Addr).add j) = some u := by
 subst hb
 intro j u hj
 match j, hj with
 | 0, hj => simp at hj; subst hj; simp [Addr.add, World.cell?_alloc_new]
 | 1, hj => simp at hj; subst hj; simp [Addr.add, World.cell?_alloc_new]
 | j + 2, hj => simp at hj
theorem one2 (X Y : ByteArray) : ∀ u ∈ [Value.string X, .string Y], u.oneCell' = true := by
 intro u hu
 simp at hu
 rcases hu with rfl | rfl <;> rfl
theorem news1 {w : World} {b : Nat} (v : Value) (t : TypeId) (hb : b = w.heap.size) : ∀ j u, [v][j]? = some u → (w.alloc (.cells #[v] t)).cell? ((⟨b, 0, none⟩ : Addr).add j) = some u := by
 subst hb
 intro j u hj
 match j, hj with
 | 0, hj => simp at hj; subst hj; simp [Addr.add, World.cell?_alloc_new]
 | j + 1, hj => simp at hj
theorem one1 (a : Option Addr) (n c : Nat) : ∀ u ∈ [Value.slice a n c], u.oneCell' = true := by
 intro u hu
 simp at hu
 subst hu; rfl
theorem parse_ref6 (s : ByteArray) (hs : s.size ≤ 3000) (w : World) : Calls Tryz.prog 30 #[.string s] w (ParsePost6 s.data.toList w) := by
 have C := fun w => lines_ref s (by omega) w
 unfold LinesPost at C
 obtain ⟨i0, hi, hz0, hz1, hz2⟩ := info_parts infoF
 obtain ⟨i1, hi', hy0, hy1, hy2⟩ := info_parts infoSF
 have HBAD : Hid (∀ v w', parseS s.data.toList = none → Below w.heap.size w w' → ParsePost6 s.data.toList w (.returned (.tuple #[v, .bool false])) w') := Lib.hid (fun v w' h hb => ⟨v, false, rfl, fun l hl => (by rw [h] at hl; cases hl), fun _ => rfl, hb⟩)
 have HOK : Hid (∀ l v w', parseS s.data.toList = some l → HoldRR 2 w' v (l.map (·.map rowF)) → Small l (4 * (s.data.toList.length + 1) + 1) → Below w.heap.size w w' → ParsePost6 s.data.toList w (.returned (.tuple #[v, .bool true])) w') := Lib.hid (fun l v w' h h1 h2 hb => ⟨v, true, rfl, fun l' hl => (by rw [h] at hl; cases hl; exact ⟨rfl, h1, h2⟩), fun hn => (by rw [h] at hn; cases hn), hb⟩)
 by_cases hend : (spl 10 s.data.toList).getLast? = some []
 case neg =>
  have G := HBAD.out
  have hn := parse_unended hend
  rw [decide_eq_false hend] at C
  have HG := Lib.hid (fun v w' => G v w' hn)
  clear hend G hn HBAD HOK
  go_enter Tryz.func30, Tryz.ntmps30
  go_wp2_with (go_at_call 77; (with_reducible refine (C _).mono ?_); rintro e w1 ⟨v1, rfl, hh, hb⟩)
  go_ret2
  exact HG.out _ _ hb
 case pos =>
  rw [decide_eq_true hend] at C
  have HEND := Lib.hid hend
  have hpc : ∀ p ∈ (spl 10 s.data.toList).dropLast, p.length ≤ 3000 := fun p hp => by
   have := spl_piece 10 s.data.toList p ((List.dropLast_sublist _).subset hp)
   rw [← sizeOf] at this; omega
  have HPC := Lib.hid hpc
  have hln := spl_len 10 s.data.toList
  rw [← sizeOf] at hln
  obtain ⟨ls, hls⟩ : ∃ ls, (spl 10 s.data.toList).dropLast = ls := ⟨_, rfl⟩
  have hll : ls.length ≤ 3000 := by rw [← hls, List.length_dropLast]; omega
  rw [hls] at C HPC
  have HLS := Lib.hid hls
  obtain ⟨n, hN⟩ : ∃ n, ls.length = n := ⟨_, rfl⟩
  rw [hN] at hll
  have HN := Lib.hid hN
  have hsz0 := sizeOf s
  have HSM : Hid (∀ (k : Nat) out at', (ls.take k).foldl pstep (some ([], [])) = some (out, at') → Small (out ++ [at']) 12005) := Lib.hid (fun k out at' h => by
   have := fold_small' hls.symm h
   rw [← sizeOf] at this
   exact ⟨by have := this.n; omega, fun st hst => by have := this.ns st hst; omega, fun st hst f hf => by have := this.fs st hst f hf; omega, by have := this.pr; omega⟩)
  clear hend hpc hls hln hN hsz0
  go_enter Tryz.func30, Tryz.ntmps30
  go_wp2_with (go_at_call 77; (with_reducible refine (C _).mono ?_); rintro e w1 ⟨v1, rfl, hh, hb⟩; obtain ⟨a, c, b, o, rfl, hc, ha, hcell⟩ := hh; have HC := Lib.hid hcell; have HB1 := Lib.hid hb; rw [HN.out]; rw [HN.out] at hc ha; clear hb hcell C; refine Hid.out ?_)
  refine Lib.hid ?_
  go_wp2
  go_loopw [4, 7, 8] (fun vo va i wr => ∃ (k B : Nat) (out : List (List Fld)) (at' : List Fld), k ≤ n ∧ i = .int .i64 k ∧ Hid ((ls.take k).foldl pstep (some ([], [])) = some (out, at')) ∧ Hid (Built wr w1.heap.size B vo va out at') ∧ Hid (Below w1.heap.size w1 wr)) (fun _ _ i _ => n - (intOf i).toNat)
  case atStart => exact ⟨0, _, [], [], by omega, rfl, Lib.hid rfl, Lib.hid (Built.start w1 _ (Nat.le_refl _)), Lib.hid (Below.refl _ _)⟩
  case round =>
   obtain ⟨k, B, out, at', hk, rfl, HF, HBU, HB⟩ := hrel
   have hsm := HSM.out k out at' HF.out
   have HS := Lib.hid hsm
   have hol := hsm.n
   have hal := hsm.ns at' (by simp)
   rw [List.length_append, List.length_singleton] at hol
   obtain ⟨us, h1, h2, h3, h4, h5⟩ := id HBU.out
   obtain ⟨av, cv, hva, hav⟩ := h2.shape
   obtain ⟨q, hq⟩ : ∃ q, at'.length = q := ⟨_, rfl⟩
   rw [hq] at hva hav hal
   subst hva
   have HQ := Lib.hid hq
   have H1 := Lib.hid h1
   have H2 := Lib.hid h2
   have H5 := Lib.hid h5
   have hbz : w1.heap.size ≤ wr.heap.size := HB.out.size
   clear h1 h2 h5 hsm hq
   by_cases hlt : k < n
   ·
    obtain ⟨rfl, hbw⟩ := ha (by omega)
    obtain ⟨p, hp⟩ : ∃ p, ls[k]? = some p := ⟨_, List.getElem?_eq_getElem (by rw [HN.out]; exact hlt)⟩
    obtain ⟨x, hx⟩ : ∃ x : ByteArray, x.data.toList = p := ⟨⟨p.toArray⟩, by simp⟩
    have hcx : wr.cell? ⟨b, o + k, none⟩ = some (.string x) := by rw [HB.out.cell hbw, strOf hx]; exact HC.out k p hp
    have hxs : x.size ≤ 3000 := by rw [sizeOf, hx]; exact HPC.out p (List.mem_of_getElem? hp)
    have HNX := Lib.hid (fold_next hp)
    rw [HF.out, ← hx] at HNX
    have hez := emptyT x
    clear hp hx
    by_cases hx0 : x.size = 0
    ·
     rw [decide_eq_true hx0] at hez
     have HNN : Hid ((ls.take (k + 1)).foldl pstep (some ([], [])) = some (out ++ [at'], [])) := Lib.hid (by
      rw [HNX.out, List.eq_nil_of_length_eq_zero (l := x.data.toList) (by rw [← sizeOf]; exact hx0), pstep_empty])
     clear hx0 HNX
     go_wp2_with (first | (at_builtin; refine wpList_append_own _ rfl _ _ 50 rfl w1.heap.size 51 i1 (.slice none 0 0) 1 24 Tryz.underlying50 hi' hy0 hy1 hy2 rfl (by decide) _ _ _ rfl (World.ownsRow.alloc H1.out _) ⟨wr.heap.size, 0, none⟩ 1 1 [.slice av q cv] rfl rfl ?c1 ?c2 ?c3 ?c4 ?c5 ?_))
     case c2 => rfl
     case c3 => unfold maxLen; omega
     case c4 => omega
     case c5 => omega
     ·
      intro v' w2 hown' hgrow _
      have HB' : Hid (Built w2 w1.heap.size w2.heap.size v' (.slice none 0 0) (out ++ [at']) []) := Lib.hid (Built.cut H1.out H2.out h3 H5.out hown' hgrow (by have := hgrow.size; simp at this; omega))
      have HBL : Hid (Below w1.heap.size w1 w2) := Lib.hid (below_row HB.out H1.out hgrow (Nat.le_refl _) hbz)
      clear hown' hgrow
      go_wp2
      go_roundw
      case rel => exact ⟨k + 1, _, out ++ [at'], [], by omega, by go_num, HNN, HB', HBL⟩
      case measure => simp [intOf]; omega
    ·
     rw [decide_eq_false hx0] at hez
     have hx0' : 0 < x.size := by omega
     have hd0 := dropC x 0 hx0'
     rw [List.drop_zero] at hd0
     have HD0 := Lib.hid hd0
     have hxb := x[0].toNat_lt
     clear hd0 hx0
     by_cases h32 : x[0] = 32 ∧ at' ≠ []
     ·
      obtain ⟨h32, hne⟩ := h32
      have e32 := yes32 h32
      obtain ⟨st, f, rfl⟩ := last_cases at' hne
      obtain ⟨y, hy⟩ : ∃ y : ByteArray, y.data.toList = f.2 := ⟨⟨(f.2).toArray⟩, by simp⟩
      have hys : y.size ≤ 12005 := by rw [sizeOf, hy]; exact (HS.out.fs (st ++ [f]) (by simp) f (by simp)).2
      obtain ⟨m, hm⟩ : ∃ m, st.length = m := ⟨_, rfl⟩
      obtain rfl : q = m + 1 := by rw [← HQ.out, List.length_append, hm]; rfl
      obtain ⟨g, rfl⟩ := hav (by omega)
      obtain ⟨l1, l2⟩ := H2.out.last hy
      have hbu := HBU.out
      rw [← hm] at hbu
      have HST := Lib.hid (fun (z : ByteArray) (t : Bs) (hz : z.data.toList = t) => hbu.set hz)
      rw [hm] at HST l1 l2
      have HNN : Hid ((ls.take (k + 1)).foldl pstep (some ([], [])) = some (out, st ++ [(f.1, ((y ++ ⟨#[10]⟩) ++ x.extract 1 x.size).data.toList)])) := Lib.hid (by
       rw [HNX.out, HD0.out, h32, pstep_more, ByteArray.data_append, Array.toList_append, ByteArray.data_append, Array.toList_append, sext_end, HD0.out, hy]
       simp)
      have h1s : ∀ x, (ByteArray.mk #[x]).size = 1 := fun _ => rfl
      have hxe : (x.extract 1 x.size).size ≤ 3000 := by rw [ByteArray.size_extract]; omega
      clear h32 hne hy hm hbu HNX HD0
      go_wp2
      go_region
      obtain ⟨hb2, hBg⟩ := HST.out ((y ++ ⟨#[10]⟩) ++ x.extract 1 x.size) _ rfl
      have HB' : Hid (Built (wr.setCell ⟨g, m * 2 + 1, none⟩ (.string ((y ++ ⟨#[10]⟩) ++ x.extract 1 x.size))).drew w1.heap.size B u4 (.slice (some ⟨g, 0, none⟩) (m + 1) cv) out (st ++ [(f.1, ((y ++ ⟨#[10]⟩) ++ x.extract 1 x.size).data.toList)])) := Lib.hid (hb2.on (Below.refl _ _).drew)
      have HBL : Hid (Below w1.heap.size w1 (wr.setCell ⟨g, m * 2 + 1, none⟩ (.string ((y ++ ⟨#[10]⟩) ++ x.extract 1 x.size))).drew) := Lib.hid ((HB.out.setCell (Nat.le_trans h3 hBg) _).drew)
      clear hb2
      go_wp2
      go_roundw
      case rel => exact ⟨k + 1, B, out, _, by omega, by go_num, HNN, HB', HBL⟩
      case measure => simp [intOf]; omega
     ·
      have hkey : (((x[0].toNat : Int) == 32) = false) ∨ (((x[0].toNat : Int) == 32) = true ∧ q = 0) := by
       by_cases h : x[0] = 32
       ·
        refine .inr ⟨yes32 h, ?_⟩
        have : at' = [] := Decidable.byContradiction fun g => h32 ⟨h, g⟩
        rw [← HQ.out, this]; rfl
       ·
        exact .inl (not32 h)
      have HNN : Hid ((ls.take (k + 1)).foldl pstep (some ([], [])) = (headF x.data.toList).map fun f => (out, at' ++ [f])) := Lib.hid (by
       rw [HNX.out, pstep_head (by rw [HD0.out]; simp) (by rw [HD0.out]; simpa using h32)])
      have D := fun w => head_ref x (by omega) w
      unfold HeadPost at D
      clear h32 HNX HD0
      cases hhd : headF x.data.toList with
      | none =>
       have G := Lib.hid (fun v w' => HBAD.out v w' (parse_bad (k := k + 1) (by rw [HLS.out, HNN.out, hhd]; rfl)))
       rw [hhd] at D
       simp only [headV, fldV] at D
       clear hhd HNN HBAD HOK
       rcases hkey with e32 | ⟨e32, rfl⟩
       all_goals
        go_wp2_with (go_at_call 78; (with_reducible refine (D _).mono ?_); rintro e w2 ⟨rfl, hb2⟩)
        go_ret2
        exact G.out _ _ (((HB1.out.trans (HB.out.mono HB1.out.size)).trans (hb2.mono (Nat.le_trans HB1.out.size hbz))).alloc (Nat.le_trans HB1.out.size (Nat.le_trans hbz hb2.size)) _)
      | some f =>
       obtain ⟨X, hX⟩ : ∃ X : ByteArray, X = ⟨(f.1).toArray⟩ := ⟨_, rfl⟩
       obtain ⟨Y, hY⟩ : ∃ Y : ByteArray, Y = ⟨(f.2).toArray⟩ := ⟨_, rfl⟩
       have HXY : Hid (X.data.toList = f.1 ∧ Y.data.toList = f.2) := Lib.hid ⟨by rw [hX], by rw [hY]⟩
       have HNN' : Hid ((ls.take (k + 1)).foldl pstep (some ([], [])) = some (out, at' ++ [f])) := Lib.hid (by rw [HNN.out, hhd]; rfl)
       rw [hhd] at D
       simp only [headV, fldV, ← hX, ← hY] at D
       clear hhd HNN hX hY
       have hh4 := Lib.hid h4
       rcases hkey with e32 | ⟨e32, rfl⟩
       all_goals
        go_wp2_with (first
         | (go_at_call 78; (with_reducible refine (D _).mono ?_); rintro e w2 ⟨rfl, hb2⟩; have HB2 := Lib.hid hb2; have hsz2 := hb2.size; clear hb2; obtain ⟨us2, k1, k2, k3, k4, k5⟩ := (HBU.out.on HB2.out).on ((Below.refl _ _).alloc (Nat.le_refl _) (.cells #[.string X, .string Y] 79)); have K1 := Lib.hid k1; have K2 := Lib.hid k2; have K4 := Lib.hid k4; have K5 := Lib.hid k5; clear k1 k2 k4 k5)
         | (at_builtin; refine wpList_append_own _ rfl _ _ 51 rfl B 79 i0 (.agg #[.string ⟨#[]⟩, .string ⟨#[]⟩]) 2 32 Tryz.underlying51 hi hz0 hz1 hz2 rfl (by decide) _ _ _ rfl (World.ownsRow.alloc K2.out _) ⟨w2.heap.size + 1, 0, none⟩ 1 1 [.string X, .string Y] rfl rfl (news2 X Y _ (by simp)) (one2 X Y) (by rw [HQ.out]; unfold maxLen; omega) (by rw [HQ.out]; omega) (by simp; omega) ?_))
        intro v' w3 hown' hgrow _
        have HB' : Hid (Built w3 w1.heap.size B u4 v' out (at' ++ [f])) := Lib.hid (Built.add K1.out K2.out k3 K4.out K5.out HXY.out.1 HXY.out.2 hown' hgrow)
        have HBL : Hid (Below w1.heap.size w1 w3) := Lib.hid (below_row (((HB.out).trans (HB2.out.mono hbz)).alloc (Nat.le_trans hbz hsz2) _) K2.out hgrow k3 (by simp; omega))
        clear hown' hgrow
        go_wp2
        go_roundw
        case rel => exact ⟨k + 1, B, out, at' ++ [f], by omega, by go_num, HNN', HB', HBL⟩
        case measure => simp [intOf]; omega
   ·
    obtain rfl : k = n := by omega
    have HFF : Hid ((spl 10 s.data.toList).dropLast.foldl pstep (some ([], [])) = some (out, at')) := Lib.hid (by
     rw [HLS.out]; have := HF.out; rwa [List.take_of_length_le (by rw [HN.out]; omega)] at this)
    have HNIL : Hid (k = 0 → (spl 10 s.data.toList).dropLast = []) := Lib.hid (fun e => by rw [HLS.out]; exact List.eq_nil_of_length_eq_zero (by rw [HN.out]; exact e))
    have HNE : Hid (0 < k → (spl 10 s.data.toList).dropLast ≠ []) := Lib.hid (fun e h => by rw [HLS.out] at h; rw [← HN.out, h] at e; simp at e)
    have hwz := HB1.out.size
    clear hlt HF ha hav
    go_upto_if 83 with fail
    go_cut [4] (fun vo wx => ∃ l : List (List Fld), Hid (parseS s.data.toList = if printE l = (s.data.toList, 0) then some l else none) ∧ Hid (Small l (4 * (s.data.toList.length + 1) + 1)) ∧ Hid (HoldRR 2 wx vo (l.map (·.map rowF))) ∧ Hid (Below w.heap.size w wx))
    case first =>
     by_cases hk0 : 0 < k
     ·
      have HP := Lib.hid (parse_of HEND.out HFF.out (out ++ [at']) (by rw [if_neg (HNE.out hk0)]))
      have HSS : Hid (Small (out ++ [at']) (4 * (s.data.toList.length + 1) + 1)) := Lib.hid (fold_small' (k := k) rfl (by rw [List.take_of_length_le (by rw [HLS.out, HN.out]; omega)]; exact HFF.out))
      go_wp2_with (first | (at_builtin; refine wpList_append_own _ rfl _ _ 50 rfl w1.heap.size 51 i1 (.slice none 0 0) 1 24 Tryz.underlying50 hi' hy0 hy1 hy2 rfl (by decide) _ _ _ rfl (World.ownsRow.alloc H1.out _) ⟨wr.heap.size, 0, none⟩ 1 1 [.slice av q cv] rfl rfl (news1 _ _ rfl) (one1 _ _ _) (by unfold maxLen; omega) (by omega) (by simp; omega) ?_))
      intro v' w2 hown' hgrow _
      have HB' : Hid (HoldRR 2 w2 v' ((out ++ [at']).map (·.map rowF))) := Lib.hid (Built.cut H1.out H2.out h3 H5.out hown' hgrow (by have := hgrow.size; simp at this; omega)).rows
      have HBL : Hid (Below w.heap.size w w2) := Lib.hid (HB1.out.trans ((below_row HB.out H1.out hgrow (Nat.le_refl _) hbz).mono hwz))
      clear hown' hgrow
      go_wp2
      go_meet
      case rel => exact ⟨out ++ [at'], HP, HSS, HB', HBL⟩
     ·
      obtain rfl : k = 0 := by omega
      have HP := Lib.hid (parse_of HEND.out HFF.out out (by rw [if_pos (HNIL.out rfl)]))
      have HSS : Hid (Small out (4 * (s.data.toList.length + 1) + 1)) := Lib.hid (by
       have := fold_small rfl HFF.out
       exact small_of (by omega))
      have HB' : Hid (HoldRR 2 wr u4 (out.map (·.map rowF))) := Lib.hid HBU.out.rows
      have HBL : Hid (Below w.heap.size w wr) := Lib.hid (HB1.out.trans (HB.out.mono hwz))
      go_wp2
      go_meet
      case rel => exact ⟨out, HP, HSS, HB', HBL⟩
    case rest =>
     obtain ⟨l, HP, HSS, HR, HBL⟩ := hcut
     have hsz := sizeOf s
     have hsm := HSS.out
     have P := print_ref u4 l (by have := hsm.n; omega) (fun st hst => by have := hsm.ns st hst; omega) (fun st hst f hf => by have := hsm.fs st hst f hf; omega) (by have := hsm.pr; omega) wc HR.out
     unfold PrintPost at P
     obtain ⟨T, hT⟩ : ∃ T : ByteArray, T = ⟨(printE l).1.toArray⟩ := ⟨_, rfl⟩
     obtain ⟨z, hz⟩ : ∃ z : Int, z = (printE l).2 := ⟨_, rfl⟩
     have hTl : T.data.toList = (printE l).1 := by rw [hT]
     have HTZ : Hid (printE l = (T.data.toList, z)) := Lib.hid (by rw [hTl, hz])
     simp only [← hT, ← hz] at P
     have hq := eqT T s
     clear hT hz hTl hsm
     by_cases hz0 : z = 0
     ·
      subst hz0
      by_cases hts : T.data.toList = s.data.toList
      ·
       rw [decide_eq_true hts] at hq
       have HX : Hid (parseS s.data.toList = some l) := Lib.hid (by rw [HP.out, if_pos (by rw [HTZ.out, hts])])
       clear hts hsz
       go_wp2_with (go_at_call 22; (with_reducible refine P.mono ?_); rintro e w3 ⟨rfl, hb3⟩)
       go_ret2
       exact HOK.out l _ _ HX.out (HR.out.on hb3) HSS.out (HBL.out.trans (hb3.mono HBL.out.size))
      ·
       rw [decide_eq_false hts] at hq
       have HX : Hid (parseS s.data.toList = none) := Lib.hid (by rw [HP.out, if_neg (by rw [HTZ.out]; simpa using hts)])
       clear hts hsz
       go_wp2_with (go_at_call 22; (with_reducible refine P.mono ?_); rintro e w3 ⟨rfl, hb3⟩)
       go_ret2
       exact HBAD.out _ _ HX.out (HBL.out.trans (hb3.mono HBL.out.size))
     ·
      have hzb : (z == 0) = false := by rw [beq_eq_false_iff_ne]; exact hz0
      have HX : Hid (parseS s.data.toList = none) := Lib.hid (by rw [HP.out, if_neg (by rw [HTZ.out]; simp [hz0])])
      clear hsz
      go_wp2_with (go_at_call 22; (with_reducible refine P.mono ?_); rintro e w3 ⟨rfl, hb3⟩)
      go_ret2
      exact HBAD.out _ _ HX.out (HBL.out.trans (hb3.mono HBL.out.size))
end
end Go.Proofs.YtkbkaeefdhkgdaaGreatDoor
