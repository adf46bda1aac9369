import Derived.Test.YtnnagboeimeiiaaGreatDoorWVOrder
import Derived.Laws.OwnMore
import Derived.Test.YtnnagboeimeiiaaGreatDoorWBRefR
import Derived.Lib.SliceRun
import Derived.RangeFuncRecord
import Derived.Test.YtnnagboeimeiiaaGreatDoorWPCleanRef
import Derived.Test.YtnnagboeimeiiaaGreatDoorWSWords
import Derived.IntWalk
import Derived.Laws.StructEq
import Derived.RangeFuncBox
namespace Go.Proofs.YtnnagboeimeiiaaGreatDoor
open Go.RowKit
abbrev Rw := List Value
def HoldV (k : Nat) (w : World) (v : Value) (rows : List Rw) : Prop :=
 ∃ (a : Option Addr) (c b o : Nat), v = .slice a rows.length c ∧ rows.length ≤ c ∧ (0 < rows.length → a = some ⟨b, o, none⟩ ∧ b < w.heap.size) ∧
   ∀ (j : Nat) r, rows[j]? = some r → ∀ (i : Nat) y, i < k → r[i]? = some y → w.cell? ⟨b, o + j * k + i, none⟩ = some y
theorem HoldV.on {k : Nat} {w w' : World} {v : Value} {rows : List Rw} (h : HoldV k w v rows) (hb : Below w.heap.size w w') : HoldV k w' v rows := by
 obtain ⟨a, c, b, o, rfl, hc, ha, hcell⟩ := h
 refine ⟨a, c, b, o, rfl, hc, fun h0 => ⟨(ha h0).1, Nat.lt_of_lt_of_le (ha h0).2 hb.size⟩, fun j r hj i y hi hy => ?_⟩
 have h0 : 0 < rows.length := by have := (List.getElem?_eq_some_iff.1 hj).1; omega
 rw [hb.cell (p := ⟨b, o + j * k + i, none⟩) (ha h0).2]
 exact hcell j r hj i y hi hy
theorem HoldV.nil (k : Nat) (w : World) : HoldV k w (.slice none 0 0) [] := ⟨none, 0, 0, 0, rfl, Nat.le_refl _, fun h => absurd h (by simp), fun j l hj => by simp at hj⟩
theorem flat_len (k : Nat) : ∀ (rows : List Rw), (∀ r ∈ rows, r.length = k) → rows.flatten.length = rows.length * k
 | [], _ => by simp
 | r :: rows, h => by
   rw [List.flatten_cons, List.length_append, flat_len k rows (fun q hq => h q (List.mem_cons_of_mem _ hq)), h r (by simp), List.length_cons, Nat.add_mul]; omega
theorem flat_at (k : Nat) : ∀ (rows : List Rw), (∀ r ∈ rows, r.length = k) → ∀ (j : Nat) r (i : Nat), rows[j]? = some r → i < k → rows.flatten[j * k + i]? = r[i]?
 | [], _, j, r, i, h, _ => by simp at h
 | q :: rows, hk, 0, r, i, h, hi => by
   simp only [List.getElem?_cons_zero, Option.some.injEq] at h
   subst h
   rw [List.flatten_cons, Nat.zero_mul, Nat.zero_add, List.getElem?_append_left (by rw [hk q (by simp)]; exact hi)]
 | q :: rows, hk, j + 1, r, i, h, hi => by
   have hq := hk q (by simp)
   rw [List.flatten_cons, List.getElem?_append_right (by rw [hq, Nat.add_mul]; omega), hq, show (j + 1) * k + i - k = j * k + i by rw [Nat.add_mul]; omega]
   exact flat_at k rows (fun x hx => hk x (List.mem_cons_of_mem _ hx)) j r i (by simpa using h) hi
theorem flat_get (k : Nat) (hk : 0 < k) : ∀ (rows : List Rw), (∀ r ∈ rows, r.length = k) → ∀ (m : Nat) u, rows.flatten[m]? = some u → ∃ (j i : Nat) (r : Rw), m = j * k + i ∧ i < k ∧ rows[j]? = some r ∧ r[i]? = some u := fun rows hr m u hu => by
 have hm := (List.getElem?_eq_some_iff.1 hu).1
 rw [flat_len k rows hr] at hm
 have hj : m / k < rows.length := (Nat.div_lt_iff_lt_mul hk).2 hm
 refine ⟨m / k, m % k, rows[m / k], by rw [Nat.mul_comm]; exact (Nat.div_add_mod m k).symm, Nat.mod_lt _ hk, List.getElem?_eq_getElem hj, ?_⟩
 rw [← flat_at k rows hr (m / k) _ (m % k) (List.getElem?_eq_getElem hj) (Nat.mod_lt _ hk), ← hu]
 congr 1
 rw [Nat.mul_comm]; exact Nat.div_add_mod m k
def OwnV (T : TypeId) (k : Nat) (w : World) (base : Nat) (v : Value) (rows : List Rw) : Prop := (∀ r ∈ rows, r.length = k) ∧ w.ownsRow base T k v rows.length rows.flatten
theorem OwnV.nil (T : TypeId) (k : Nat) (w : World) (base : Nat) : OwnV T k w base (.slice none 0 0) [] := ⟨fun r hr => by simp at hr, World.ownsRow_nil _ _ _ _⟩
theorem OwnV.holds {T : TypeId} {k : Nat} {w : World} {base : Nat} {v : Value} {rows : List Rw} (h : OwnV T k w base v rows) : HoldV k w v rows := by
 obtain ⟨hk, h⟩ := h
 rcases h.2 with ⟨rfl, h0⟩ | ⟨g, cap, cur, rfl, hb, hg, hn, hm, hs, ht⟩
 · have : rows = [] := List.eq_nil_of_length_eq_zero h0
   subst this
   exact HoldV.nil k w
 · refine ⟨some ⟨g, 0, none⟩, cap, g, 0, rfl, hn, fun _ => ⟨rfl, (Array.getElem?_eq_some_iff.1 hg).1⟩, fun j r hj i y hi hy => ?_⟩
   have hj' := (List.getElem?_eq_some_iff.1 hj).1
   have hlt : j * k + i < rows.length * k := by
     have : (j + 1) * k ≤ rows.length * k := Nat.mul_le_mul_right k hj'
     rw [Nat.add_mul] at this; omega
   rw [Nat.zero_add, cellRow w g _ cur T (0, 0) hg, ← Array.getElem?_toList, ← hy, ← flat_at k rows hk j r i hj hi, ← ht, List.getElem?_take, if_pos hlt]
theorem OwnV.mono {T : TypeId} {k : Nat} {w : World} {base B : Nat} {v : Value} {rows : List Rw} (h : OwnV T k w base v rows) (hB : B ≤ base) : OwnV T k w B v rows := by
 refine ⟨h.1, h.2.1, ?_⟩
 rcases h.2.2 with hn | ⟨g, cap, cur, hv, hb', rest⟩
 · exact .inl hn
 · exact .inr ⟨g, cap, cur, hv, by omega, rest⟩
theorem grownV {w w' : World} (h : Below w.heap.size w w') : w.grownBy w' none := ⟨h.os, h.tape, h.output, h.size, fun k hk _ => h.block k hk⟩
theorem OwnV.on {T : TypeId} {k : Nat} {w w' : World} {base : Nat} {v : Value} {rows : List Rw} (h : OwnV T k w base v rows) (hb : Below w.heap.size w w') : OwnV T k w' base v rows := ⟨h.1, World.ownsRow.kept h.2 (grownV hb) (by cases v.ownBlock <;> simp)⟩
theorem OwnV.app {T : TypeId} {k : Nat} {w' : World} {base : Nat} {v' : Value} {rows : List Rw} {r : Rw} (hk : ∀ r ∈ rows, r.length = k) (hr : r.length = k) (h : w'.ownsRow base T k v' (rows.length + 1) (rows.flatten ++ r)) : OwnV T k w' base v' (rows ++ [r]) := by
 refine ⟨fun q hq => ?_, ?_⟩
 · rcases List.mem_append.1 hq with hq | hq
   · exact hk q hq
   · simp at hq; subst hq; exact hr
 · rw [List.length_append, List.flatten_append, List.flatten_cons, List.flatten_nil, List.append_nil]; exact h
theorem OwnV.below {T : TypeId} {k : Nat} {B : Nat} {w0 w w' : World} {o : Obj} {base : Nat} {v : Value} {rows : List Rw} (h : Below B w0 w) (hown : OwnV T k w base v rows) (hg : (w.alloc o).grownBy w' v.ownBlock) (hB : B ≤ base) (hBw : B ≤ w.heap.size) : Below B w0 w' :=
 (h.alloc hBw o).grown hg (by simp; omega) (fun k hk => by have := (World.ownsRow.lt hown.2 k hk).1; omega)
theorem OwnV.form {T : TypeId} {k : Nat} {w : World} {base : Nat} {v : Value} {rows : List Rw} (h : OwnV T k w base v rows) : ∃ a c, v = .slice a rows.length c := by
 obtain ⟨a, c, b, o, e, _⟩ := h.holds; exact ⟨a, c, e⟩
end Go.Proofs.YtnnagboeimeiiaaGreatDoor
namespace Go.Proofs.YtnnagboeimeiiaaGreatDoor
open Go.RowKit
abbrev bsT (l : Bs) : ByteArray := ⟨l.toArray⟩
abbrev cellsQ (x : Rl) : Rw := [.string (bsT x.1), .string (bsT x.2.1), .string (bsT x.2.2)]
abbrev aggQ (x : Rl) : Value := .agg #[.string (bsT x.1), .string (bsT x.2.1), .string (bsT x.2.2)]
abbrev HoldQ (w : World) (v : Value) (l : List (Rl)) : Prop := HoldV 3 w v (l.map cellsQ)
theorem HoldQ.parts {w : World} {v : Value} {l : List (Rl)} (h : HoldQ w v l) : ∃ (a : Option Addr) (c b o : Nat), v = .slice a l.length c ∧ l.length ≤ c ∧ (0 < l.length → a = some ⟨b, o, none⟩ ∧ b < w.heap.size) ∧
   ∀ (j : Nat) x, l[j]? = some x → w.cell? ⟨b, o + j * 3, none⟩ = some (.string (bsT x.1)) ∧ w.cell? ⟨b, o + j * 3 + 1, none⟩ = some (.string (bsT x.2.1)) ∧ w.cell? ⟨b, o + j * 3 + 2, none⟩ = some (.string (bsT x.2.2)) := by
 obtain ⟨a, c, b, o, e, hc, ha, hcell⟩ := h
 rw [List.length_map] at e hc ha
 refine ⟨a, c, b, o, e, hc, ha, fun j x hx => ?_⟩
 have := hcell j (cellsQ x) (by rw [List.getElem?_map, hx]; rfl)
 exact ⟨this 0 _ (by omega) rfl, this 1 _ (by omega) rfl, this 2 _ (by omega) rfl⟩
abbrev OwnQ (w : World) (base : Nat) (v : Value) (l : List (Rl)) : Prop := OwnV 53 3 w base v (l.map cellsQ)
theorem cellsQ_len (l : List (Rl)) : ∀ r ∈ l.map cellsQ, r.length = 3 := fun r hr => by obtain ⟨x, _, rfl⟩ := List.mem_map.1 hr; rfl
theorem OwnQ.app {w' : World} {base : Nat} {v' : Value} {l : List (Rl)} {x : Rl} {c0 : ByteArray} {c1 : ByteArray} {c2 : ByteArray} (h0 : c0.data.toList = x.1) (h1 : c1.data.toList = x.2.1) (h2 : c2.data.toList = x.2.2) (h : w'.ownsRow base 53 3 v' (l.length + 1) ((l.map cellsQ).flatten ++ [.string c0, .string c1, .string c2])) : OwnQ w' base v' (l ++ [x]) := by
 have := OwnV.app (T := 53) (k := 3) (rows := l.map cellsQ) (r := cellsQ x) (cellsQ_len l) rfl (by rw [List.length_map]; rw [strOf h0, strOf h1, strOf h2] at h; exact h)
 unfold OwnQ; rw [List.map_append]; exact this
theorem OwnQ.one (l : List (Rl)) : ∀ u ∈ (l.map cellsQ).flatten, u.oneCell' = true := fun u hu => by
 obtain ⟨r, hr, hu⟩ := List.mem_flatten.1 hu
 obtain ⟨x, _, rfl⟩ := List.mem_map.1 hr
 simp only [List.mem_cons, List.not_mem_nil, or_false] at hu
 rcases hu with rfl | rfl | rfl <;> rfl
theorem infoQ : (Tryz.prog.info? 53).map (fun i => (i.zero, i.size, i.bytes)) = some (some (.agg #[.string ⟨#[]⟩, .string ⟨#[]⟩, .string ⟨#[]⟩]), 3, 48) := by kernel_rfl
def PredQ (l : List Rl) (g : Nat) (lb : Array Value) (p : Rl → Bool) (w : World) : Prop :=
 ∀ W x, x ∈ l → Below w.heap.size w W → Calls Tryz.prog g (#[aggQ x] ++ lb) W fun e w' => e = .returned (.bool (p x)) ∧ Below W.heap.size W w'
def idxQ (l : List (Rl)) (p : Rl → Bool) : Int := match l.findIdx? p with
 | some k => (k : Int)
 | none => -1
theorem idxQ_hit {l : List (Rl)} {p : Rl → Bool} {k : Nat} {x : Rl} (hx : l[k]? = some x) (hp : p x = true) (hb : ∀ (j : Nat) y, j < k → l[j]? = some y → p y = false) : l.findIdx? p = some k := by
 rw [List.findIdx?_eq_some_iff_getElem]
 obtain ⟨hk, e⟩ := List.getElem?_eq_some_iff.1 hx
 exact ⟨hk, by rw [e]; exact hp, fun j hj => by rw [hb j _ hj (List.getElem?_eq_getElem (by omega))]; simp⟩
theorem idxQ_miss {l : List (Rl)} {p : Rl → Bool} (hb : ∀ (j : Nat) y, l[j]? = some y → p y = false) : l.findIdx? p = none := by
 rw [List.findIdx?_eq_none_iff]
 intro y hy
 obtain ⟨j, hj⟩ := List.mem_iff_getElem?.1 hy
 exact hb j y hj
set_option maxRecDepth 100000 in
set_option maxHeartbeats 4000000 in
theorem idxQ_any (g : Nat) (lb : Array Value) (eg : ∀ args w, (callFunc g args).run Tryz.prog w = .ok (.enter g args) w) (p : Rl → Bool) (v : Value) (l : List (Rl)) (hl : l.length ≤ 90000) (w : World) (h : HoldQ w v l) (hp : PredQ l g lb p w) :
   Calls Tryz.prog 184 #[v, .func (.func g) #[] lb] w fun e w' => e = .returned (.int .i64 (idxQ l p)) ∧ Below w.heap.size w w' := by
 obtain ⟨a, c, b, o, rfl, hc, ha, hcell⟩ := h.parts
 have HC := Lib.hid hcell
 obtain ⟨Z, HZ⟩ : ∃ Z, Hid (idxQ l p = Z) := ⟨_, rfl⟩
 rw [HZ.out]
 have HP := Lib.hid hp
 obtain ⟨n, hN⟩ : ∃ n, l.length = n := ⟨_, rfl⟩
 rw [hN] at hc ha hl ⊢
 have HN := Lib.hid hN
 clear hcell hp hN h
 go_enter Tryz.func184, Tryz.ntmps184
 go_wp2
 go_loopw [8] (fun i wr => ∃ k : Nat, k ≤ n ∧ i = .int .i64 k ∧ Hid (∀ (j : Nat) y, j < k → l[j]? = some y → p y = false) ∧ Hid (Below w.heap.size w wr)) (fun i _ => n - (intOf i).toNat)
 case atStart => exact ⟨0, by omega, rfl, Lib.hid (fun j y hj => by omega), Lib.hid (Below.refl _ _)⟩
 case round =>
   obtain ⟨k, hk, rfl, H, HB⟩ := hrel
   by_cases hlt : k < n
   · obtain ⟨rfl, hbw⟩ := ha (by omega)
     obtain ⟨⟨a0, a1, a2⟩, hx⟩ : ∃ x, l[k]? = some x := ⟨_, List.getElem?_eq_getElem (by rw [HN.out]; exact hlt)⟩
     obtain ⟨c0, c1, c2⟩ := HC.out k (a0, a1, a2) hx
     dsimp only at c0 c1 c2
     rw [← HB.out.cell (p := ⟨b, o + k * 3, none⟩) hbw] at c0
     rw [← HB.out.cell (p := ⟨b, o + k * 3 + 1, none⟩) hbw] at c1
     rw [← HB.out.cell (p := ⟨b, o + k * 3 + 2, none⟩) hbw] at c2
     have hcall := HP.out wr (a0, a1, a2) (List.mem_of_getElem? hx) HB.out
     unfold aggQ at hcall
     dsimp only at hcall
     have HX := Lib.hid hx
     clear hx
     cases hq : p (a0, a1, a2)
     · rw [hq] at hcall
       have HK : Hid (∀ (j : Nat) y, j < k + 1 → l[j]? = some y → p y = false) := Lib.hid (fun j y hj hy => by
         by_cases e : j = k
         · subst e
           rw [HX.out] at hy; cases hy
           exact hq
         · exact H.out j y (by omega) hy)
       clear hq H
       generalize bsT a0 = X0 at *
       generalize bsT a1 = X1 at *
       generalize bsT a2 = X2 at *
       go_wp2_with (go_at_fn g; refine hcall.mono ?_; rintro e w1 ⟨rfl, hb1⟩; have HB1 := Lib.hid (HB.out.trans (hb1.mono HB.out.size)); clear hb1)
       go_roundw
       case rel => exact ⟨k + 1, by omega, by go_num, HK, HB1⟩
       case measure => simp [intOf]; omega
     · rw [hq] at hcall
       have HF : Hid ((k : Int) = Z) := Lib.hid (by rw [← HZ.out, idxQ, idxQ_hit HX.out hq H.out])
       clear hq H
       generalize bsT a0 = X0 at *
       generalize bsT a1 = X1 at *
       generalize bsT a2 = X2 at *
       go_wp2_with (go_at_fn g; refine hcall.mono ?_; rintro e w1 ⟨rfl, hb1⟩; have HB1 := Lib.hid (HB.out.trans (hb1.mono HB.out.size)); clear hb1)
       go_ret
       exact ⟨reti HF.out, HB1.out⟩
   · obtain rfl : k = n := by omega
     have HF : Hid ((-1 : Int) = Z) := Lib.hid (by rw [← HZ.out, idxQ, idxQ_miss (fun j y hy => H.out j y (by have := (List.getElem?_eq_some_iff.1 hy).1; rw [HN.out] at this; exact this) hy)])
     clear hlt H
     go_wp2
     go_ret
     exact ⟨reti HF.out, HB.out⟩
theorem idxQ_neg {l : List Rl} {p : Rl → Bool} : (0 ≤ idxQ l p) = (l.any p = true) := by
 unfold idxQ
 cases h : l.findIdx? p with
 | none =>
   rw [List.findIdx?_eq_none_iff] at h
   have : l.any p = false := by rw [List.any_eq_false]; intro x hx; rw [h x hx]; simp
   rw [this]; simp
 | some k =>
   obtain ⟨hk, hp, _⟩ := List.findIdx?_eq_some_iff_getElem.1 h
   have : l.any p = true := List.any_eq_true.2 ⟨_, List.getElem_mem hk, hp⟩
   rw [this]; simp
set_option maxHeartbeats 4000000 in
theorem contQ_any (g : Nat) (lb : Array Value) (eg : ∀ args w, (callFunc g args).run Tryz.prog w = .ok (.enter g args) w) (p : Rl → Bool) (v : Value) (l : List Rl) (hl : l.length ≤ 90000) (w : World) (h : HoldQ w v l) (hp : PredQ l g lb p w) :
   Calls Tryz.prog 155 #[v, .func (.func g) #[] lb] w fun e w' => e = .returned (.bool (l.any p)) ∧ Below w.heap.size w w' := by
 have C := idxQ_any g lb eg p v l hl w h hp
 obtain ⟨a, c, b, o, rfl, -⟩ := h.parts
 have HN := Lib.hid (idxQ_neg (l := l) (p := p))
 generalize idxQ l p = z at *
 generalize hq : l.any p = q at *
 have hz : decide (0 ≤ z) = q := by
   have := HN.out
   cases q
   · rw [decide_eq_false_iff_not, this]; simp
   · rw [decide_eq_true_iff, this]
 generalize l.length = n at *
 clear hp h hl hq
 cases q
 all_goals
   go_enter Tryz.func155, Tryz.ntmps155
   go_wp2_with (go_at_call 184; (with_reducible refine C.mono ?_); rintro e w1 ⟨rfl, hb⟩; have HB := Lib.hid hb; clear hb)
   go_ret
   exact ⟨rfl, HB.out⟩
end Go.Proofs.YtnnagboeimeiiaaGreatDoor
namespace Go.Proofs.YtnnagboeimeiiaaGreatDoor
open Go.RowKit
abbrev Gv := List Rl × Value
abbrev HoldGs (w : World) (v : Value) (L : List Gv) : Prop := HoldV 1 w v (L.map fun x => [x.2]) ∧ ∀ x ∈ L, HoldQ w x.2 x.1
theorem HoldGs.on {w w' : World} {v : Value} {L : List Gv} (h : HoldGs w v L) (hb : Below w.heap.size w w') : HoldGs w' v L := ⟨HoldV.on h.1 hb, fun x hx => HoldV.on (h.2 x hx) hb⟩
theorem HoldGs.parts {w : World} {v : Value} {l : List Gv} (h : HoldGs w v l) : ∃ (a : Option Addr) (c b o : Nat), v = .slice a l.length c ∧ l.length ≤ c ∧ (0 < l.length → a = some ⟨b, o, none⟩ ∧ b < w.heap.size) ∧
   ∀ (j : Nat) x, l[j]? = some x → w.cell? ⟨b, o + j, none⟩ = some x.2 := by
 obtain ⟨⟨a, c, b, o, e, hc, ha, hcell⟩, -⟩ := h
 rw [List.length_map] at e hc ha
 refine ⟨a, c, b, o, e, hc, ha, fun j x hx => ?_⟩
 have := hcell j [x.2] (by rw [List.getElem?_map, hx]; rfl) 0 _ (by omega) rfl
 simpa using this
def PredG (l : List Gv) (g : Nat) (lb : Array Value) (p : Gv → Bool) (w : World) : Prop :=
 ∀ W x, x ∈ l → Below w.heap.size w W → Calls Tryz.prog g (#[x.2] ++ lb) W fun e w' => e = .returned (.bool (p x)) ∧ Below W.heap.size W w'
def idxG (l : List Gv) (p : Gv → Bool) : Int := match l.findIdx? p with
 | some k => (k : Int)
 | none => -1
theorem idxG_hit {l : List Gv} {p : Gv → Bool} {k : Nat} {x : Gv} (hx : l[k]? = some x) (hp : p x = true) (hb : ∀ (j : Nat) y, j < k → l[j]? = some y → p y = false) : l.findIdx? p = some k := by
 rw [List.findIdx?_eq_some_iff_getElem]
 obtain ⟨hk, e⟩ := List.getElem?_eq_some_iff.1 hx
 exact ⟨hk, by rw [e]; exact hp, fun j hj => by rw [hb j _ hj (List.getElem?_eq_getElem (by omega))]; simp⟩
theorem idxG_miss {l : List Gv} {p : Gv → Bool} (hb : ∀ (j : Nat) y, l[j]? = some y → p y = false) : l.findIdx? p = none := by
 rw [List.findIdx?_eq_none_iff]
 intro y hy
 obtain ⟨j, hj⟩ := List.mem_iff_getElem?.1 hy
 exact hb j y hj
set_option maxRecDepth 100000 in
set_option maxHeartbeats 4000000 in
theorem idxG_any (g : Nat) (lb : Array Value) (eg : ∀ args w, (callFunc g args).run Tryz.prog w = .ok (.enter g args) w) (p : Gv → Bool) (v : Value) (l : List Gv) (hl : l.length ≤ 90000) (w : World) (h : HoldGs w v l) (hp : PredG l g lb p w) :
   Calls Tryz.prog 154 #[v, .func (.func g) #[] lb] w fun e w' => e = .returned (.int .i64 (idxG l p)) ∧ Below w.heap.size w w' := by
 obtain ⟨a, c, b, o, rfl, hc, ha, hcell⟩ := h.parts
 have HC := Lib.hid hcell
 have HG := Lib.hid h
 obtain ⟨Z, HZ⟩ : ∃ Z, Hid (idxG l p = Z) := ⟨_, rfl⟩
 rw [HZ.out]
 have HP := Lib.hid hp
 obtain ⟨n, hN⟩ : ∃ n, l.length = n := ⟨_, rfl⟩
 rw [hN] at hc ha hl ⊢
 have HN := Lib.hid hN
 clear hcell hp hN h
 go_enter Tryz.func154, Tryz.ntmps154
 go_wp2
 go_loopw [8] (fun i wr => ∃ k : Nat, k ≤ n ∧ i = .int .i64 k ∧ Hid (∀ (j : Nat) y, j < k → l[j]? = some y → p y = false) ∧ Hid (Below w.heap.size w wr)) (fun i _ => n - (intOf i).toNat)
 case atStart => exact ⟨0, by omega, rfl, Lib.hid (fun j y hj => by omega), Lib.hid (Below.refl _ _)⟩
 case round =>
   obtain ⟨k, hk, rfl, H, HB⟩ := hrel
   by_cases hlt : k < n
   · obtain ⟨rfl, hbw⟩ := ha (by omega)
     obtain ⟨⟨g0, sv⟩, hx⟩ : ∃ x, l[k]? = some x := ⟨_, List.getElem?_eq_getElem (by rw [HN.out]; exact hlt)⟩
     obtain ⟨sa, sc, -, -, hsv, -⟩ := (HG.out.2 _ (List.mem_of_getElem? hx)).parts
     dsimp only at hsv
     subst hsv
     have c0 := HC.out k _ hx
     dsimp only at c0
     rw [← HB.out.cell (p := ⟨b, o + k, none⟩) hbw] at c0
     have hcall := HP.out wr _ (List.mem_of_getElem? hx) HB.out
     dsimp only at hcall
     have HX := Lib.hid hx
     clear hx
     cases hq : p (g0, .slice sa g0.length sc)
     · rw [hq] at hcall
       have HK : Hid (∀ (j : Nat) y, j < k + 1 → l[j]? = some y → p y = false) := Lib.hid (fun j y hj hy => by
         by_cases e : j = k
         · subst e
           rw [HX.out] at hy; cases hy
           exact hq
         · exact H.out j y (by omega) hy)
       clear hq H
       go_wp2_with (go_at_fn g; refine hcall.mono ?_; rintro e w1 ⟨rfl, hb1⟩; have HB1 := Lib.hid (HB.out.trans (hb1.mono HB.out.size)); clear hb1)
       go_roundw
       case rel => exact ⟨k + 1, by omega, by go_num, HK, HB1⟩
       case measure => simp [intOf]; omega
     · rw [hq] at hcall
       have HF : Hid ((k : Int) = Z) := Lib.hid (by rw [← HZ.out, idxG, idxG_hit HX.out hq H.out])
       clear hq H
       go_wp2_with (go_at_fn g; refine hcall.mono ?_; rintro e w1 ⟨rfl, hb1⟩; have HB1 := Lib.hid (HB.out.trans (hb1.mono HB.out.size)); clear hb1)
       go_ret
       exact ⟨reti HF.out, HB1.out⟩
   · obtain rfl : k = n := by omega
     have HF : Hid ((-1 : Int) = Z) := Lib.hid (by rw [← HZ.out, idxG, idxG_miss (fun j y hy => H.out j y (by have := (List.getElem?_eq_some_iff.1 hy).1; rw [HN.out] at this; exact this) hy)])
     clear hlt H
     go_wp2
     go_ret
     exact ⟨reti HF.out, HB.out⟩
theorem idxG_neg {l : List Gv} {p : Gv → Bool} : (0 ≤ idxG l p) = (l.any p = true) := by
 unfold idxG
 cases h : l.findIdx? p with
 | none =>
   rw [List.findIdx?_eq_none_iff] at h
   have : l.any p = false := by rw [List.any_eq_false]; intro x hx; rw [h x hx]; simp
   rw [this]; simp
 | some k =>
   obtain ⟨hk, hp, _⟩ := List.findIdx?_eq_some_iff_getElem.1 h
   have : l.any p = true := List.any_eq_true.2 ⟨_, List.getElem_mem hk, hp⟩
   rw [this]; simp
set_option maxHeartbeats 4000000 in
theorem contG_any (g : Nat) (lb : Array Value) (eg : ∀ args w, (callFunc g args).run Tryz.prog w = .ok (.enter g args) w) (p : Gv → Bool) (v : Value) (l : List Gv) (hl : l.length ≤ 90000) (w : World) (h : HoldGs w v l) (hp : PredG l g lb p w) :
   Calls Tryz.prog 114 #[v, .func (.func g) #[] lb] w fun e w' => e = .returned (.bool (l.any p)) ∧ Below w.heap.size w w' := by
 have C := idxG_any g lb eg p v l hl w h hp
 obtain ⟨a, c, b, o, rfl, -⟩ := h.parts
 have HN := Lib.hid (idxG_neg (l := l) (p := p))
 generalize idxG l p = z at *
 generalize hq : l.any p = q at *
 have hz : decide (0 ≤ z) = q := by
   have := HN.out
   cases q
   · rw [decide_eq_false_iff_not, this]; simp
   · rw [decide_eq_true_iff, this]
 generalize l.length = n at *
 clear hp h hl hq
 cases q
 all_goals
   go_enter Tryz.func114, Tryz.ntmps114
   go_wp2_with (go_at_call 154; (with_reducible refine C.mono ?_); rintro e w1 ⟨rfl, hb⟩; have HB := Lib.hid hb; clear hb)
   go_ret
   exact ⟨rfl, HB.out⟩
end Go.Proofs.YtnnagboeimeiiaaGreatDoor
namespace Go.Proofs.YtnnagboeimeiiaaGreatDoor
open Go.RowKit
structure Uv where
 nm : Bs
 vr : Bs
 st : Int
 dp : List Gv
 cn : List Rl
 rp : List Bs
 cf : List (Bs × Bs)
 pd : List Bs
 aw : List Bs
 dv : Value
 cv : Value
 rv : Value
 fv : Value
 pv : Value
 av : Value
abbrev cellsW2 (x : Bs × Bs) : Rw := [.string ((⟨x.1.toArray⟩ : ByteArray)), .string ((⟨x.2.toArray⟩ : ByteArray))]
abbrev HoldW2 (w : World) (v : Value) (l : List (Bs × Bs)) : Prop := HoldV 2 w v (l.map cellsW2)
abbrev cellsU (x : Uv) : Rw := [.string ((⟨x.nm.toArray⟩ : ByteArray)), .string ((⟨x.vr.toArray⟩ : ByteArray)), .int .i64 x.st, x.dv, x.cv, x.rv, x.fv, x.pv, x.av]
structure InU (w : World) (x : Uv) : Prop where
 dp : HoldGs w x.dv x.dp
 cn : HoldQ w x.cv x.cn
 rp : HoldT w x.rv x.rp
 cf : HoldW2 w x.fv x.cf
 pd : HoldT w x.pv x.pd
 aw : HoldT w x.av x.aw
theorem InU.on {w w' : World} {x : Uv} (h : InU w x) (hb : Below w.heap.size w w') : InU w' x := ⟨HoldGs.on h.dp hb, HoldV.on h.cn hb, h.rp.on hb, HoldV.on h.cf hb, h.pd.on hb, h.aw.on hb⟩
abbrev HoldU (w : World) (v : Value) (l : List Uv) : Prop := HoldV 9 w v (l.map cellsU) ∧ ∀ x ∈ l, InU w x
theorem HoldU.on {w w' : World} {v : Value} {l : List Uv} (h : HoldU w v l) (hb : Below w.heap.size w w') : HoldU w' v l := ⟨HoldV.on h.1 hb, fun x hx => (h.2 x hx).on hb⟩
theorem HoldW2.parts {w : World} {v : Value} {l : List (Bs × Bs)} (h : HoldW2 w v l) : ∃ (a : Option Addr) (c b o : Nat), v = .slice a l.length c ∧ l.length ≤ c ∧ (0 < l.length → a = some ⟨b, o, none⟩ ∧ b < w.heap.size) ∧
   ∀ (j : Nat) x, l[j]? = some x → w.cell? ⟨b, o + j * 2, none⟩ = some (.string ((⟨x.1.toArray⟩ : ByteArray))) ∧ w.cell? ⟨b, o + j * 2 + 1, none⟩ = some (.string ((⟨x.2.toArray⟩ : ByteArray))) := by
 obtain ⟨a, c, b, o, e, hc, ha, hcell⟩ := h
 rw [List.length_map] at e hc ha
 refine ⟨a, c, b, o, e, hc, ha, fun j x hx => ?_⟩
 have := hcell j (cellsW2 x) (by rw [List.getElem?_map, hx]; rfl)
 exact ⟨this 0 _ (by omega) rfl, this 1 _ (by omega) rfl⟩
theorem HoldU.parts {w : World} {v : Value} {l : List Uv} (h : HoldU w v l) : ∃ (a : Option Addr) (c b o : Nat), v = .slice a l.length c ∧ l.length ≤ c ∧ (0 < l.length → a = some ⟨b, o, none⟩ ∧ b < w.heap.size) ∧
   ∀ (j : Nat) x, l[j]? = some x → w.cell? ⟨b, o + j * 9, none⟩ = some (.string ((⟨x.nm.toArray⟩ : ByteArray))) ∧ w.cell? ⟨b, o + j * 9 + 1, none⟩ = some (.string ((⟨x.vr.toArray⟩ : ByteArray))) ∧ w.cell? ⟨b, o + j * 9 + 2, none⟩ = some (.int .i64 x.st) ∧ w.cell? ⟨b, o + j * 9 + 3, none⟩ = some (x.dv) ∧ w.cell? ⟨b, o + j * 9 + 4, none⟩ = some (x.cv) ∧ w.cell? ⟨b, o + j * 9 + 5, none⟩ = some (x.rv) ∧ w.cell? ⟨b, o + j * 9 + 6, none⟩ = some (x.fv) ∧ w.cell? ⟨b, o + j * 9 + 7, none⟩ = some (x.pv) ∧ w.cell? ⟨b, o + j * 9 + 8, none⟩ = some (x.av) := by
 obtain ⟨⟨a, c, b, o, e, hc, ha, hcell⟩, -⟩ := h
 rw [List.length_map] at e hc ha
 refine ⟨a, c, b, o, e, hc, ha, fun j x hx => ?_⟩
 have := hcell j (cellsU x) (by rw [List.getElem?_map, hx]; rfl)
 exact ⟨this 0 _ (by omega) rfl, this 1 _ (by omega) rfl, this 2 _ (by omega) rfl, this 3 _ (by omega) rfl, this 4 _ (by omega) rfl, this 5 _ (by omega) rfl, this 6 _ (by omega) rfl, this 7 _ (by omega) rfl, this 8 _ (by omega) rfl⟩
theorem boxV9 (W : World) (c0 c1 c2 c3 c4 c5 c6 c7 c8 : Value) (t : TypeId) : (W.alloc (.cells #[c0, c1, c2, c3, c4, c5, c6, c7, c8] t)).cell? ⟨W.heap.size, 0, none⟩ = some c0 ∧ (W.alloc (.cells #[c0, c1, c2, c3, c4, c5, c6, c7, c8] t)).cell? ⟨W.heap.size, 1, none⟩ = some c1 ∧ (W.alloc (.cells #[c0, c1, c2, c3, c4, c5, c6, c7, c8] t)).cell? ⟨W.heap.size, 2, none⟩ = some c2 ∧ (W.alloc (.cells #[c0, c1, c2, c3, c4, c5, c6, c7, c8] t)).cell? ⟨W.heap.size, 3, none⟩ = some c3 ∧ (W.alloc (.cells #[c0, c1, c2, c3, c4, c5, c6, c7, c8] t)).cell? ⟨W.heap.size, 4, none⟩ = some c4 ∧ (W.alloc (.cells #[c0, c1, c2, c3, c4, c5, c6, c7, c8] t)).cell? ⟨W.heap.size, 5, none⟩ = some c5 ∧ (W.alloc (.cells #[c0, c1, c2, c3, c4, c5, c6, c7, c8] t)).cell? ⟨W.heap.size, 6, none⟩ = some c6 ∧ (W.alloc (.cells #[c0, c1, c2, c3, c4, c5, c6, c7, c8] t)).cell? ⟨W.heap.size, 7, none⟩ = some c7 ∧ (W.alloc (.cells #[c0, c1, c2, c3, c4, c5, c6, c7, c8] t)).cell? ⟨W.heap.size, 8, none⟩ = some c8 := by
 refine ⟨?_, ?_, ?_, ?_, ?_, ?_, ?_, ?_, ?_⟩ <;> (rw [World.cell?_alloc_new]; rfl)
theorem boxV2U (W : World) (c0 c1 : Value) (t : TypeId) : (W.alloc (.cells #[c0, c1] t)).cell? ⟨W.heap.size, 0, none⟩ = some c0 ∧ (W.alloc (.cells #[c0, c1] t)).cell? ⟨W.heap.size, 1, none⟩ = some c1 := by
 refine ⟨?_, ?_⟩ <;> (rw [World.cell?_alloc_new]; rfl)
end Go.Proofs.YtnnagboeimeiiaaGreatDoor
namespace Go.Proofs.YtnnagboeimeiiaaGreatDoor
open Go.RowKit
def trigB (s : Bs) : Bool := nameB s || right s
set_option maxRecDepth 100000 in
theorem trig_any (s : ByteArray) (hs : s.size ≤ 4000) (w : World) (hL : LaidP w) :
   Calls Tryz.prog 102 #[.string s] w fun e w' => e = .returned (.bool (trigB s.data.toList)) ∧ Below w.heap.size w w' := by
 have NM := fun W => name_any s hs W
 have RA := right_any s hs w hL
 unfold trigB
 generalize right s.data.toList = q at *
 cases hn : nameB s.data.toList
 all_goals
   simp only [hn] at NM
   clear hn hL hs
   go_enter Tryz.func102, Tryz.ntmps102
   go_wp2_with (first
     | (go_at_call 46; refine (NM _).mono ?_; rintro e w1 ⟨rfl, rfl⟩)
     | (go_at_call 149; refine RA.mono ?_; rintro e w2 ⟨rfl, hb⟩; have HB := Lib.hid hb; clear hb))
   go_ret
   first | exact ⟨retb (by simp), HB.out⟩ | exact ⟨retb (by simp), Below.refl _ _⟩
set_option maxRecDepth 100000 in
theorem trig_ref (s : ByteArray) (hs : s.size ≤ 4000) (w : World) :
   Calls Tryz.prog 56 #[.string s] w fun e w' => e = .returned (.bool (trigB s.data.toList)) ∧ Below w.heap.size w w' := by
 have NM := fun W => name_ref s hs W
 have RA := right_ref s hs w
 unfold trigB
 generalize right s.data.toList = q at *
 cases hn : nameB s.data.toList
 all_goals
   simp only [hn] at NM
   clear hn hs
   go_enter Tryz.func56, Tryz.ntmps56
   go_wp2_with (first
     | (go_at_call 52; refine (NM _).mono ?_; rintro e w1 ⟨rfl, rfl⟩)
     | (go_at_call 55; refine RA.mono ?_; rintro e w2 ⟨rfl, hb⟩; have HB := Lib.hid hb; clear hb))
   go_ret
   first | exact ⟨retb (by simp), HB.out⟩ | exact ⟨retb (by simp), Below.refl _ _⟩
end Go.Proofs.YtnnagboeimeiiaaGreatDoor
namespace Go.Proofs.YtnnagboeimeiiaaGreatDoor
open Go.RowKit
-- Lists by keys
section
variable {α : Type} (rt : α → Bool) (key : α → Bs)
def stepK (l : List α) (i : Nat) (x : α) : Prop := rt x = true ∧ ∀ y, 0 < i → l[i - 1]? = some y → key y < key x
def StepsK (l : List α) : Prop := ∀ (i : Nat) x, l[i]? = some x → stepK rt key l i x
open Classical in
noncomputable def kchkK (l : List α) : Int := if 64 < l.length then 22 else if StepsK rt key l then 0 else 1
def idxK (l : List α) (p : α → Bool) : Int := match l.findIdx? p with
 | some k => k
 | none => -1
end
section
variable {α : Type} {rt : α → Bool} {key : α → Bs}
theorem kchkK_long {l : List α} (h : 64 < l.length) : kchkK rt key l = 22 := by unfold kchkK; rw [if_pos h]
theorem kchkK_ok {l : List α} (h : ¬ 64 < l.length) (g : StepsK rt key l) : kchkK rt key l = 0 := by unfold kchkK; rw [if_neg h, if_pos g]
theorem kchkK_no {l : List α} (h : ¬ 64 < l.length) (g : ¬ StepsK rt key l) : kchkK rt key l = 1 := by unfold kchkK; rw [if_neg h, if_neg g]
theorem kchkK_ways (rt : α → Bool) (key : α → Bs) (l : List α) : (kchkK rt key l = 0 ∧ l.length ≤ 64 ∧ StepsK rt key l) ∨ ((kchkK rt key l = 22 ∨ kchkK rt key l = 1) ∧ ¬ (l.length ≤ 64 ∧ StepsK rt key l)) := by
 by_cases h : 64 < l.length
 · exact .inr ⟨.inl (kchkK_long h), fun g => by omega⟩
 · by_cases g : StepsK rt key l
   · exact .inl ⟨kchkK_ok h g, by omega, g⟩
   · exact .inr ⟨.inr (kchkK_no h g), fun q => g q.2⟩
theorem idxK_hit {l : List α} {p : α → Bool} {k : Nat} {x : α} (hx : l[k]? = some x) (hp : p x = true) (hb : ∀ (j : Nat) y, j < k → l[j]? = some y → p y = false) : idxK l p = k := by
 unfold idxK
 have : l.findIdx? p = some k := by
   rw [List.findIdx?_eq_some_iff_getElem]
   obtain ⟨hk, e⟩ := List.getElem?_eq_some_iff.1 hx
   exact ⟨hk, by rw [e]; exact hp, fun j hj => by rw [hb j _ hj (List.getElem?_eq_getElem (by omega))]; simp⟩
 rw [this]
theorem idxK_miss {l : List α} {p : α → Bool} (hb : ∀ (j : Nat) y, l[j]? = some y → p y = false) : idxK l p = -1 := by
 unfold idxK
 have : l.findIdx? p = none := by
   rw [List.findIdx?_eq_none_iff]
   intro y hy
   obtain ⟨j, hj⟩ := List.mem_iff_getElem?.1 hy
   exact hb j y hj
 rw [this]
end
end Go.Proofs.YtnnagboeimeiiaaGreatDoor
namespace Go.Proofs.YtnnagboeimeiiaaGreatDoor
open Go.RowKit
abbrev Sv := Bs × Bs
abbrev Cv := (Bs × Int × List Bs) × Value
structure Av where
 nm : Bs
 lk : Bs
 mn : Bool
 cr : Bs
 sl : List Sv
 ch : List Cv
 sv : Value
 cv : Value
abbrev cellsS (x : Sv) : Rw := [.string (⟨x.1.toArray⟩ : ByteArray), .string (⟨x.2.toArray⟩ : ByteArray)]
abbrev cellsC (x : Cv) : Rw := [.string (⟨x.1.1.toArray⟩ : ByteArray), .int .i64 x.1.2.1, x.2]
abbrev cellsA (x : Av) : Rw := [.string (⟨x.nm.toArray⟩ : ByteArray), .string (⟨x.lk.toArray⟩ : ByteArray), .bool x.mn, .string (⟨x.cr.toArray⟩ : ByteArray), x.sv, x.cv]
abbrev HoldS (w : World) (v : Value) (l : List Sv) : Prop := HoldV 2 w v (l.map cellsS)
abbrev HoldC (w : World) (v : Value) (l : List Cv) : Prop := HoldV 3 w v (l.map cellsC) ∧ ∀ x ∈ l, HoldT w x.2 x.1.2.2
abbrev InA (w : World) (x : Av) : Prop := HoldS w x.sv x.sl ∧ HoldC w x.cv x.ch
abbrev HoldA (w : World) (v : Value) (l : List Av) : Prop := HoldV 6 w v (l.map cellsA) ∧ ∀ x ∈ l, InA w x
theorem HoldC.on {w w' : World} {v : Value} {l : List Cv} (h : HoldC w v l) (hb : Below w.heap.size w w') : HoldC w' v l := ⟨HoldV.on h.1 hb, fun x hx => (h.2 x hx).on hb⟩
theorem InA.on {w w' : World} {x : Av} (h : InA w x) (hb : Below w.heap.size w w') : InA w' x := ⟨HoldV.on h.1 hb, HoldC.on h.2 hb⟩
theorem HoldA.on {w w' : World} {v : Value} {l : List Av} (h : HoldA w v l) (hb : Below w.heap.size w w') : HoldA w' v l := ⟨HoldV.on h.1 hb, fun x hx => (h.2 x hx).on hb⟩
theorem HoldS.parts {w : World} {v : Value} {l : List Sv} (h : HoldS w v l) : ∃ (a : Option Addr) (c b o : Nat), v = .slice a l.length c ∧ l.length ≤ c ∧ (0 < l.length → a = some ⟨b, o, none⟩ ∧ b < w.heap.size) ∧
   ∀ (j : Nat) x, l[j]? = some x → w.cell? ⟨b, o + j * 2, none⟩ = some (.string (⟨x.1.toArray⟩ : ByteArray)) ∧ w.cell? ⟨b, o + j * 2 + 1, none⟩ = some (.string (⟨x.2.toArray⟩ : ByteArray)) := by
 obtain ⟨a, c, b, o, e, hc, ha, hcell⟩ := h
 rw [List.length_map] at e hc ha
 refine ⟨a, c, b, o, e, hc, ha, fun j x hx => ?_⟩
 have := hcell j (cellsS x) (by rw [List.getElem?_map, hx]; rfl)
 exact ⟨this 0 _ (by omega) rfl, this 1 _ (by omega) rfl⟩
theorem HoldC.parts {w : World} {v : Value} {l : List Cv} (h : HoldC w v l) : ∃ (a : Option Addr) (c b o : Nat), v = .slice a l.length c ∧ l.length ≤ c ∧ (0 < l.length → a = some ⟨b, o, none⟩ ∧ b < w.heap.size) ∧
   ∀ (j : Nat) x, l[j]? = some x → w.cell? ⟨b, o + j * 3, none⟩ = some (.string (⟨x.1.1.toArray⟩ : ByteArray)) ∧ w.cell? ⟨b, o + j * 3 + 1, none⟩ = some (.int .i64 x.1.2.1) ∧ w.cell? ⟨b, o + j * 3 + 2, none⟩ = some x.2 := by
 obtain ⟨⟨a, c, b, o, e, hc, ha, hcell⟩, -⟩ := h
 rw [List.length_map] at e hc ha
 refine ⟨a, c, b, o, e, hc, ha, fun j x hx => ?_⟩
 have := hcell j (cellsC x) (by rw [List.getElem?_map, hx]; rfl)
 exact ⟨this 0 _ (by omega) rfl, this 1 _ (by omega) rfl, this 2 _ (by omega) rfl⟩
theorem HoldA.parts {w : World} {v : Value} {l : List Av} (h : HoldA w v l) : ∃ (a : Option Addr) (c b o : Nat), v = .slice a l.length c ∧ l.length ≤ c ∧ (0 < l.length → a = some ⟨b, o, none⟩ ∧ b < w.heap.size) ∧
   ∀ (j : Nat) x, l[j]? = some x → w.cell? ⟨b, o + j * 6, none⟩ = some (.string (⟨x.nm.toArray⟩ : ByteArray)) ∧ w.cell? ⟨b, o + j * 6 + 1, none⟩ = some (.string (⟨x.lk.toArray⟩ : ByteArray)) ∧ w.cell? ⟨b, o + j * 6 + 2, none⟩ = some (.bool x.mn) ∧ w.cell? ⟨b, o + j * 6 + 3, none⟩ = some (.string (⟨x.cr.toArray⟩ : ByteArray)) ∧ w.cell? ⟨b, o + j * 6 + 4, none⟩ = some x.sv ∧ w.cell? ⟨b, o + j * 6 + 5, none⟩ = some x.cv := by
 obtain ⟨⟨a, c, b, o, e, hc, ha, hcell⟩, -⟩ := h
 rw [List.length_map] at e hc ha
 refine ⟨a, c, b, o, e, hc, ha, fun j x hx => ?_⟩
 have := hcell j (cellsA x) (by rw [List.getElem?_map, hx]; rfl)
 exact ⟨this 0 _ (by omega) rfl, this 1 _ (by omega) rfl, this 2 _ (by omega) rfl, this 3 _ (by omega) rfl, this 4 _ (by omega) rfl, this 5 _ (by omega) rfl⟩
-- How large
def FitS (x : Sv) : Prop := x.1.length ≤ maxLen ∧ x.2.length ≤ maxLen
def FitC (x : Cv) : Prop := x.1.1.length ≤ maxLen ∧ x.1.2.2.length ≤ maxLen ∧ ∀ q ∈ x.1.2.2, q.length ≤ maxLen
structure FitA (x : Av) : Prop where
 nm : x.nm.length ≤ maxLen
 lk : x.lk.length ≤ maxLen
 cr : x.cr.length ≤ maxLen
 sl : x.sl.length ≤ maxLen
 ch : x.ch.length ≤ maxLen
 ss : ∀ s ∈ x.sl, FitS s
 cs : ∀ c ∈ x.ch, FitC c
def FewS (x : Sv) : Prop := x.1.length ≤ 300 ∧ x.2.length ≤ 300
def FewC (x : Cv) : Prop := x.1.1.length ≤ 300 ∧ x.1.2.2.length ≤ 70 ∧ ∀ q ∈ x.1.2.2, q.length ≤ 3000
structure FewOne (x : Av) : Prop where
 nm : x.nm.length ≤ 300
 lk : x.lk.length ≤ 300
 cr : x.cr.length ≤ 300
 sl : x.sl.length ≤ 70
 ch : x.ch.length ≤ 70
 ss : ∀ s ∈ x.sl, FewS s
 cs : ∀ c ∈ x.ch, FewC c
end Go.Proofs.YtnnagboeimeiiaaGreatDoor
namespace Go.Proofs.YtnnagboeimeiiaaGreatDoor
open Go.RowKit
theorem itself_any (s : ByteArray) (w : World) : Calls Tryz.prog 101 #[.string s] w fun e w' => e = .returned (.string s) ∧ w' = w := by
 go_enter Tryz.func101, Tryz.ntmps101
 go_wp2
 go_ret
 exact ⟨rfl, rfl⟩
abbrev keyFT : Value := .func (.func 101) #[] #[]
def PredKT (g : Nat) (lb : Array Value) (l : List Bs) (p : Bs → Bool) (w : World) : Prop :=
 ∀ x ∈ l, ∀ W, Below w.heap.size w W → Calls Tryz.prog g (#[.string (⟨x.toArray⟩ : ByteArray)] ++ lb) W fun e w' => e = .returned (.bool (p x)) ∧ Below W.heap.size W w'
set_option maxRecDepth 100000 in
set_option maxHeartbeats 8000000 in
theorem kcheckT_any (g : Nat) (lb : Array Value) (eg : ∀ args w, (callFunc g args).run Tryz.prog w = .ok (.enter g args) w) (rt : Bs → Bool) (v : Value) (l : List Bs) (hl : l.length ≤ 90000) (w : World) (h : HoldT w v l) (hra : PredKT g lb l rt w) :
   Calls Tryz.prog 100 #[v, keyFT, .func (.func g) #[] lb] w fun e w' => e = .returned (.int .i64 (kchkK rt (fun x => x) l)) ∧ Below w.heap.size w w' := by
 obtain ⟨a, c, b, o, rfl, hc, ha, hcell⟩ := h
 have HC := Lib.hid hcell
 have HRA := Lib.hid hra
 have KI := fun s W => itself_any s W
 unfold keyFT
 obtain ⟨Z, HZ⟩ : ∃ Z, Hid (kchkK rt (fun x => x) l = Z) := ⟨_, rfl⟩
 rw [HZ.out]
 obtain ⟨n, hN⟩ : ∃ n, l.length = n := ⟨_, rfl⟩
 rw [hN] at hc ha hl ⊢
 have HN := Lib.hid hN
 clear hcell hN hra
 by_cases h64 : 64 < n
 · have HF : Hid ((22 : Int) = Z) := Lib.hid (by rw [← HZ.out, kchkK_long (by rw [HN.out]; exact h64)])
   go_enter Tryz.func100, Tryz.ntmps100
   go_wp2
   go_ret
   exact ⟨reti HF.out, Below.refl _ _⟩
 have HBAD : Hid (∀ (i : Nat) x, l[i]? = some x → ¬ stepK rt (fun x => x) l i x → (1 : Int) = Z) := Lib.hid (fun i x hx g => by rw [← HZ.out, kchkK_no (by rw [HN.out]; exact h64) (fun q => g (q i x hx))])
 have HOK : Hid (StepsK rt (fun x => x) l → (0 : Int) = Z) := Lib.hid (fun g => by rw [← HZ.out, kchkK_ok (by rw [HN.out]; exact h64) g])
 clear HZ
 go_enter Tryz.func100, Tryz.ntmps100
 go_wp2
 go_loopw [14] (fun i wr => ∃ k : Nat, k ≤ n ∧ i = .int .i64 k ∧ Hid (∀ (j : Nat) x, j < k → l[j]? = some x → stepK rt (fun x => x) l j x) ∧ Hid (Below w.heap.size w wr)) (fun i _ => n - (intOf i).toNat)
 case atStart => exact ⟨0, by omega, rfl, Lib.hid (fun j y hj => by omega), Lib.hid (Below.refl _ _)⟩
 case round =>
   obtain ⟨k, hk, rfl, H, HB⟩ := hrel
   by_cases hlt : k < n
   · obtain ⟨rfl, hbw⟩ := ha (by omega)
     obtain ⟨x, hx⟩ : ∃ x, l[k]? = some x := ⟨_, List.getElem?_eq_getElem (by rw [HN.out]; exact hlt)⟩
     have c0 := HC.out k x hx
     rw [← HB.out.cell (p := ⟨b, o + k, none⟩) hbw] at c0
     have RA := HRA.out x (List.mem_of_getElem? hx) wr HB.out
     have HX := Lib.hid hx
     have hsz := HB.out.size
     clear hx
     cases hq : rt x
     · have HF := Lib.hid (HBAD.out k x HX.out (fun g => by rw [g.1] at hq; cases hq))
       simp only [hq] at RA
       clear hq H HBAD HOK HC HX HRA
       generalize (⟨x.toArray⟩ : ByteArray) = X0 at *
       go_wp2_with (go_at_fn g; (with_reducible refine RA.mono ?_); rintro e w3 ⟨rfl, hb⟩; have HB3 := Lib.hid (HB.out.trans (hb.mono hsz)); clear hb)
       go_ret
       exact ⟨reti HF.out, HB3.out⟩
     · simp only [hq] at RA
       by_cases hk0 : 0 < k
       · obtain ⟨y, hy⟩ : ∃ y, l[k - 1]? = some y := ⟨_, List.getElem?_eq_getElem (by rw [HN.out]; omega)⟩
         have HE0 : Hid (∀ W, Below w.heap.size w W → W.cell? ⟨b, o + (k - 1), none⟩ = some (.string ⟨y.toArray⟩)) := Lib.hid (fun W hW => (hW.cell (p := ⟨b, o + (k - 1), none⟩) hbw).trans (HC.out (k - 1) y hy))
         have hls := lessT (⟨y.toArray⟩ : ByteArray) (⟨x.toArray⟩ : ByteArray)
         rw [bytesOf, bytesOf] at hls
         have HBADk : Hid (decide (y < x) = false → (1 : Int) = Z) := Lib.hid (fun g => HBAD.out k x HX.out (fun q => by have := q.2 y hk0 hy; simp only at this; rw [decide_eq_true this] at g; cases g))
         have HNEXT : Hid (decide (y < x) = true → ∀ (j : Nat) u, j < k + 1 → l[j]? = some u → stepK rt (fun x => x) l j u) := Lib.hid (fun g j u hj hu => by
           by_cases ej : j = k
           · subst ej
             rw [HX.out] at hu; cases hu
             exact ⟨hq, fun u h1 h2 => by rw [hy] at h2; cases h2; exact of_decide_eq_true g⟩
           · exact H.out j u (by omega) hu)
         generalize decide (y < x) = q at *
         have hd : decide ((0 : Int) < (k : Int)) = true := decide_eq_true (by omega)
         have hk1 : (1 : Int) ≤ (k : Int) := by omega
         have i0 : (0 : Int) ≤ (k : Int) - 1 := by omega
         have i1 : (k : Int) - 1 < (n : Int) := by omega
         have i2 : ((k : Int) - 1).toNat = k - 1 := by omega
         have i3 : IntKind.i64.wrap ((k : Int) - 1) = (k : Int) - 1 := IntWalk.i64_in _ (by omega)
         clear hq H HBAD HC HX hy HRA
         generalize (⟨x.toArray⟩ : ByteArray) = X0 at *
         generalize (⟨y.toArray⟩ : ByteArray) = X0' at *
         cases q
         · have HF := Lib.hid (HBADk.out rfl)
           clear HBADk HNEXT
           go_wp2_with (first
             | (go_at_fn g; (with_reducible refine RA.mono ?_); rintro e w3 ⟨rfl, hb⟩; have HB3 := Lib.hid (HB.out.trans (hb.mono hsz)); have e3 := HE0.out _ HB3.out; clear hb)
             | (go_at_call 101; (with_reducible refine (KI _ _).mono ?_); rintro e w4 ⟨rfl, rfl⟩))
           go_ret
           exact ⟨reti HF.out, HB3.out⟩
         · have HK := Lib.hid (HNEXT.out rfl)
           clear HBADk HNEXT
           go_wp2_with (first
             | (go_at_fn g; (with_reducible refine RA.mono ?_); rintro e w3 ⟨rfl, hb⟩; have HB3 := Lib.hid (HB.out.trans (hb.mono hsz)); have e3 := HE0.out _ HB3.out; clear hb)
             | (go_at_call 101; (with_reducible refine (KI _ _).mono ?_); rintro e w4 ⟨rfl, rfl⟩))
           go_roundw
           case rel => exact ⟨k + 1, by omega, by go_num, HK, HB3⟩
           case measure => simp [intOf]; omega
       · have HK : Hid (∀ (j : Nat) u, j < k + 1 → l[j]? = some u → stepK rt (fun x => x) l j u) := Lib.hid (fun j u hj hu => by
           obtain rfl : j = k := by omega
           rw [HX.out] at hu; cases hu
           exact ⟨hq, fun _ h1 => absurd h1 hk0⟩)
         have hd : decide ((0 : Int) < (k : Int)) = false := decide_eq_false (by omega)
         clear hq H HBAD HOK HC HX HRA
         generalize (⟨x.toArray⟩ : ByteArray) = X0 at *
         go_wp2_with (go_at_fn g; (with_reducible refine RA.mono ?_); rintro e w3 ⟨rfl, hb⟩; have HB3 := Lib.hid (HB.out.trans (hb.mono hsz)); clear hb)
         go_roundw
         case rel => exact ⟨k + 1, by omega, by go_num, HK, HB3⟩
         case measure => simp [intOf]; omega
   · obtain rfl : k = n := by omega
     have HF := Lib.hid (HOK.out (fun i x hx => H.out i x (by have := (List.getElem?_eq_some_iff.1 hx).1; rw [HN.out] at this; exact this) hx))
     clear hlt H HBAD HOK
     go_wp2
     go_ret
     exact ⟨reti HF.out, HB.out⟩
end Go.Proofs.YtnnagboeimeiiaaGreatDoor
