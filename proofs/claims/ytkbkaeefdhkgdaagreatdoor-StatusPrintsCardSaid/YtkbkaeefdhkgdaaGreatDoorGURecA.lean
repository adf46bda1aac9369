import Derived.Test.YtkbkaeefdhkgdaaGreatDoorGUPrintA
set_option maxRecDepth 100000
set_option maxHeartbeats 32000000
namespace Go.Proofs.YtkbkaeefdhkgdaaGreatDoor
open Go.RowKit Go.Shelf
def fT (f : List Fld) (n : Bs) : Bs := (getF f n).1
theorem fT_len (f : List Fld) (n : Bs) (k : Nat) (h : ∀ x ∈ f, x.2.length ≤ k) : (fT f n).length ≤ k := by
  unfold fT getF
  split
  · rename_i g hg
    exact h g (List.mem_of_find?_eq_some hg)
  · simp
structure FldFit (f : List Fld) : Prop where
  n : f.length ≤ 90000
  t : ∀ x ∈ f, x.1.length ≤ 90000 ∧ x.2.length ≤ 90000
  d : ∀ p ∈ Lib.splitN (fT f [68, 101, 112, 101, 110, 100, 115]) sepA 65, p.length ≤ 100000 ∧ ∀ q ∈ Lib.splitN p sepG 65, q.length ≤ 4000
  c : ∀ p ∈ Lib.splitN (fT f [67, 111, 110, 102, 108, 105, 99, 116, 115]) sepA 65, p.length ≤ 4000
structure RecOf (f : List Fld) (x : Uv) : Prop where
  nm : x.nm = fT f [80, 97, 99, 107, 97, 103, 101]
  vr : x.vr = fT f [86, 101, 114, 115, 105, 111, 110]
  st : x.st = stateU (fT f [83, 116, 97, 116, 117, 115])
  dp : fsts x.dp = (parseA (fT f [68, 101, 112, 101, 110, 100, 115])).getD []
  cn : x.cn = (parseQ (fT f [67, 111, 110, 102, 108, 105, 99, 116, 115])).getD []
  rp : x.rp = wordsL (fT f [82, 101, 112, 108, 97, 99, 101, 115])
  cf : x.cf = cfRead (fT f [67, 111, 110, 102, 102, 105, 108, 101, 115])
  pd : x.pd = wordsL (fT f [84, 114, 105, 103, 103, 101, 114, 115, 45, 80, 101, 110, 100, 105, 110, 103])
  aw : x.aw = wordsL (fT f [84, 114, 105, 103, 103, 101, 114, 115, 45, 65, 119, 97, 105, 116, 101, 100])
structure OwnRec (w : World) (B : Nat) (x : Uv) : Prop where
  dp : OwnGs w B x.dv x.dp
  cn : OwnQ w B x.cv x.cn
  rp : OwnT w B x.rv x.rp
  cf : OwnCf w B x.fv x.cf
  pd : OwnT w B x.pv x.pd
  aw : OwnT w B x.av x.aw
theorem OwnRec.ins {w : World} {B : Nat} {x : Uv} (h : OwnRec w B x) : InU w x := ⟨h.dp.holds, OwnV.holds h.cn, h.rp.holds, OwnV.holds h.cf, h.pd.holds, h.aw.holds⟩
theorem OwnRec.on {w w' : World} {B : Nat} {x : Uv} (h : OwnRec w B x) (hb : Below w.heap.size w w') : OwnRec w' B x := ⟨OwnGs.on h.dp hb, OwnV.on h.cn hb, OwnT.onQ h.rp hb, OwnV.on h.cf hb, OwnT.onQ h.pd hb, OwnT.onQ h.aw hb⟩
theorem OwnRec.mono {w : World} {B B' : Nat} {x : Uv} (h : OwnRec w B x) (hb : B' ≤ B) : OwnRec w B' x := ⟨OwnGs.mono h.dp hb, OwnV.mono h.cn hb, h.rp.mono hb, OwnV.mono h.cf hb, h.pd.mono hb, h.aw.mono hb⟩
theorem OwnRec.grow {w w' : World} {o : Obj} {B : Nat} {v : Value} {n : Nat} {xs : List Value} {x : Uv} (h : OwnRec w B x) (hv : w.ownsRow B 43 9 v n xs) (hg : (w.alloc o).grownBy w' v.ownBlock) : OwnRec w' B x :=
  ⟨⟨⟨h.dp.1.1, World.ownsRow.kept (World.ownsRow.alloc h.dp.1.2 o) hg (kinds_apart h.dp.1.2 hv (by decide))⟩, fun y hy => ⟨(h.dp.2 y hy).1, World.ownsRow.kept (World.ownsRow.alloc (h.dp.2 y hy).2 o) hg (kinds_apart (h.dp.2 y hy).2 hv (by decide))⟩⟩,
   ⟨h.cn.1, World.ownsRow.kept (World.ownsRow.alloc h.cn.2 o) hg (kinds_apart h.cn.2 hv (by decide))⟩,
   World.ownsRow.kept (World.ownsRow.alloc h.rp o) hg (kinds_apart h.rp hv (by decide)),
   ⟨h.cf.1, World.ownsRow.kept (World.ownsRow.alloc h.cf.2 o) hg (kinds_apart h.cf.2 hv (by decide))⟩,
   World.ownsRow.kept (World.ownsRow.alloc h.pd o) hg (kinds_apart h.pd hv (by decide)),
   World.ownsRow.kept (World.ownsRow.alloc h.aw o) hg (kinds_apart h.aw hv (by decide))⟩
theorem grownSetU (W : World) (p : Addr) (v : Value) : W.grownBy (W.setCell p v) (some p.block) := ⟨rfl, rfl, rfl, (KeepsWalks.setCell W _ v).size, fun k _ hk => Below.heap_setCell _ _ _ k (fun e => hk (by rw [e]))⟩
theorem grownNine (W : World) (b : Nat) (u0 u1 u2 u3 u4 u5 u6 u7 u8 : Value) : W.grownBy (nine W b u0 u1 u2 u3 u4 u5 u6 u7 u8) (some b) :=
  ((((((((grownSetU W ⟨b, 0, none⟩ u0).trans (grownSetU _ ⟨b, 1, none⟩ u1)).trans (grownSetU _ ⟨b, 2, none⟩ u2)).trans (grownSetU _ ⟨b, 3, none⟩ u3)).trans (grownSetU _ ⟨b, 4, none⟩ u4)).trans (grownSetU _ ⟨b, 5, none⟩ u5)).trans (grownSetU _ ⟨b, 6, none⟩ u6)).trans (grownSetU _ ⟨b, 7, none⟩ u7)).trans (grownSetU _ ⟨b, 8, none⟩ u8)
theorem OwnV.setU {T : TypeId} {k : Nat} {w w' : World} {base b : Nat} {v : Value} {rows : List Rw} (h : OwnV T k w base v rows) (hg : w.grownBy w' (some b)) (hb : b < base) : OwnV T k w' base v rows :=
  ⟨h.1, World.ownsRow.kept h.2 hg (.inr (fun e => by have := (World.ownsRow.lt h.2 b e).1; omega))⟩
theorem OwnT.setU {w w' : World} {base b : Nat} {v : Value} {l : List Bs} (h : OwnT w base v l) (hg : w.grownBy w' (some b)) (hb : b < base) : OwnT w' base v l :=
  World.ownsRow.kept h hg (.inr (fun e => by have := (World.ownsRow.lt h b e).1; omega))
theorem OwnGs.setU {w w' : World} {base b : Nat} {v : Value} {L : List Gv} (h : OwnGs w base v L) (hg : w.grownBy w' (some b)) (hb : b < base) : OwnGs w' base v L :=
  ⟨OwnV.setU h.1 hg hb, fun x hx => OwnV.setU (h.2 x hx) hg hb⟩
theorem getG (N : ByteArray) (f : List Fld) (hN : N.size ≤ 90000) (hf : f.length ≤ 90000) (ht : ∀ x ∈ f, x.1.length ≤ 90000 ∧ x.2.length ≤ 90000) {w W : World} {v : Value} {cs : Array Value} (h : Rb w W v cs) (hv : HoldR 2 w v (f.map rowF)) : Calls Tryz.prog 67 #[.string N, .pointer (some ⟨w.heap.size, 0, none⟩)] W fun e w' => e = .returned (.string ⟨(fT f N.data.toList).toArray⟩) ∧ Below W.heap.size W w' := by
  have C := getV_any v f N hf ht hN W (hv.on h.b)
  unfold GetVPost at C
  have hfT : (getF f N.data.toList).1 = fT f N.data.toList := rfl
  rw [hfT] at C
  have c0 := cell_heap (i := 0) h.h0 rfl
  obtain ⟨a, c, b, o, e, hc, ha, hcell⟩ := hv
  subst e
  clear hc ha hcell h hfT
  generalize (getF f N.data.toList).2 = q at *
  generalize (f.map rowF).length = n at *
  generalize fT f N.data.toList = T at *
  go_enter Tryz.func67, Tryz.ntmps67
  go_wp2_with (go_at_call 68; (with_reducible refine C.mono ?_); rintro e w1 ⟨rfl, hb⟩; have HB := Lib.hid hb; clear hb)
  go_ret
  exact ⟨rfl, HB.out⟩
theorem parseAG (s : ByteArray) (hs : s.size ≤ 100000) (hp : ∀ p ∈ Lib.splitN s.data.toList sepA 65, p.length ≤ 100000 ∧ ∀ q ∈ Lib.splitN p sepG 65, q.length ≤ 4000) (w : World) (hL : LaidQ w) : Calls Tryz.prog 69 #[.string s] w fun e w' => ∃ a n c z L, e = .returned (.tuple #[.slice a n c, .int .i64 z]) ∧ fsts L = (parseA s.data.toList).getD [] ∧ OwnGs w' w.heap.size (.slice a n c) L ∧ Below w.heap.size w w' := by
  refine (parseAllQ_any s hs hp w hL).mono fun e w' h => ?_
  unfold CutPostG at h
  cases hpa : parseA s.data.toList with
  | none =>
    rw [hpa] at h
    exact ⟨none, 0, 0, 2, [], h.1, rfl, OwnGs.nil _ _, h.2⟩
  | some l =>
    rw [hpa] at h
    obtain ⟨⟨v, L, he, hl, ho⟩, hb⟩ := h
    obtain ⟨a, c, e'⟩ := OwnV.form ho.1
    exact ⟨a, _, c, 0, L, by rw [he, e'], hl, by rw [← e']; exact ho, hb⟩
theorem parseQG (s : ByteArray) (hs : s.size ≤ 100000) (hp : ∀ p ∈ Lib.splitN s.data.toList sepA 65, p.length ≤ 4000) (w : World) (hL : LaidQ w) : Calls Tryz.prog 70 #[.string s] w fun e w' => ∃ a n c z, e = .returned (.tuple #[.slice a n c, .int .i64 z]) ∧ OwnQ w' w.heap.size (.slice a n c) ((parseQ s.data.toList).getD []) ∧ Below w.heap.size w w' := by
  refine (parseListQ_any s hs hp w hL).mono fun e w' h => ?_
  unfold CutPost at h
  cases hpa : parseQ s.data.toList with
  | none =>
    rw [hpa] at h
    exact ⟨none, 0, 0, 2, h.1, OwnV.nil _ _ _ _, h.2⟩
  | some l =>
    rw [hpa] at h
    obtain ⟨⟨v, he, ho⟩, hb⟩ := h
    obtain ⟨a, c, e'⟩ := OwnV.form ho
    exact ⟨a, _, c, 0, by rw [he, e'], by rw [← e']; exact ho, hb⟩
theorem wordsG (s : ByteArray) (hs : s.size ≤ 90000) (w : World) : Calls Tryz.prog 72 #[.string s] w fun e w' => ∃ a n c, e = .returned (.slice a n c) ∧ OwnT w' w.heap.size (.slice a n c) (wordsL s.data.toList) ∧ Below w.heap.size w w' := by
  refine (pwords_any s hs w).mono fun e w' h => ?_
  obtain ⟨v, he, ho, hb⟩ := h
  obtain ⟨a, n, c, e'⟩ := ho.form
  exact ⟨a, n, c, by rw [he, e'], by rw [← e']; exact ho, hb⟩
theorem confsG (s : ByteArray) (hs : s.size ≤ 90000) (w : World) (hL : LaidU w) : Calls Tryz.prog 73 #[.string s] w fun e w' => ∃ a n c, e = .returned (.slice a n c) ∧ OwnCf w' w.heap.size (.slice a n c) (cfRead s.data.toList) ∧ Below w.heap.size w w' := by
  refine (confs_any s hs w hL).mono fun e w' h => ?_
  obtain ⟨v, he, ho, hb⟩ := h
  obtain ⟨a, c, e'⟩ := OwnV.form ho
  exact ⟨a, _, c, by rw [he, e'], by rw [← e']; exact ho, hb⟩
theorem record_any (v : Value) (f : List Fld) (hf : FldFit f) (w : World) (hL : LaidU w) (hv : HoldR 2 w v (f.map rowF)) : Calls Tryz.prog 28 #[v] w fun e w' => ∃ x : Uv, e = .returned (agU x) ∧ RecOf f x ∧ OwnRec w' w.heap.size x ∧ Below w.heap.size w w' := by
  have hvf : ∃ a n c, v = .slice a n c := by obtain ⟨a, c, b, o, e, _⟩ := hv; exact ⟨_, _, _, e⟩
  obtain ⟨va, vn, vc, rfl⟩ := hvf
  have HR0 := Lib.hid (Rb.new w (.slice va vn vc) #[.string ⟨#[]⟩, .string ⟨#[]⟩, .int .i64 0, .slice none 0 0, .slice none 0 0, .slice none 0 0, .slice none 0 0, .slice none 0 0, .slice none 0 0])
  have hsz0 : ((w.alloc (.cells #[.slice va vn vc] 51)).alloc (.cells #[.string ⟨#[]⟩, .string ⟨#[]⟩, .int .i64 0, .slice none 0 0, .slice none 0 0, .slice none 0 0, .slice none 0 0, .slice none 0 0, .slice none 0 0] 43)).heap.size = w.heap.size + 2 := by simp
  have lenF : ∀ n, (fT f n).length ≤ 90000 := fun n => fT_len f n _ (fun x hx => (hf.t x hx).2)
  obtain ⟨Td, hTd⟩ : ∃ T : ByteArray, (⟨(fT f [68, 101, 112, 101, 110, 100, 115]).toArray⟩ : ByteArray) = T := ⟨_, rfl⟩
  have ld : fT f [68, 101, 112, 101, 110, 100, 115] = Td.data.toList := by rw [← hTd]
  have zd : Td.size ≤ 90000 := by rw [sizeOf, ← ld]; exact lenF _
  have GTd := fun (W : World) (cs : Array Value) (h : Rb w W (.slice va vn vc) cs) => getG ⟨#[68, 101, 112, 101, 110, 100, 115]⟩ f (by decide) hf.n hf.t h hv
  rw [show (ByteArray.mk #[68, 101, 112, 101, 110, 100, 115]).data.toList = [68, 101, 112, 101, 110, 100, 115] from rfl, hTd] at GTd
  obtain ⟨Tc, hTc⟩ : ∃ T : ByteArray, (⟨(fT f [67, 111, 110, 102, 108, 105, 99, 116, 115]).toArray⟩ : ByteArray) = T := ⟨_, rfl⟩
  have lc : fT f [67, 111, 110, 102, 108, 105, 99, 116, 115] = Tc.data.toList := by rw [← hTc]
  have zc : Tc.size ≤ 90000 := by rw [sizeOf, ← lc]; exact lenF _
  have GTc := fun (W : World) (cs : Array Value) (h : Rb w W (.slice va vn vc) cs) => getG ⟨#[67, 111, 110, 102, 108, 105, 99, 116, 115]⟩ f (by decide) hf.n hf.t h hv
  rw [show (ByteArray.mk #[67, 111, 110, 102, 108, 105, 99, 116, 115]).data.toList = [67, 111, 110, 102, 108, 105, 99, 116, 115] from rfl, hTc] at GTc
  obtain ⟨YN, ln⟩ : ∃ l : Bs, fT f [80, 97, 99, 107, 97, 103, 101] = l := ⟨_, rfl⟩
  have GTn := fun (W : World) (cs : Array Value) (h : Rb w W (.slice va vn vc) cs) => getG ⟨#[80, 97, 99, 107, 97, 103, 101]⟩ f (by decide) hf.n hf.t h hv
  rw [show (ByteArray.mk #[80, 97, 99, 107, 97, 103, 101]).data.toList = [80, 97, 99, 107, 97, 103, 101] from rfl, ln] at GTn
  obtain ⟨YV, lv⟩ : ∃ l : Bs, fT f [86, 101, 114, 115, 105, 111, 110] = l := ⟨_, rfl⟩
  have GTv := fun (W : World) (cs : Array Value) (h : Rb w W (.slice va vn vc) cs) => getG ⟨#[86, 101, 114, 115, 105, 111, 110]⟩ f (by decide) hf.n hf.t h hv
  rw [show (ByteArray.mk #[86, 101, 114, 115, 105, 111, 110]).data.toList = [86, 101, 114, 115, 105, 111, 110] from rfl, lv] at GTv
  obtain ⟨Ts, hTs⟩ : ∃ T : ByteArray, (⟨(fT f [83, 116, 97, 116, 117, 115]).toArray⟩ : ByteArray) = T := ⟨_, rfl⟩
  have ls : fT f [83, 116, 97, 116, 117, 115] = Ts.data.toList := by rw [← hTs]
  have zs : Ts.size ≤ 90000 := by rw [sizeOf, ← ls]; exact lenF _
  have GTs := fun (W : World) (cs : Array Value) (h : Rb w W (.slice va vn vc) cs) => getG ⟨#[83, 116, 97, 116, 117, 115]⟩ f (by decide) hf.n hf.t h hv
  rw [show (ByteArray.mk #[83, 116, 97, 116, 117, 115]).data.toList = [83, 116, 97, 116, 117, 115] from rfl, hTs] at GTs
  obtain ⟨Tr, hTr⟩ : ∃ T : ByteArray, (⟨(fT f [82, 101, 112, 108, 97, 99, 101, 115]).toArray⟩ : ByteArray) = T := ⟨_, rfl⟩
  have lr : fT f [82, 101, 112, 108, 97, 99, 101, 115] = Tr.data.toList := by rw [← hTr]
  have zr : Tr.size ≤ 90000 := by rw [sizeOf, ← lr]; exact lenF _
  have GTr := fun (W : World) (cs : Array Value) (h : Rb w W (.slice va vn vc) cs) => getG ⟨#[82, 101, 112, 108, 97, 99, 101, 115]⟩ f (by decide) hf.n hf.t h hv
  rw [show (ByteArray.mk #[82, 101, 112, 108, 97, 99, 101, 115]).data.toList = [82, 101, 112, 108, 97, 99, 101, 115] from rfl, hTr] at GTr
  obtain ⟨Tf, hTf⟩ : ∃ T : ByteArray, (⟨(fT f [67, 111, 110, 102, 102, 105, 108, 101, 115]).toArray⟩ : ByteArray) = T := ⟨_, rfl⟩
  have lf : fT f [67, 111, 110, 102, 102, 105, 108, 101, 115] = Tf.data.toList := by rw [← hTf]
  have zf : Tf.size ≤ 90000 := by rw [sizeOf, ← lf]; exact lenF _
  have GTf := fun (W : World) (cs : Array Value) (h : Rb w W (.slice va vn vc) cs) => getG ⟨#[67, 111, 110, 102, 102, 105, 108, 101, 115]⟩ f (by decide) hf.n hf.t h hv
  rw [show (ByteArray.mk #[67, 111, 110, 102, 102, 105, 108, 101, 115]).data.toList = [67, 111, 110, 102, 102, 105, 108, 101, 115] from rfl, hTf] at GTf
  obtain ⟨Tp, hTp⟩ : ∃ T : ByteArray, (⟨(fT f [84, 114, 105, 103, 103, 101, 114, 115, 45, 80, 101, 110, 100, 105, 110, 103]).toArray⟩ : ByteArray) = T := ⟨_, rfl⟩
  have lp : fT f [84, 114, 105, 103, 103, 101, 114, 115, 45, 80, 101, 110, 100, 105, 110, 103] = Tp.data.toList := by rw [← hTp]
  have zp : Tp.size ≤ 90000 := by rw [sizeOf, ← lp]; exact lenF _
  have GTp := fun (W : World) (cs : Array Value) (h : Rb w W (.slice va vn vc) cs) => getG ⟨#[84, 114, 105, 103, 103, 101, 114, 115, 45, 80, 101, 110, 100, 105, 110, 103]⟩ f (by decide) hf.n hf.t h hv
  rw [show (ByteArray.mk #[84, 114, 105, 103, 103, 101, 114, 115, 45, 80, 101, 110, 100, 105, 110, 103]).data.toList = [84, 114, 105, 103, 103, 101, 114, 115, 45, 80, 101, 110, 100, 105, 110, 103] from rfl, hTp] at GTp
  obtain ⟨Ta, hTa⟩ : ∃ T : ByteArray, (⟨(fT f [84, 114, 105, 103, 103, 101, 114, 115, 45, 65, 119, 97, 105, 116, 101, 100]).toArray⟩ : ByteArray) = T := ⟨_, rfl⟩
  have la : fT f [84, 114, 105, 103, 103, 101, 114, 115, 45, 65, 119, 97, 105, 116, 101, 100] = Ta.data.toList := by rw [← hTa]
  have za : Ta.size ≤ 90000 := by rw [sizeOf, ← la]; exact lenF _
  have GTa := fun (W : World) (cs : Array Value) (h : Rb w W (.slice va vn vc) cs) => getG ⟨#[84, 114, 105, 103, 103, 101, 114, 115, 45, 65, 119, 97, 105, 116, 101, 100]⟩ f (by decide) hf.n hf.t h hv
  rw [show (ByteArray.mk #[84, 114, 105, 103, 103, 101, 114, 115, 45, 65, 119, 97, 105, 116, 101, 100]).data.toList = [84, 114, 105, 103, 103, 101, 114, 115, 45, 65, 119, 97, 105, 116, 101, 100] from rfl, hTa] at GTa
  have PA := fun W (hb : Below w.heap.size w W) => parseAG Td (by omega) (by rw [← ld]; exact hf.d) W (hL.on hb).q
  have PL := fun W (hb : Below w.heap.size w W) => parseQG Tc (by omega) (by rw [← lc]; exact hf.c) W (hL.on hb).q
  have ST := fun W (hb : Below w.heap.size w W) => state_any Ts W (hL.on hb)
  have WR := fun W => wordsG Tr zr W
  have WP := fun W => wordsG Tp zp W
  have WA := fun W => wordsG Ta za W
  have CF := fun W (hb : Below w.heap.size w W) => confsG Tf zf W (hL.on hb)
  have HRES : Hid (∀ (D : List Gv) (v3 v4 v5 v6 v7 v8 : Value), fsts D = (parseA Td.data.toList).getD [] → RecOf f ⟨YN, YV, stateU Ts.data.toList, D, (parseQ Tc.data.toList).getD [], wordsL Tr.data.toList, cfRead Tf.data.toList, wordsL Tp.data.toList, wordsL Ta.data.toList, v3, v4, v5, v6, v7, v8⟩) := Lib.hid (fun D v3 v4 v5 v6 v7 v8 h => ⟨ln.symm, lv.symm, by rw [ls], by rw [ld]; exact h, by rw [lc], by rw [lr], by rw [lf], by rw [lp], by rw [la]⟩)
  generalize (parseQ Tc.data.toList).getD [] = CN at *
  generalize stateU Ts.data.toList = zst at *
  generalize wordsL Tr.data.toList = RP at *
  generalize wordsL Tp.data.toList = PD at *
  generalize wordsL Ta.data.toList = AW at *
  generalize cfRead Tf.data.toList = CFL at *
  generalize (parseA Td.data.toList).getD [] = DD at *
  clear hL hv lenF hf hTd ld zd hTc lc zc ln lv hTs ls zs hTr lr zr hTf lf zf hTp lp zp hTa la za
  have hsz0 := Lib.hid hsz0
  go_enter Tryz.func28, Tryz.ntmps28
  go_wp2_with (first
    | (go_at_call 72; (with_reducible refine (WA _).mono ?_); rintro e w16 ⟨a8, n8, m8, rfl, ho, hb⟩; have HR16 := Lib.hid (HR15.out.on hb); have HB16 := Lib.hid hb; have HO16 := Lib.hid ho; clear hb ho; have r0 := cell_heap (i := 0) HR16.out.h1 rfl; have g0 := frozen_of_row _ _ 0 _ _ HR16.out.h1; have r1 := cell_heap (i := 1) HR16.out.h1 rfl; have g1 := frozen_of_row _ _ 1 _ _ HR16.out.h1; have r2 := cell_heap (i := 2) HR16.out.h1 rfl; have g2 := frozen_of_row _ _ 2 _ _ HR16.out.h1; have r3 := cell_heap (i := 3) HR16.out.h1 rfl; have g3 := frozen_of_row _ _ 3 _ _ HR16.out.h1; have r4 := cell_heap (i := 4) HR16.out.h1 rfl; have g4 := frozen_of_row _ _ 4 _ _ HR16.out.h1; have r5 := cell_heap (i := 5) HR16.out.h1 rfl; have g5 := frozen_of_row _ _ 5 _ _ HR16.out.h1; have r6 := cell_heap (i := 6) HR16.out.h1 rfl; have g6 := frozen_of_row _ _ 6 _ _ HR16.out.h1; have r7 := cell_heap (i := 7) HR16.out.h1 rfl; have g7 := frozen_of_row _ _ 7 _ _ HR16.out.h1; have r8 := cell_heap (i := 8) HR16.out.h1 rfl; have g8 := frozen_of_row _ _ 8 _ _ HR16.out.h1)
    | (go_at_call 67; (with_reducible refine (GTa _ _ HR14.out).mono ?_); rintro e w15 ⟨rfl, hb⟩; have HR15 := Lib.hid (HR14.out.on hb); have HB15 := Lib.hid hb; clear hb)
    | (go_at_call 72; (with_reducible refine (WP _).mono ?_); rintro e w14 ⟨a7, n7, m7, rfl, ho, hb⟩; have HR14 := Lib.hid (HR13.out.on hb); have HB14 := Lib.hid hb; have HO14 := Lib.hid ho; clear hb ho)
    | (go_at_call 67; (with_reducible refine (GTp _ _ HR12.out).mono ?_); rintro e w13 ⟨rfl, hb⟩; have HR13 := Lib.hid (HR12.out.on hb); have HB13 := Lib.hid hb; clear hb)
    | (go_at_call 73; (with_reducible refine (CF _ HR11.out.b).mono ?_); rintro e w12 ⟨a6, n6, m6, rfl, ho, hb⟩; have HR12 := Lib.hid (HR11.out.on hb); have HB12 := Lib.hid hb; have HO12 := Lib.hid ho; clear hb ho)
    | (go_at_call 67; (with_reducible refine (GTf _ _ HR10.out).mono ?_); rintro e w11 ⟨rfl, hb⟩; have HR11 := Lib.hid (HR10.out.on hb); have HB11 := Lib.hid hb; clear hb)
    | (go_at_call 72; (with_reducible refine (WR _).mono ?_); rintro e w10 ⟨a5, n5, m5, rfl, ho, hb⟩; have HR10 := Lib.hid (HR9.out.on hb); have HB10 := Lib.hid hb; have HO10 := Lib.hid ho; clear hb ho)
    | (go_at_call 67; (with_reducible refine (GTr _ _ HR8.out).mono ?_); rintro e w9 ⟨rfl, hb⟩; have HR9 := Lib.hid (HR8.out.on hb); have HB9 := Lib.hid hb; clear hb)
    | (go_at_call 71; (with_reducible refine (ST _ HR7.out.b).mono ?_); rintro e w8 ⟨rfl, hb⟩; have HR8 := Lib.hid (HR7.out.on hb); have HB8 := Lib.hid hb; clear hb)
    | (go_at_call 67; (with_reducible refine (GTs _ _ HR6.out).mono ?_); rintro e w7 ⟨rfl, hb⟩; have HR7 := Lib.hid (HR6.out.on hb); have HB7 := Lib.hid hb; clear hb)
    | (go_at_call 67; (with_reducible refine (GTv _ _ HR5.out).mono ?_); rintro e w6 ⟨rfl, hb⟩; have HR6 := Lib.hid (HR5.out.on hb); have HB6 := Lib.hid hb; clear hb)
    | (go_at_call 67; (with_reducible refine (GTn _ _ HR4.out).mono ?_); rintro e w5 ⟨rfl, hb⟩; have HR5 := Lib.hid (HR4.out.on hb); have HB5 := Lib.hid hb; clear hb)
    | (go_at_call 70; (with_reducible refine (PL _ HR3.out.b).mono ?_); rintro e w4 ⟨a4, n4, m4, z4, rfl, ho, hb⟩; have HR4 := Lib.hid (HR3.out.on hb); have HB4 := Lib.hid hb; have HO4 := Lib.hid ho; clear hb ho)
    | (go_at_call 67; (with_reducible refine (GTc _ _ HR2.out).mono ?_); rintro e w3 ⟨rfl, hb⟩; have HR3 := Lib.hid (HR2.out.on hb); have HB3 := Lib.hid hb; clear hb)
    | (go_at_call 69; (with_reducible refine (PA _ HR1.out.b).mono ?_); rintro e w2 ⟨a3, n3, m3, z3, D, rfl, hD, ho, hb⟩; have HD := Lib.hid hD; clear hD; have HR2 := Lib.hid (HR1.out.on hb); have HB2 := Lib.hid hb; have HO2 := Lib.hid ho; clear hb ho)
    | (go_at_call 67; (with_reducible refine (GTd _ _ HR0.out).mono ?_); rintro e w1 ⟨rfl, hb⟩; have HR1 := Lib.hid (HR0.out.on hb); have HB1 := Lib.hid hb; clear hb))
  obtain ⟨k0, k1, k2, k3, k4, k5, k6, k7, k8⟩ := nine_cells (.string ⟨YN.toArray⟩) (.string ⟨YV.toArray⟩) (.int .i64 zst) (.slice a3 n3 m3) (.slice a4 n4 m4) (.slice a5 n5 m5) (.slice a6 n6 m6) (.slice a7 n7 m7) (.slice a8 n8 m8) HR16.out.h1
  have HBX := nine_below HR16.out.b (b := w.heap.size + 1) (by omega) (.string ⟨YN.toArray⟩) (.string ⟨YV.toArray⟩) (.int .i64 zst) (.slice a3 n3 m3) (.slice a4 n4 m4) (.slice a5 n5 m5) (.slice a6 n6 m6) (.slice a7 n7 m7) (.slice a8 n8 m8)
  have HGR := grownNine w16 (w.heap.size + 1) (.string ⟨YN.toArray⟩) (.string ⟨YV.toArray⟩) (.int .i64 zst) (.slice a3 n3 m3) (.slice a4 n4 m4) (.slice a5 n5 m5) (.slice a6 n6 m6) (.slice a7 n7 m7) (.slice a8 n8 m8)
  have K15 := HB16.out
  have K14 := HB15.out.trans (K15.mono HB15.out.size)
  have K13 := HB14.out.trans (K14.mono HB14.out.size)
  have K12 := HB13.out.trans (K13.mono HB13.out.size)
  have K11 := HB12.out.trans (K12.mono HB12.out.size)
  have K10 := HB11.out.trans (K11.mono HB11.out.size)
  have K9 := HB10.out.trans (K10.mono HB10.out.size)
  have K8 := HB9.out.trans (K9.mono HB9.out.size)
  have K7 := HB8.out.trans (K8.mono HB8.out.size)
  have K6 := HB7.out.trans (K7.mono HB7.out.size)
  have K5 := HB6.out.trans (K6.mono HB6.out.size)
  have K4 := HB5.out.trans (K5.mono HB5.out.size)
  have K3 := HB4.out.trans (K4.mono HB4.out.size)
  have K2 := HB3.out.trans (K3.mono HB3.out.size)
  have s0 := HB1.out.size
  have sz := hsz0.out
  have s1 := HB2.out.size
  have s2 := HB3.out.size
  have s3 := HB4.out.size
  have s4 := HB5.out.size
  have s5 := HB6.out.size
  have s6 := HB7.out.size
  have s7 := HB8.out.size
  have s8 := HB9.out.size
  have s9 := HB10.out.size
  have s10 := HB11.out.size
  have s11 := HB12.out.size
  have s12 := HB13.out.size
  have s13 := HB14.out.size
  have s14 := HB15.out.size
  have s15 := HB16.out.size
  have O2 := OwnGs.setU (OwnGs.on HO2.out K2) HGR (by omega)
  have O4 := OwnV.setU (OwnV.on HO4.out K4) HGR (by omega)
  have O10 := OwnT.setU (OwnT.onQ HO10.out K10) HGR (by omega)
  have O12 := OwnV.setU (OwnV.on HO12.out K12) HGR (by omega)
  have O14 := OwnT.setU (OwnT.onQ HO14.out K14) HGR (by omega)
  have O16 := OwnT.setU HO16.out HGR (by omega)
  have RO := HRES.out D (.slice a3 n3 m3) (.slice a4 n4 m4) (.slice a5 n5 m5) (.slice a6 n6 m6) (.slice a7 n7 m7) (.slice a8 n8 m8) HD.out
  clear HO2 HO4 HO10 HO12 HO14 HO16 HGR HRES PA PL ST WR WP WA CF GTd GTc GTn GTv GTs GTr GTf GTp GTa HR0
  have OR : OwnRec _ w.heap.size ⟨YN, YV, zst, D, CN, RP, CFL, PD, AW, .slice a3 n3 m3, .slice a4 n4 m4, .slice a5 n5 m5, .slice a6 n6 m6, .slice a7 n7 m7, .slice a8 n8 m8⟩ := ⟨OwnGs.mono O2 (by omega), OwnV.mono O4 (by omega), O10.mono (by omega), OwnV.mono O12 (by omega), O14.mono (by omega), O16.mono (by omega)⟩
  have RO2 := Lib.hid RO
  have OR2 := Lib.hid OR
  have HBX2 := Lib.hid HBX
  clear RO OR HBX O2 O4 O10 O12 O14 O16
  refine bodyPost_ret (v := .agg #[.string ⟨YN.toArray⟩, .string ⟨YV.toArray⟩, .int .i64 zst, .slice a3 n3 m3, .slice a4 n4 m4, .slice a5 n5 m5, .slice a6 n6 m6, .slice a7 n7 m7, .slice a8 n8 m8]) ?_ rfl ?_
  · simp [results, Tryz.results28, go_sem, k0, k1, k2, k3, k4, k5, k6, k7, k8]
  · exact ⟨⟨YN, YV, zst, D, CN, RP, CFL, PD, AW, .slice a3 n3 m3, .slice a4 n4 m4, .slice a5 n5 m5, .slice a6 n6 m6, .slice a7 n7 m7, .slice a8 n8 m8⟩, rfl, RO2.out, OR2.out, HBX2.out⟩
end Go.Proofs.YtkbkaeefdhkgdaaGreatDoor
