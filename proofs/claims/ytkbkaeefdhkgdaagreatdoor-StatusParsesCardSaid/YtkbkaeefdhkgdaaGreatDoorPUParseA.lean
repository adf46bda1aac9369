import Derived.Test.YtkbkaeefdhkgdaaGreatDoorPUConfsA
set_option maxRecDepth 100000
set_option maxHeartbeats 32000000
namespace Go.Proofs.YtkbkaeefdhkgdaaGreatDoor
section
open Go.RowKit Go.Shelf
def fT (f : List Fld) (n : Bs) : Bs := (getF f n).1
theorem fT_len (f : List Fld) (n : Bs) (k : Nat) (h : ∀ x ∈ f, x.2.length ≤ k) : (fT f n).length ≤ k := by
  unfold fT getF
  split
  · rename_i g hg
    exact h g (List.mem_of_find?_eq_some hg)
  · simp
structure FldFit (f : List Fld) : Prop where
  n : f.length ≤ 90000
  t : ∀ x ∈ f, x.1.length ≤ 90000 ∧ x.2.length ≤ 90000
  d : ∀ p ∈ Lib.splitN (fT f [68, 101, 112, 101, 110, 100, 115]) sepA 65, p.length ≤ 100000 ∧ ∀ q ∈ Lib.splitN p sepG 65, q.length ≤ 4000
  c : ∀ p ∈ Lib.splitN (fT f [67, 111, 110, 102, 108, 105, 99, 116, 115]) sepA 65, p.length ≤ 4000
structure RecOf (f : List Fld) (x : Uv) : Prop where
  nm : x.nm = fT f [80, 97, 99, 107, 97, 103, 101]
  vr : x.vr = fT f [86, 101, 114, 115, 105, 111, 110]
  st : x.st = stateU (fT f [83, 116, 97, 116, 117, 115])
  dp : fsts x.dp = (parseA (fT f [68, 101, 112, 101, 110, 100, 115])).getD []
  cn : x.cn = (parseQ (fT f [67, 111, 110, 102, 108, 105, 99, 116, 115])).getD []
  rp : x.rp = wordsL (fT f [82, 101, 112, 108, 97, 99, 101, 115])
  cf : x.cf = cfRead (fT f [67, 111, 110, 102, 102, 105, 108, 101, 115])
  pd : x.pd = wordsL (fT f [84, 114, 105, 103, 103, 101, 114, 115, 45, 80, 101, 110, 100, 105, 110, 103])
  aw : x.aw = wordsL (fT f [84, 114, 105, 103, 103, 101, 114, 115, 45, 65, 119, 97, 105, 116, 101, 100])
structure OwnRec (w : World) (B : Nat) (x : Uv) : Prop where
  dp : OwnGs w B x.dv x.dp
  cn : OwnQ w B x.cv x.cn
  rp : OwnT w B x.rv x.rp
  cf : OwnCf w B x.fv x.cf
  pd : OwnT w B x.pv x.pd
  aw : OwnT w B x.av x.aw
theorem OwnRec.ins {w : World} {B : Nat} {x : Uv} (h : OwnRec w B x) : InU w x := ⟨h.dp.holds, OwnV.holds h.cn, h.rp.holds, OwnV.holds h.cf, h.pd.holds, h.aw.holds⟩
theorem OwnRec.on {w w' : World} {B : Nat} {x : Uv} (h : OwnRec w B x) (hb : Below w.heap.size w w') : OwnRec w' B x := ⟨OwnGs.on h.dp hb, OwnV.on h.cn hb, OwnT.onQ h.rp hb, OwnV.on h.cf hb, OwnT.onQ h.pd hb, OwnT.onQ h.aw hb⟩
theorem OwnRec.mono {w : World} {B B' : Nat} {x : Uv} (h : OwnRec w B x) (hb : B' ≤ B) : OwnRec w B' x := ⟨OwnGs.mono h.dp hb, OwnV.mono h.cn hb, h.rp.mono hb, OwnV.mono h.cf hb, h.pd.mono hb, h.aw.mono hb⟩
theorem OwnRec.grow {w w' : World} {o : Obj} {B : Nat} {v : Value} {n : Nat} {xs : List Value} {x : Uv} (h : OwnRec w B x) (hv : w.ownsRow B 43 9 v n xs) (hg : (w.alloc o).grownBy w' v.ownBlock) : OwnRec w' B x :=
  ⟨⟨⟨h.dp.1.1, World.ownsRow.kept (World.ownsRow.alloc h.dp.1.2 o) hg (kinds_apart h.dp.1.2 hv (by decide))⟩, fun y hy => ⟨(h.dp.2 y hy).1, World.ownsRow.kept (World.ownsRow.alloc (h.dp.2 y hy).2 o) hg (kinds_apart (h.dp.2 y hy).2 hv (by decide))⟩⟩,
   ⟨h.cn.1, World.ownsRow.kept (World.ownsRow.alloc h.cn.2 o) hg (kinds_apart h.cn.2 hv (by decide))⟩,
   World.ownsRow.kept (World.ownsRow.alloc h.rp o) hg (kinds_apart h.rp hv (by decide)),
   ⟨h.cf.1, World.ownsRow.kept (World.ownsRow.alloc h.cf.2 o) hg (kinds_apart h.cf.2 hv (by decide))⟩,
   World.ownsRow.kept (World.ownsRow.alloc h.pd o) hg (kinds_apart h.pd hv (by decide)),
   World.ownsRow.kept (World.ownsRow.alloc h.aw o) hg (kinds_apart h.aw hv (by decide))⟩
theorem grownSetU (W : World) (p : Addr) (v : Value) : W.grownBy (W.setCell p v) (some p.block) := ⟨rfl, rfl, rfl, (KeepsWalks.setCell W _ v).size, fun k _ hk => Below.heap_setCell _ _ _ k (fun e => hk (by rw [e]))⟩
theorem grownNine (W : World) (b : Nat) (u0 u1 u2 u3 u4 u5 u6 u7 u8 : Value) : W.grownBy (nine W b u0 u1 u2 u3 u4 u5 u6 u7 u8) (some b) :=
  ((((((((grownSetU W ⟨b, 0, none⟩ u0).trans (grownSetU _ ⟨b, 1, none⟩ u1)).trans (grownSetU _ ⟨b, 2, none⟩ u2)).trans (grownSetU _ ⟨b, 3, none⟩ u3)).trans (grownSetU _ ⟨b, 4, none⟩ u4)).trans (grownSetU _ ⟨b, 5, none⟩ u5)).trans (grownSetU _ ⟨b, 6, none⟩ u6)).trans (grownSetU _ ⟨b, 7, none⟩ u7)).trans (grownSetU _ ⟨b, 8, none⟩ u8)
theorem OwnV.setU {T : TypeId} {k : Nat} {w w' : World} {base b : Nat} {v : Value} {rows : List Rw} (h : OwnV T k w base v rows) (hg : w.grownBy w' (some b)) (hb : b < base) : OwnV T k w' base v rows :=
  ⟨h.1, World.ownsRow.kept h.2 hg (.inr (fun e => by have := (World.ownsRow.lt h.2 b e).1; omega))⟩
theorem OwnT.setU {w w' : World} {base b : Nat} {v : Value} {l : List Bs} (h : OwnT w base v l) (hg : w.grownBy w' (some b)) (hb : b < base) : OwnT w' base v l :=
  World.ownsRow.kept h hg (.inr (fun e => by have := (World.ownsRow.lt h b e).1; omega))
theorem OwnGs.setU {w w' : World} {base b : Nat} {v : Value} {L : List Gv} (h : OwnGs w base v L) (hg : w.grownBy w' (some b)) (hb : b < base) : OwnGs w' base v L :=
  ⟨OwnV.setU h.1 hg hb, fun x hx => OwnV.setU (h.2 x hx) hg hb⟩
theorem getG (N : ByteArray) (f : List Fld) (hN : N.size ≤ 90000) (hf : f.length ≤ 90000) (ht : ∀ x ∈ f, x.1.length ≤ 90000 ∧ x.2.length ≤ 90000) {w W : World} {v : Value} {cs : Array Value} (h : Rb w W v cs) (hv : HoldR 2 w v (f.map rowF)) : Calls Tryz.prog 67 #[.string N, .pointer (some ⟨w.heap.size, 0, none⟩)] W fun e w' => e = .returned (.string ⟨(fT f N.data.toList).toArray⟩) ∧ Below W.heap.size W w' := by
  have C := getV_any v f N hf ht hN W (hv.on h.b)
  unfold GetVPost at C
  have hfT : (getF f N.data.toList).1 = fT f N.data.toList := rfl
  rw [hfT] at C
  have c0 := cell_heap (i := 0) h.h0 rfl
  obtain ⟨a, c, b, o, e, hc, ha, hcell⟩ := hv
  subst e
  clear hc ha hcell h hfT
  generalize (getF f N.data.toList).2 = q at *
  generalize (f.map rowF).length = n at *
  generalize fT f N.data.toList = T at *
  go_enter Tryz.func67, Tryz.ntmps67
  go_wp2_with (go_at_call 68; (with_reducible refine C.mono ?_); rintro e w1 ⟨rfl, hb⟩; have HB := Lib.hid hb; clear hb)
  go_ret
  exact ⟨rfl, HB.out⟩
theorem parseAG (s : ByteArray) (hs : s.size ≤ 100000) (hp : ∀ p ∈ Lib.splitN s.data.toList sepA 65, p.length ≤ 100000 ∧ ∀ q ∈ Lib.splitN p sepG 65, q.length ≤ 4000) (w : World) (hL : LaidQ w) : Calls Tryz.prog 69 #[.string s] w fun e w' => ∃ a n c z L, e = .returned (.tuple #[.slice a n c, .int .i64 z]) ∧ fsts L = (parseA s.data.toList).getD [] ∧ OwnGs w' w.heap.size (.slice a n c) L ∧ Below w.heap.size w w' := by
  refine (parseAllQ_any s hs hp w hL).mono fun e w' h => ?_
  unfold CutPostG at h
  cases hpa : parseA s.data.toList with
  | none =>
    rw [hpa] at h
    exact ⟨none, 0, 0, 2, [], h.1, rfl, OwnGs.nil _ _, h.2⟩
  | some l =>
    rw [hpa] at h
    obtain ⟨⟨v, L, he, hl, ho⟩, hb⟩ := h
    obtain ⟨a, c, e'⟩ := OwnV.form ho.1
    exact ⟨a, _, c, 0, L, by rw [he, e'], hl, by rw [← e']; exact ho, hb⟩
theorem parseQG (s : ByteArray) (hs : s.size ≤ 100000) (hp : ∀ p ∈ Lib.splitN s.data.toList sepA 65, p.length ≤ 4000) (w : World) (hL : LaidQ w) : Calls Tryz.prog 70 #[.string s] w fun e w' => ∃ a n c z, e = .returned (.tuple #[.slice a n c, .int .i64 z]) ∧ OwnQ w' w.heap.size (.slice a n c) ((parseQ s.data.toList).getD []) ∧ Below w.heap.size w w' := by
  refine (parseListQ_any s hs hp w hL).mono fun e w' h => ?_
  unfold CutPost at h
  cases hpa : parseQ s.data.toList with
  | none =>
    rw [hpa] at h
    exact ⟨none, 0, 0, 2, h.1, OwnV.nil _ _ _ _, h.2⟩
  | some l =>
    rw [hpa] at h
    obtain ⟨⟨v, he, ho⟩, hb⟩ := h
    obtain ⟨a, c, e'⟩ := OwnV.form ho
    exact ⟨a, _, c, 0, by rw [he, e'], by rw [← e']; exact ho, hb⟩
theorem wordsG (s : ByteArray) (hs : s.size ≤ 90000) (w : World) : Calls Tryz.prog 72 #[.string s] w fun e w' => ∃ a n c, e = .returned (.slice a n c) ∧ OwnT w' w.heap.size (.slice a n c) (wordsL s.data.toList) ∧ Below w.heap.size w w' := by
  refine (pwords_any s hs w).mono fun e w' h => ?_
  obtain ⟨v, he, ho, hb⟩ := h
  obtain ⟨a, n, c, e'⟩ := ho.form
  exact ⟨a, n, c, by rw [he, e'], by rw [← e']; exact ho, hb⟩
theorem confsG (s : ByteArray) (hs : s.size ≤ 90000) (w : World) (hL : LaidU w) : Calls Tryz.prog 73 #[.string s] w fun e w' => ∃ a n c, e = .returned (.slice a n c) ∧ OwnCf w' w.heap.size (.slice a n c) (cfRead s.data.toList) ∧ Below w.heap.size w w' := by
  refine (confs_any s hs w hL).mono fun e w' h => ?_
  obtain ⟨v, he, ho, hb⟩ := h
  obtain ⟨a, c, e'⟩ := OwnV.form ho
  exact ⟨a, _, c, by rw [he, e'], by rw [← e']; exact ho, hb⟩
theorem record_any (v : Value) (f : List Fld) (hf : FldFit f) (w : World) (hL : LaidU w) (hv : HoldR 2 w v (f.map rowF)) : Calls Tryz.prog 28 #[v] w fun e w' => ∃ x : Uv, e = .returned (agU x) ∧ RecOf f x ∧ OwnRec w' w.heap.size x ∧ Below w.heap.size w w' := by
  have hvf : ∃ a n c, v = .slice a n c := by obtain ⟨a, c, b, o, e, _⟩ := hv; exact ⟨_, _, _, e⟩
  obtain ⟨va, vn, vc, rfl⟩ := hvf
  have HR0 := Lib.hid (Rb.new w (.slice va vn vc) #[.string ⟨#[]⟩, .string ⟨#[]⟩, .int .i64 0, .slice none 0 0, .slice none 0 0, .slice none 0 0, .slice none 0 0, .slice none 0 0, .slice none 0 0])
  have hsz0 : ((w.alloc (.cells #[.slice va vn vc] 51)).alloc (.cells #[.string ⟨#[]⟩, .string ⟨#[]⟩, .int .i64 0, .slice none 0 0, .slice none 0 0, .slice none 0 0, .slice none 0 0, .slice none 0 0, .slice none 0 0] 43)).heap.size = w.heap.size + 2 := by simp
  have lenF : ∀ n, (fT f n).length ≤ 90000 := fun n => fT_len f n _ (fun x hx => (hf.t x hx).2)
  obtain ⟨Td, hTd⟩ : ∃ T : ByteArray, (⟨(fT f [68, 101, 112, 101, 110, 100, 115]).toArray⟩ : ByteArray) = T := ⟨_, rfl⟩
  have ld : fT f [68, 101, 112, 101, 110, 100, 115] = Td.data.toList := by rw [← hTd]
  have zd : Td.size ≤ 90000 := by rw [sizeOf, ← ld]; exact lenF _
  have GTd := fun (W : World) (cs : Array Value) (h : Rb w W (.slice va vn vc) cs) => getG ⟨#[68, 101, 112, 101, 110, 100, 115]⟩ f (by decide) hf.n hf.t h hv
  rw [show (ByteArray.mk #[68, 101, 112, 101, 110, 100, 115]).data.toList = [68, 101, 112, 101, 110, 100, 115] from rfl, hTd] at GTd
  obtain ⟨Tc, hTc⟩ : ∃ T : ByteArray, (⟨(fT f [67, 111, 110, 102, 108, 105, 99, 116, 115]).toArray⟩ : ByteArray) = T := ⟨_, rfl⟩
  have lc : fT f [67, 111, 110, 102, 108, 105, 99, 116, 115] = Tc.data.toList := by rw [← hTc]
  have zc : Tc.size ≤ 90000 := by rw [sizeOf, ← lc]; exact lenF _
  have GTc := fun (W : World) (cs : Array Value) (h : Rb w W (.slice va vn vc) cs) => getG ⟨#[67, 111, 110, 102, 108, 105, 99, 116, 115]⟩ f (by decide) hf.n hf.t h hv
  rw [show (ByteArray.mk #[67, 111, 110, 102, 108, 105, 99, 116, 115]).data.toList = [67, 111, 110, 102, 108, 105, 99, 116, 115] from rfl, hTc] at GTc
  obtain ⟨YN, ln⟩ : ∃ l : Bs, fT f [80, 97, 99, 107, 97, 103, 101] = l := ⟨_, rfl⟩
  have GTn := fun (W : World) (cs : Array Value) (h : Rb w W (.slice va vn vc) cs) => getG ⟨#[80, 97, 99, 107, 97, 103, 101]⟩ f (by decide) hf.n hf.t h hv
  rw [show (ByteArray.mk #[80, 97, 99, 107, 97, 103, 101]).data.toList = [80, 97, 99, 107, 97, 103, 101] from rfl, ln] at GTn
  obtain ⟨YV, lv⟩ : ∃ l : Bs, fT f [86, 101, 114, 115, 105, 111, 110] = l := ⟨_, rfl⟩
  have GTv := fun (W : World) (cs : Array Value) (h : Rb w W (.slice va vn vc) cs) => getG ⟨#[86, 101, 114, 115, 105, 111, 110]⟩ f (by decide) hf.n hf.t h hv
  rw [show (ByteArray.mk #[86, 101, 114, 115, 105, 111, 110]).data.toList = [86, 101, 114, 115, 105, 111, 110] from rfl, lv] at GTv
  obtain ⟨Ts, hTs⟩ : ∃ T : ByteArray, (⟨(fT f [83, 116, 97, 116, 117, 115]).toArray⟩ : ByteArray) = T := ⟨_, rfl⟩
  have ls : fT f [83, 116, 97, 116, 117, 115] = Ts.data.toList := by rw [← hTs]
  have zs : Ts.size ≤ 90000 := by rw [sizeOf, ← ls]; exact lenF _
  have GTs := fun (W : World) (cs : Array Value) (h : Rb w W (.slice va vn vc) cs) => getG ⟨#[83, 116, 97, 116, 117, 115]⟩ f (by decide) hf.n hf.t h hv
  rw [show (ByteArray.mk #[83, 116, 97, 116, 117, 115]).data.toList = [83, 116, 97, 116, 117, 115] from rfl, hTs] at GTs
  obtain ⟨Tr, hTr⟩ : ∃ T : ByteArray, (⟨(fT f [82, 101, 112, 108, 97, 99, 101, 115]).toArray⟩ : ByteArray) = T := ⟨_, rfl⟩
  have lr : fT f [82, 101, 112, 108, 97, 99, 101, 115] = Tr.data.toList := by rw [← hTr]
  have zr : Tr.size ≤ 90000 := by rw [sizeOf, ← lr]; exact lenF _
  have GTr := fun (W : World) (cs : Array Value) (h : Rb w W (.slice va vn vc) cs) => getG ⟨#[82, 101, 112, 108, 97, 99, 101, 115]⟩ f (by decide) hf.n hf.t h hv
  rw [show (ByteArray.mk #[82, 101, 112, 108, 97, 99, 101, 115]).data.toList = [82, 101, 112, 108, 97, 99, 101, 115] from rfl, hTr] at GTr
  obtain ⟨Tf, hTf⟩ : ∃ T : ByteArray, (⟨(fT f [67, 111, 110, 102, 102, 105, 108, 101, 115]).toArray⟩ : ByteArray) = T := ⟨_, rfl⟩
  have lf : fT f [67, 111, 110, 102, 102, 105, 108, 101, 115] = Tf.data.toList := by rw [← hTf]
  have zf : Tf.size ≤ 90000 := by rw [sizeOf, ← lf]; exact lenF _
  have GTf := fun (W : World) (cs : Array Value) (h : Rb w W (.slice va vn vc) cs) => getG ⟨#[67, 111, 110, 102, 102, 105, 108, 101, 115]⟩ f (by decide) hf.n hf.t h hv
  rw [show (ByteArray.mk #[67, 111, 110, 102, 102, 105, 108, 101, 115]).data.toList = [67, 111, 110, 102, 102, 105, 108, 101, 115] from rfl, hTf] at GTf
  obtain ⟨Tp, hTp⟩ : ∃ T : ByteArray, (⟨(fT f [84, 114, 105, 103, 103, 101, 114, 115, 45, 80, 101, 110, 100, 105, 110, 103]).toArray⟩ : ByteArray) = T := ⟨_, rfl⟩
  have lp : fT f [84, 114, 105, 103, 103, 101, 114, 115, 45, 80, 101, 110, 100, 105, 110, 103] = Tp.data.toList := by rw [← hTp]
  have zp : Tp.size ≤ 90000 := by rw [sizeOf, ← lp]; exact lenF _
  have GTp := fun (W : World) (cs : Array Value) (h : Rb w W (.slice va vn vc) cs) => getG ⟨#[84, 114, 105, 103, 103, 101, 114, 115, 45, 80, 101, 110, 100, 105, 110, 103]⟩ f (by decide) hf.n hf.t h hv
  rw [show (ByteArray.mk #[84, 114, 105, 103, 103, 101, 114, 115, 45, 80, 101, 110, 100, 105, 110, 103]).data.toList = [84, 114, 105, 103, 103, 101, 114, 115, 45, 80, 101, 110, 100, 105, 110, 103] from rfl, hTp] at GTp
  obtain ⟨Ta, hTa⟩ : ∃ T : ByteArray, (⟨(fT f [84, 114, 105, 103, 103, 101, 114, 115, 45, 65, 119, 97, 105, 116, 101, 100]).toArray⟩ : ByteArray) = T := ⟨_, rfl⟩
  have la : fT f [84, 114, 105, 103, 103, 101, 114, 115, 45, 65, 119, 97, 105, 116, 101, 100] = Ta.data.toList := by rw [← hTa]
  have za : Ta.size ≤ 90000 := by rw [sizeOf, ← la]; exact lenF _
  have GTa := fun (W : World) (cs : Array Value) (h : Rb w W (.slice va vn vc) cs) => getG ⟨#[84, 114, 105, 103, 103, 101, 114, 115, 45, 65, 119, 97, 105, 116, 101, 100]⟩ f (by decide) hf.n hf.t h hv
  rw [show (ByteArray.mk #[84, 114, 105, 103, 103, 101, 114, 115, 45, 65, 119, 97, 105, 116, 101, 100]).data.toList = [84, 114, 105, 103, 103, 101, 114, 115, 45, 65, 119, 97, 105, 116, 101, 100] from rfl, hTa] at GTa
  have PA := fun W (hb : Below w.heap.size w W) => parseAG Td (by omega) (by rw [← ld]; exact hf.d) W (hL.on hb).q
  have PL := fun W (hb : Below w.heap.size w W) => parseQG Tc (by omega) (by rw [← lc]; exact hf.c) W (hL.on hb).q
  have ST := fun W (hb : Below w.heap.size w W) => state_any Ts W (hL.on hb)
  have WR := fun W => wordsG Tr zr W
  have WP := fun W => wordsG Tp zp W
  have WA := fun W => wordsG Ta za W
  have CF := fun W (hb : Below w.heap.size w W) => confsG Tf zf W (hL.on hb)
  have HRES : Hid (∀ (D : List Gv) (v3 v4 v5 v6 v7 v8 : Value), fsts D = (parseA Td.data.toList).getD [] → RecOf f ⟨YN, YV, stateU Ts.data.toList, D, (parseQ Tc.data.toList).getD [], wordsL Tr.data.toList, cfRead Tf.data.toList, wordsL Tp.data.toList, wordsL Ta.data.toList, v3, v4, v5, v6, v7, v8⟩) := Lib.hid (fun D v3 v4 v5 v6 v7 v8 h => ⟨ln.symm, lv.symm, by rw [ls], by rw [ld]; exact h, by rw [lc], by rw [lr], by rw [lf], by rw [lp], by rw [la]⟩)
  generalize (parseQ Tc.data.toList).getD [] = CN at *
  generalize stateU Ts.data.toList = zst at *
  generalize wordsL Tr.data.toList = RP at *
  generalize wordsL Tp.data.toList = PD at *
  generalize wordsL Ta.data.toList = AW at *
  generalize cfRead Tf.data.toList = CFL at *
  generalize (parseA Td.data.toList).getD [] = DD at *
  clear hL hv lenF hf hTd ld zd hTc lc zc ln lv hTs ls zs hTr lr zr hTf lf zf hTp lp zp hTa la za
  have hsz0 := Lib.hid hsz0
  go_enter Tryz.func28, Tryz.ntmps28
  go_wp2_with (first
    | (go_at_call 72; (with_reducible refine (WA _).mono ?_); rintro e w16 ⟨a8, n8, m8, rfl, ho, hb⟩; have HR16 := Lib.hid (HR15.out.on hb); have HB16 := Lib.hid hb; have HO16 := Lib.hid ho; clear hb ho; have r0 := cell_heap (i := 0) HR16.out.h1 rfl; have g0 := frozen_of_row _ _ 0 _ _ HR16.out.h1; have r1 := cell_heap (i := 1) HR16.out.h1 rfl; have g1 := frozen_of_row _ _ 1 _ _ HR16.out.h1; have r2 := cell_heap (i := 2) HR16.out.h1 rfl; have g2 := frozen_of_row _ _ 2 _ _ HR16.out.h1; have r3 := cell_heap (i := 3) HR16.out.h1 rfl; have g3 := frozen_of_row _ _ 3 _ _ HR16.out.h1; have r4 := cell_heap (i := 4) HR16.out.h1 rfl; have g4 := frozen_of_row _ _ 4 _ _ HR16.out.h1; have r5 := cell_heap (i := 5) HR16.out.h1 rfl; have g5 := frozen_of_row _ _ 5 _ _ HR16.out.h1; have r6 := cell_heap (i := 6) HR16.out.h1 rfl; have g6 := frozen_of_row _ _ 6 _ _ HR16.out.h1; have r7 := cell_heap (i := 7) HR16.out.h1 rfl; have g7 := frozen_of_row _ _ 7 _ _ HR16.out.h1; have r8 := cell_heap (i := 8) HR16.out.h1 rfl; have g8 := frozen_of_row _ _ 8 _ _ HR16.out.h1)
    | (go_at_call 67; (with_reducible refine (GTa _ _ HR14.out).mono ?_); rintro e w15 ⟨rfl, hb⟩; have HR15 := Lib.hid (HR14.out.on hb); have HB15 := Lib.hid hb; clear hb)
    | (go_at_call 72; (with_reducible refine (WP _).mono ?_); rintro e w14 ⟨a7, n7, m7, rfl, ho, hb⟩; have HR14 := Lib.hid (HR13.out.on hb); have HB14 := Lib.hid hb; have HO14 := Lib.hid ho; clear hb ho)
    | (go_at_call 67; (with_reducible refine (GTp _ _ HR12.out).mono ?_); rintro e w13 ⟨rfl, hb⟩; have HR13 := Lib.hid (HR12.out.on hb); have HB13 := Lib.hid hb; clear hb)
    | (go_at_call 73; (with_reducible refine (CF _ HR11.out.b).mono ?_); rintro e w12 ⟨a6, n6, m6, rfl, ho, hb⟩; have HR12 := Lib.hid (HR11.out.on hb); have HB12 := Lib.hid hb; have HO12 := Lib.hid ho; clear hb ho)
    | (go_at_call 67; (with_reducible refine (GTf _ _ HR10.out).mono ?_); rintro e w11 ⟨rfl, hb⟩; have HR11 := Lib.hid (HR10.out.on hb); have HB11 := Lib.hid hb; clear hb)
    | (go_at_call 72; (with_reducible refine (WR _).mono ?_); rintro e w10 ⟨a5, n5, m5, rfl, ho, hb⟩; have HR10 := Lib.hid (HR9.out.on hb); have HB10 := Lib.hid hb; have HO10 := Lib.hid ho; clear hb ho)
    | (go_at_call 67; (with_reducible refine (GTr _ _ HR8.out).mono ?_); rintro e w9 ⟨rfl, hb⟩; have HR9 := Lib.hid (HR8.out.on hb); have HB9 := Lib.hid hb; clear hb)
    | (go_at_call 71; (with_reducible refine (ST _ HR7.out.b).mono ?_); rintro e w8 ⟨rfl, hb⟩; have HR8 := Lib.hid (HR7.out.on hb); have HB8 := Lib.hid hb; clear hb)
    | (go_at_call 67; (with_reducible refine (GTs _ _ HR6.out).mono ?_); rintro e w7 ⟨rfl, hb⟩; have HR7 := Lib.hid (HR6.out.on hb); have HB7 := Lib.hid hb; clear hb)
    | (go_at_call 67; (with_reducible refine (GTv _ _ HR5.out).mono ?_); rintro e w6 ⟨rfl, hb⟩; have HR6 := Lib.hid (HR5.out.on hb); have HB6 := Lib.hid hb; clear hb)
    | (go_at_call 67; (with_reducible refine (GTn _ _ HR4.out).mono ?_); rintro e w5 ⟨rfl, hb⟩; have HR5 := Lib.hid (HR4.out.on hb); have HB5 := Lib.hid hb; clear hb)
    | (go_at_call 70; (with_reducible refine (PL _ HR3.out.b).mono ?_); rintro e w4 ⟨a4, n4, m4, z4, rfl, ho, hb⟩; have HR4 := Lib.hid (HR3.out.on hb); have HB4 := Lib.hid hb; have HO4 := Lib.hid ho; clear hb ho)
    | (go_at_call 67; (with_reducible refine (GTc _ _ HR2.out).mono ?_); rintro e w3 ⟨rfl, hb⟩; have HR3 := Lib.hid (HR2.out.on hb); have HB3 := Lib.hid hb; clear hb)
    | (go_at_call 69; (with_reducible refine (PA _ HR1.out.b).mono ?_); rintro e w2 ⟨a3, n3, m3, z3, D, rfl, hD, ho, hb⟩; have HD := Lib.hid hD; clear hD; have HR2 := Lib.hid (HR1.out.on hb); have HB2 := Lib.hid hb; have HO2 := Lib.hid ho; clear hb ho)
    | (go_at_call 67; (with_reducible refine (GTd _ _ HR0.out).mono ?_); rintro e w1 ⟨rfl, hb⟩; have HR1 := Lib.hid (HR0.out.on hb); have HB1 := Lib.hid hb; clear hb))
  obtain ⟨k0, k1, k2, k3, k4, k5, k6, k7, k8⟩ := nine_cells (.string ⟨YN.toArray⟩) (.string ⟨YV.toArray⟩) (.int .i64 zst) (.slice a3 n3 m3) (.slice a4 n4 m4) (.slice a5 n5 m5) (.slice a6 n6 m6) (.slice a7 n7 m7) (.slice a8 n8 m8) HR16.out.h1
  have HBX := nine_below HR16.out.b (b := w.heap.size + 1) (by omega) (.string ⟨YN.toArray⟩) (.string ⟨YV.toArray⟩) (.int .i64 zst) (.slice a3 n3 m3) (.slice a4 n4 m4) (.slice a5 n5 m5) (.slice a6 n6 m6) (.slice a7 n7 m7) (.slice a8 n8 m8)
  have HGR := grownNine w16 (w.heap.size + 1) (.string ⟨YN.toArray⟩) (.string ⟨YV.toArray⟩) (.int .i64 zst) (.slice a3 n3 m3) (.slice a4 n4 m4) (.slice a5 n5 m5) (.slice a6 n6 m6) (.slice a7 n7 m7) (.slice a8 n8 m8)
  have K15 := HB16.out
  have K14 := HB15.out.trans (K15.mono HB15.out.size)
  have K13 := HB14.out.trans (K14.mono HB14.out.size)
  have K12 := HB13.out.trans (K13.mono HB13.out.size)
  have K11 := HB12.out.trans (K12.mono HB12.out.size)
  have K10 := HB11.out.trans (K11.mono HB11.out.size)
  have K9 := HB10.out.trans (K10.mono HB10.out.size)
  have K8 := HB9.out.trans (K9.mono HB9.out.size)
  have K7 := HB8.out.trans (K8.mono HB8.out.size)
  have K6 := HB7.out.trans (K7.mono HB7.out.size)
  have K5 := HB6.out.trans (K6.mono HB6.out.size)
  have K4 := HB5.out.trans (K5.mono HB5.out.size)
  have K3 := HB4.out.trans (K4.mono HB4.out.size)
  have K2 := HB3.out.trans (K3.mono HB3.out.size)
  have s0 := HB1.out.size
  have sz := hsz0.out
  have s1 := HB2.out.size
  have s2 := HB3.out.size
  have s3 := HB4.out.size
  have s4 := HB5.out.size
  have s5 := HB6.out.size
  have s6 := HB7.out.size
  have s7 := HB8.out.size
  have s8 := HB9.out.size
  have s9 := HB10.out.size
  have s10 := HB11.out.size
  have s11 := HB12.out.size
  have s12 := HB13.out.size
  have s13 := HB14.out.size
  have s14 := HB15.out.size
  have s15 := HB16.out.size
  have O2 := OwnGs.setU (OwnGs.on HO2.out K2) HGR (by omega)
  have O4 := OwnV.setU (OwnV.on HO4.out K4) HGR (by omega)
  have O10 := OwnT.setU (OwnT.onQ HO10.out K10) HGR (by omega)
  have O12 := OwnV.setU (OwnV.on HO12.out K12) HGR (by omega)
  have O14 := OwnT.setU (OwnT.onQ HO14.out K14) HGR (by omega)
  have O16 := OwnT.setU HO16.out HGR (by omega)
  have RO := HRES.out D (.slice a3 n3 m3) (.slice a4 n4 m4) (.slice a5 n5 m5) (.slice a6 n6 m6) (.slice a7 n7 m7) (.slice a8 n8 m8) HD.out
  clear HO2 HO4 HO10 HO12 HO14 HO16 HGR HRES PA PL ST WR WP WA CF GTd GTc GTn GTv GTs GTr GTf GTp GTa HR0
  have OR : OwnRec _ w.heap.size ⟨YN, YV, zst, D, CN, RP, CFL, PD, AW, .slice a3 n3 m3, .slice a4 n4 m4, .slice a5 n5 m5, .slice a6 n6 m6, .slice a7 n7 m7, .slice a8 n8 m8⟩ := ⟨OwnGs.mono O2 (by omega), OwnV.mono O4 (by omega), O10.mono (by omega), OwnV.mono O12 (by omega), O14.mono (by omega), O16.mono (by omega)⟩
  have RO2 := Lib.hid RO
  have OR2 := Lib.hid OR
  have HBX2 := Lib.hid HBX
  clear RO OR HBX O2 O4 O10 O12 O14 O16
  refine bodyPost_ret (v := .agg #[.string ⟨YN.toArray⟩, .string ⟨YV.toArray⟩, .int .i64 zst, .slice a3 n3 m3, .slice a4 n4 m4, .slice a5 n5 m5, .slice a6 n6 m6, .slice a7 n7 m7, .slice a8 n8 m8]) ?_ rfl ?_
  · simp [results, Tryz.results28, go_sem, k0, k1, k2, k3, k4, k5, k6, k7, k8]
  · exact ⟨⟨YN, YV, zst, D, CN, RP, CFL, PD, AW, .slice a3 n3 m3, .slice a4 n4 m4, .slice a5 n5 m5, .slice a6 n6 m6, .slice a7 n7 m7, .slice a8 n8 m8⟩, rfl, RO2.out, OR2.out, HBX2.out⟩
end
section
open Go.RowKit Go.Shelf
def RecsOf (fs : List (List Fld)) (L : List Uv) : Prop := L.length = fs.length ∧ ∀ (k : Nat) f x, fs[k]? = some f → L[k]? = some x → RecOf f x
theorem RecsOf.nil : RecsOf [] [] := ⟨rfl, fun k f x h => by simp at h⟩
theorem RecsOf.app {fs : List (List Fld)} {L : List Uv} {f : List Fld} {x : Uv} (h : RecsOf fs L) (hx : RecOf f x) : RecsOf (fs ++ [f]) (L ++ [x]) := by
  refine ⟨by simp [h.1], fun k g y h1 h2 => ?_⟩
  by_cases hk : k < fs.length
  · rw [List.getElem?_append_left hk] at h1
    rw [List.getElem?_append_left (by rw [h.1]; exact hk)] at h2
    exact h.2 k g y h1 h2
  · rw [List.getElem?_append_right (by omega)] at h1
    rw [List.getElem?_append_right (by rw [h.1]; omega), h.1] at h2
    match hj : k - fs.length with
    | 0 => rw [hj] at h1 h2; simp at h1 h2; subst h1; subst h2; exact hx
    | j + 1 => rw [hj] at h1; simp at h1
def OwnRecs (w : World) (B : Nat) (v : Value) (L : List Uv) : Prop := OwnV 43 9 w B v (L.map cellsU) ∧ ∀ x ∈ L, OwnRec w B x
theorem OwnRecs.nil (w : World) (B : Nat) : OwnRecs w B (.slice none 0 0) [] := ⟨OwnV.nil _ _ _ _, fun x hx => by simp at hx⟩
theorem OwnRecs.on {w w' : World} {B : Nat} {v : Value} {L : List Uv} (h : OwnRecs w B v L) (hb : Below w.heap.size w w') : OwnRecs w' B v L := ⟨OwnV.on h.1 hb, fun x hx => (h.2 x hx).on hb⟩
theorem OwnRecs.holds {w : World} {B : Nat} {v : Value} {L : List Uv} (h : OwnRecs w B v L) : HoldU w v L := ⟨OwnV.holds h.1, fun x hx => (h.2 x hx).ins⟩
theorem OwnRecs.app {w w' : World} {o : Obj} {B : Nat} {v v' : Value} {L : List Uv} {x : Uv} (h : OwnRecs w B v L) (hx : OwnRec w B x) (hown : w'.ownsRow B 43 9 v' ((L.map cellsU).length + 1) ((L.map cellsU).flatten ++ cellsU x)) (hg : (w.alloc o).grownBy w' v.ownBlock) : OwnRecs w' B v' (L ++ [x]) := by
  refine ⟨?_, fun y hy => ?_⟩
  · rw [List.map_append]
    exact OwnV.app h.1.1 rfl hown
  · rcases List.mem_append.1 hy with e | e
    · exact (h.2 y e).grow h.1.2 hg
    · rw [List.mem_singleton.1 e]; exact hx.grow h.1.2 hg
def ParseUPost (s : Bs) (w : World) (e : Ending) (w' : World) : Prop := Below w.heap.size w w' ∧
  ((parseS s = none ∧ e = .returned (.tuple #[.slice none 0 0, .int .i64 2])) ∨
   ∃ fs L, parseS s = some fs ∧ RecsOf fs L ∧ ((printUE L = (s, 0) ∧ ∃ v, e = .returned (.tuple #[v, .int .i64 0]) ∧ HoldU w' v L) ∨ (printUE L ≠ (s, 0) ∧ e = .returned (.tuple #[.slice none 0 0, .int .i64 2]))))
structure FsFit (fs : List (List Fld)) : Prop where
  n : fs.length ≤ 90000
  f : ∀ f ∈ fs, FldFit f
  s : ∀ f ∈ fs, ∀ x, RecOf f x → SmallU x
  p : ∀ L, RecsOf fs L → kchkK rightU (fun x => x.nm) L = 0 → Small (L.map fieldsU) 90000
theorem RecsOf.small {fs : List (List Fld)} {L : List Uv} (h : RecsOf fs L) (hf : FsFit fs) : ∀ x ∈ L, SmallU x := fun x hx => by
  obtain ⟨k, hk, rfl⟩ := List.mem_iff_getElem.1 hx
  have hk2 : k < fs.length := by rw [← h.1]; exact hk
  exact hf.s _ (List.getElem_mem hk2) _ (h.2 k _ _ (List.getElem?_eq_getElem hk2) (List.getElem?_eq_getElem hk))
theorem parseU_any (s : ByteArray) (hs : s.size ≤ 20000) (hfit : ∀ fs, parseS s.data.toList = some fs → FsFit fs) (w : World) (hL : LaidU w) (hE : LaidE w) : Calls Tryz.prog 11 #[.string s] w (ParseUPost s.data.toList w) := by
  have SP := sparse_post s hs w
  unfold SParsePost at SP
  cases hps : parseS s.data.toList with
  | none =>
    have SP2 : Calls Tryz.prog 27 #[.string s] w fun e w' => (∃ a n c, e = .returned (.tuple #[.slice a n c, .int .i64 2])) ∧ Below w.heap.size w w' := SP.mono fun e w' h => by
      obtain ⟨v, z, he, -, h2, hb⟩ := h
      obtain ⟨hz, hh⟩ := h2 hps
      obtain ⟨a, c, b, o, e', _⟩ := hh
      exact ⟨⟨a, _, c, by rw [he, hz, e']⟩, hb⟩
    have HP : Hid (∀ w', Below w.heap.size w w' → ParseUPost s.data.toList w (.returned (.tuple #[.slice none 0 0, .int .i64 2])) w') := Lib.hid (fun w' hb => ⟨hb, .inl ⟨hps, rfl⟩⟩)
    clear SP hps hfit hL hE
    go_enter Tryz.func11, Tryz.ntmps11
    go_wp2_with (go_at_call 27; (with_reducible refine SP2.mono ?_); rintro e w1 ⟨⟨a, n, c, rfl⟩, hb⟩; have HB1 := Lib.hid hb; clear hb)
    go_ret2
    exact HP.out _ HB1.out
  | some fs =>
    have HF := Lib.hid (hfit fs hps)
    have SP2 : Calls Tryz.prog 27 #[.string s] w fun e w' => (∃ a n c, e = .returned (.tuple #[.slice a n c, .int .i64 0]) ∧ HoldRR 2 w' (.slice a n c) (fs.map (·.map rowF))) ∧ Below w.heap.size w w' := SP.mono fun e w' h => by
      obtain ⟨v, z, he, h1, -, hb⟩ := h
      obtain ⟨hz, hh⟩ := h1 fs hps
      have hh2 := hh
      obtain ⟨a, c, b, o, e', _⟩ := hh
      exact ⟨⟨a, _, c, by rw [he, hz, e'], by rw [← e']; exact hh2⟩, hb⟩
    have HYES : Hid (∀ L w' v, RecsOf fs L → printUE L = (s.data.toList, 0) → Below w.heap.size w w' → HoldU w' v L → ParseUPost s.data.toList w (.returned (.tuple #[v, .int .i64 0])) w') := Lib.hid (fun L w' v h1 h2 hb h3 => ⟨hb, .inr ⟨fs, L, hps, h1, .inl ⟨h2, v, rfl, h3⟩⟩⟩)
    have HNO : Hid (∀ L w', RecsOf fs L → printUE L ≠ (s.data.toList, 0) → Below w.heap.size w w' → ParseUPost s.data.toList w (.returned (.tuple #[.slice none 0 0, .int .i64 2])) w') := Lib.hid (fun L w' h1 h2 hb => ⟨hb, .inr ⟨fs, L, hps, h1, .inr ⟨h2, rfl⟩⟩⟩)
    have RE := fun (u : Value) (f : List Fld) (hf : f ∈ fs) W (hb : Below w.heap.size w W) (h : HoldR 2 W u (f.map rowF)) => record_any u f (HF.out.f f hf) W (hL.on hb) h
    have PR := fun (L : List Uv) (u : Value) (h1 : RecsOf fs L) W (hb : Below w.heap.size w W) (h : HoldU W u L) => printU_any u L (by rw [h1.1]; exact HF.out.n) (h1.small HF.out) (HF.out.p L h1) W h (hL.on hb) (hE.on hb)
    obtain ⟨n, hN⟩ : ∃ n, fs.length = n := ⟨_, rfl⟩
    have HN := Lib.hid hN
    have hn9 := HF.out.n
    rw [hN] at hn9
    obtain ⟨i0, hi, hz0, hz1, hz2'⟩ := info_parts infoU
    have HSS : Hid (∀ T : ByteArray, T = s → (bsT T.data.toList = T)) := Lib.hid (fun T _ => rfl)
    clear SP hps hfit hL hE hN
    go_enter Tryz.func11, Tryz.ntmps11
    go_wp2_with (go_at_call 27; (with_reducible refine SP2.mono ?_); rintro e w1 ⟨⟨sa, sn, sc, rfl, hh⟩, hb⟩; have HB1 := Lib.hid hb; have HH := Lib.hid hh; obtain ⟨_, _, b, o, e', hc, ha, hcell⟩ := hh; simp only [Value.slice.injEq] at e'; obtain ⟨rfl, hsn, rfl⟩ := e'; rw [List.length_map, HN.out] at hsn hc ha; rw [hsn] at HH ⊢; clear hsn; have HC := Lib.hid hcell; clear hcell hb)
    clear SP2
    go_loopw [6, 21, 8] (fun u i _ wr => ∃ (k : Nat) (L : List Uv), k ≤ n ∧ i = .int .i64 k ∧ L.length = k ∧ Hid (RecsOf (fs.take k) L) ∧ Hid (OwnRecs wr w1.heap.size u L) ∧ Hid (Below w1.heap.size w1 wr)) (fun _ i _ _ => n - (intOf i).toNat)
    case atStart => exact ⟨0, [], by omega, rfl, rfl, Lib.hid RecsOf.nil, Lib.hid (OwnRecs.nil _ _), Lib.hid (Below.refl _ _)⟩
    case round =>
      obtain ⟨k, L, hk, rfl, hLk, HR, HO, HB⟩ := hrel
      have HBW : Hid (Below w.heap.size w wr) := Lib.hid (HB1.out.trans (HB.out.mono HB1.out.size))
      by_cases hlt : k < n
      · obtain ⟨rfl, hbw⟩ := ha (by omega)
        obtain ⟨f, hf⟩ : ∃ f, fs[k]? = some f := ⟨_, List.getElem?_eq_getElem (by rw [HN.out]; exact hlt)⟩
        obtain ⟨fv, x0, hfh⟩ := HC.out k _ (by rw [List.getElem?_map, hf]; rfl)
        rw [← HB.out.cell (p := ⟨b, o + k, none⟩) hbw] at x0
        have hform := hfh
        obtain ⟨fa, fc, _, _, rfl, _⟩ := hform
        have R1 := RE _ f (List.mem_of_getElem? hf) wr HBW.out (hfh.on HB.out)
        have HRA : Hid (∀ x, RecOf f x → RecsOf (fs.take (k + 1)) (L ++ [x])) := Lib.hid (fun x hx => by
          rw [List.take_add_one, hf]
          exact RecsOf.app HR.out hx)
        generalize (f.map rowF).length = fn at *
        have hlk : (L.map cellsU).length = k := by rw [List.length_map, hLk]
        clear hf hfh HR
        go_wp2_with (first
          | (go_at_call 28; (with_reducible refine R1.mono ?_); rintro e w3 ⟨x, rfl, hrx, hor, hb⟩; have HX := Lib.hid (HRA.out x hrx); have HB3 := Lib.hid (HB.out.trans (hb.mono HB.out.size)); have HO3 := Lib.hid (OwnRecs.on HO.out hb); have HOR := Lib.hid (OwnRec.mono hor HB.out.size); clear hrx hor hb)
          | (at_builtin; refine wpList_append_own _ rfl _ _ 22 rfl w1.heap.size 43 i0 _ 9 184 Tryz.underlying22 hi hz0 hz1 hz2' rfl (by decide) _ _ _ rfl (World.ownsRow.alloc HO3.out.1.2 _) ⟨w3.heap.size, 0, none⟩ 1 1 (cellsU x) rfl rfl ?c1 ?c2 ?c3 ?c4 ?c5 ?_))
        case c1 =>
          intro j u hj
          match j, hj with
          | 0, hj | 1, hj | 2, hj | 3, hj | 4, hj | 5, hj | 6, hj | 7, hj | 8, hj => simp at hj; subst hj; simp [Addr.add]
          | j + 9, hj => simp at hj
        case c2 =>
          have HIN := HOR.out.ins
          obtain ⟨_, _, _, q3⟩ := formU3 HIN
          obtain ⟨_, _, _, q4⟩ := formU4 HIN
          obtain ⟨_, _, _, q5⟩ := formU5 HIN
          obtain ⟨_, _, _, q6⟩ := formU6 HIN
          obtain ⟨_, _, _, q7⟩ := formU7 HIN
          obtain ⟨_, _, _, q8⟩ := formU8 HIN
          intro u hu
          simp at hu
          rw [q3, q4, q5, q6, q7, q8] at hu
          rcases hu with rfl | rfl | rfl | rfl | rfl | rfl | rfl | rfl | rfl <;> rfl
        case c3 => rw [hlk]; unfold maxLen; omega
        case c4 => omega
        case c5 => have := HB3.out.size; simp; omega
        intro v' w4 hown' hgrow _
        have HO4 : Hid (OwnRecs w4 w1.heap.size v' (L ++ [x])) := Lib.hid (OwnRecs.app HO3.out HOR.out (by rw [hlk]; exact hown') hgrow)
        have HB4 : Hid (Below w1.heap.size w1 w4) := Lib.hid (OwnV.below HB3.out HO3.out.1 hgrow (Nat.le_refl _) HB3.out.size)
        clear hown' hgrow
        go_wp2
        go_roundw
        case rel => exact ⟨k + 1, L ++ [x], by omega, by go_num, by rw [List.length_append, hLk]; rfl, HX, HO4, HB4⟩
        case measure => simp [intOf]; omega
      · obtain rfl : k = n := by omega
        have HR2 : Hid (RecsOf fs L) := Lib.hid (by have := HR.out; rwa [List.take_of_length_le (by rw [HN.out]; omega)] at this)
        have P1 := PR L u6 HR2.out wr HBW.out HO.out.holds
        obtain ⟨ua, uc, hu⟩ := OwnV.form HO.out.1
        rw [List.length_map, hLk] at hu
        subst hu
        have HU := Lib.hid HO.out.holds
        have HY2 := Lib.hid (fun w' v => HYES.out L w' v HR2.out)
        have HN2 := Lib.hid (fun w' => HNO.out L w' HR2.out)
        have hsb : ∀ T : ByteArray, T.data.toList = s.data.toList → T = s := fun T h => (strOf (x := T) h).trans (strOf (x := s) rfl).symm
        obtain ⟨⟨PL, PZ⟩, hpe⟩ : ∃ q, printUE L = q := ⟨_, rfl⟩
        simp only [hpe] at P1 HY2 HN2
        obtain ⟨PT, hPT⟩ : ∃ q, bsT PL = q := ⟨_, rfl⟩
        have hPL : PL = PT.data.toList := by rw [← hPT]
        rw [hPT] at P1
        subst hPL
        clear hpe PR RE HYES HNO HR HO hlt hPT
        by_cases hz : PZ = 0
        · subst hz
          by_cases hps : PT = s
          · subst hps
            have hTT : (PT.toList == PT.toList) = true := by simp
            go_wp2_with (go_at_call 7; (with_reducible refine P1.mono ?_); rintro e w5 ⟨rfl, hb⟩; have HB5 := Lib.hid (HBW.out.trans (hb.mono HBW.out.size)); have HU5 := Lib.hid (HU.out.on hb); clear hb)
            go_ret2
            exact HY2.out _ _ (by trivial) HB5.out HU5.out
          · have hTT : (PT.toList == s.toList) = false := by
              rw [beq_eq_false_iff_ne]
              intro e
              rw [ByteArray.toList_eq, ByteArray.toList_eq] at e
              exact hps (hsb _ e)
            have hTN : (PT.data.toList, (0 : Int)) ≠ (s.data.toList, 0) := fun e => hps (hsb _ (Prod.mk.inj e).1)
            have HTN := Lib.hid hTN
            clear hTN hps hsb
            go_wp2_with (go_at_call 7; (with_reducible refine P1.mono ?_); rintro e w5 ⟨rfl, hb⟩; have HB5 := Lib.hid (HBW.out.trans (hb.mono HBW.out.size)); clear hb)
            go_ret2
            exact HN2.out _ HTN.out HB5.out
        · have hz1 : (PZ != 0) = true := by rw [bne_iff_ne]; exact hz
          have HTN : Hid ((PT.data.toList, PZ) ≠ (s.data.toList, 0)) := Lib.hid (fun e => hz (Prod.mk.inj e).2)
          clear hz hsb
          go_wp2_with (go_at_call 7; (with_reducible refine P1.mono ?_); rintro e w5 ⟨rfl, hb⟩; have HB5 := Lib.hid (HBW.out.trans (hb.mono HBW.out.size)); clear hb)
          go_ret2
          exact HN2.out _ HTN.out HB5.out
end
end Go.Proofs.YtkbkaeefdhkgdaaGreatDoor
