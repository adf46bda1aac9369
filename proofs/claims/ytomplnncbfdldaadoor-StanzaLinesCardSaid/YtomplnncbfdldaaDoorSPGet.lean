/-
  The program's Get, full, ContainsFunc and check: what each returns; nothing old turns.
-/
import Derived.Test.YtomplnncbfdldaaDoorSPField
import Derived.Test.YtomplnncbfdldaaDoorSPrint
namespace Go.Proofs.YtomplnncbfdldaaDoor
open Go.RowKit
/-- Is a field's name among those of the rows? -/
def hasN (x : Bs) (fs : List Fld) : Bool := fs.any fun f => sameB f.1 x
theorem hasN_mem (x : Bs) (fs : List Fld) : hasN x fs = true ↔ lower x ∈ fs.map fun f => lower f.1 := by
  unfold hasN sameB
  rw [List.any_eq_true, List.mem_map]
  simp only [decide_eq_true_eq]
theorem hasN_take {x : Bs} {fs : List Fld} {k : Nat} {f : Fld} (h : fs[k]? = some f) : hasN x (fs.take (k + 1)) = (hasN x (fs.take k) || sameB f.1 x) := by
  unfold hasN
  rw [List.take_add_one, h, List.any_append]; simp
def PGetPost (x : Bs) (fs : List Fld) (w : World) (e : Ending) (w' : World) : Prop := ∃ T : ByteArray, e = .returned (.tuple #[.string T, .bool (hasN x fs)]) ∧ Below w.heap.size w w'
set_option maxRecDepth 100000 in
set_option maxHeartbeats 4000000 in
theorem get_any (v : Value) (fs : List Fld) (x : ByteArray) (hf : fs.length ≤ 90000) (hfs : ∀ f ∈ fs, f.1.length ≤ 90000 ∧ f.2.length ≤ 90000) (hx : x.size ≤ 90000) (w : World) (h : HoldR 2 w v (fs.map rowF)) :
    Calls Tryd.prog 34 #[v, .string x] w (PGetPost x.data.toList fs w) := by
  have HH := Lib.hid h
  have HS := Lib.hid hfs
  obtain ⟨a, c, b, o, rfl, hc, ha, hcell⟩ := h
  obtain ⟨n, hn⟩ : ∃ n, fs.length = n := ⟨_, rfl⟩
  have HN := Lib.hid hn
  rw [List.length_map, hn] at hc ha ⊢
  rw [List.length_map] at HH
  rw [hn] at hf HH
  clear hcell hfs hn
  have HP : Hid (∀ (T : ByteArray) w' b, hasN x.data.toList fs = b → Below w.heap.size w w' → PGetPost x.data.toList fs w (.returned (.tuple #[.string T, .bool b])) w') := Lib.hid (fun T w' b h1 h2 => ⟨T, by rw [h1], h2⟩)
  have SN := fun (y : ByteArray) (hy : y.size ≤ 100000) w => sameName_any y x hy (by omega) w
  go_enter Tryd.func34, Tryd.ntmps34
  go_wp2
  go_loopw [10] (fun i wr => ∃ k : Nat, k ≤ n ∧ i = .int .i64 k ∧ Hid (hasN x.data.toList (fs.take k) = false) ∧ Hid (Below w.heap.size w wr)) (fun i _ => n - (intOf i).toNat)
  case atStart => exact ⟨0, by omega, rfl, Lib.hid rfl, Lib.hid (Below.refl _ _)⟩
  case round =>
    obtain ⟨k, hk, rfl, H, HB⟩ := hrel
    by_cases hlt : k < n
    · obtain ⟨rfl, hbw⟩ := ha (by omega)
      obtain ⟨f, hfk⟩ : ∃ f, fs[k]? = some f := ⟨_, List.getElem?_eq_getElem (by rw [HN.out]; exact hlt)⟩
      have hfm := HS.out f (List.mem_of_getElem? hfk)
      obtain ⟨X, hX⟩ : ∃ X : ByteArray, X.data.toList = f.1 := ⟨⟨f.1.toArray⟩, by simp⟩
      obtain ⟨Y, hY⟩ : ∃ Y : ByteArray, Y.data.toList = f.2 := ⟨⟨f.2.toArray⟩, by simp⟩
      obtain ⟨d0, d1⟩ := rowF_cells (HH.out.on HB.out) hfk hX hY
      have hXs : X.size ≤ 100000 := by rw [sizeOf, hX]; omega
      have S := SN X hXs
      have hst := hasN_take (x := x.data.toList) hfk
      rw [H.out, Bool.false_or, ← hX] at hst
      have hsz := HB.out.size
      have HBX : Hid (Below w.heap.size w (wr.alloc (.cells #[.string X, .string Y] 39))) := Lib.hid (HB.out.alloc hsz _)
      have hsub : hasN x.data.toList (fs.take (k + 1)) = true → hasN x.data.toList fs = true := fun g => by
        unfold hasN at g ⊢
        rw [List.any_eq_true] at g ⊢
        obtain ⟨y, hy, hy2⟩ := g
        exact ⟨y, List.mem_of_mem_take hy, hy2⟩
      generalize sameB X.data.toList x.data.toList = q at *
      cases q
      · have HK := Lib.hid hst
        clear hst hsub hX hY hfm hfk SN H
        go_wp2_with (go_at_call 49; refine (S _).mono ?_; rintro e w1 ⟨rfl, q, rfl⟩)
        go_roundw
        case rel => exact ⟨k + 1, by omega, by go_num, HK, Lib.hid (belowQ HBX.out q)⟩
        case measure => simp [intOf]; omega
      · have HK := Lib.hid (hsub hst)
        clear hst hsub hX hY hfm hfk SN H
        go_wp2_with (go_at_call 49; refine (S _).mono ?_; rintro e w1 ⟨rfl, q, rfl⟩)
        go_ret2
        exact HP.out Y _ true HK.out (belowQ HBX.out q)
    · obtain rfl : k = n := by omega
      have HK : Hid (hasN x.data.toList fs = false) := Lib.hid (by have := H.out; rwa [List.take_of_length_le (by rw [HN.out]; omega)] at this)
      clear hlt SN H
      go_wp2
      go_ret2
      exact HP.out _ _ false HK.out HB.out
end Go.Proofs.YtomplnncbfdldaaDoor
