/-
  The reference's Text of an int (of layer 1): its decimal digits; the world stays as it was. The digits of an int, by the program; what the program lays (LaidZ); lines of words.
-/
import Derived.Test.YtnfhccnicojdcaaGreatDoorRowV
import Derived.Lib.ItoaMem
import Derived.Laws.BitsAllLaws
import Derived.Lib.ItoaWalk
import Derived.ShutString
import Derived.Test.YtnfhccnicojdcaaGreatDoorYSmall
import Derived.Test.YtnfhccnicojdcaaGreatDoorZRight2
import Derived.Lib.ItoaLen
import Derived.WalkSmall
namespace Go.Proofs.YtnfhccnicojdcaaGreatDoor.RT
open Go.RowKit Go.Sort
theorem ret_str {a b : ByteArray} (h : a = b) : Ending.returned (.string a) = Ending.returned (.string b) := by rw [h]
theorem str_append (a b : Array UInt8) : ByteArray.mk a ++ ByteArray.mk b = ByteArray.mk (a ++ b) := by apply ByteArray.ext; simp [ByteArray.data_append]
def dgc (d : Nat) : UInt8 := if d < 10 then UInt8.ofNat (48 + d) else UInt8.ofNat (87 + d)
theorem dgc_lt (d : Nat) (h : d < 10) : (dgc d).toNat = 48 + d := by
  unfold dgc; rw [if_pos h, UInt8.toNat_ofNat']; omega
theorem dec_big (u : Nat) (h : ¬ u < 10) : Lib.decDigits u = Lib.decDigits (u / 10) ++ [UInt8.ofNat (48 + u % 10)] := by rw [Lib.decDigits, dif_neg h]
theorem dec_small (u : Nat) (h : u < 10) : Lib.decDigits u = [UInt8.ofNat (48 + u)] := by rw [Lib.decDigits, dif_pos h]
theorem enc_fin : ∀ d : Fin 16, Utf8.encode ((dgc d.val).toNat : Int) = ⟨#[dgc d.val]⟩ := by decide +kernel
theorem rune_at (d : Nat) (hd : d < 16) (z : Int) (hz : z = ((dgc d).toNat : Int)) (w : World) : (convert 21 9 (.int .i32 z)).run Tryz.prog w = .ok (.string ⟨#[dgc d]⟩) w := by
  rw [run_convert_int_string w 21 9 .i32 _ (by kernel_rfl) Tryz.underlying9, hz]
  have h := enc_fin ⟨d, hd⟩
  simp only at h
  rw [h]
/-- The digits above. -/
def dd (u : Nat) : List UInt8 := if u = 0 then [] else Lib.decDigits u
theorem ofNat_dgc (d : Nat) (hd : d < 10) : UInt8.ofNat (48 + d) = dgc d := by unfold dgc; rw [if_pos hd]
theorem dd_step (u : Nat) (h : 0 < u) : dd u = dd (u / 10) ++ [dgc (u % 10)] := by
  unfold dd
  rw [if_neg (by omega), ← ofNat_dgc _ (by omega)]
  by_cases hs : u < 10
  · rw [dec_small u hs, if_pos (by omega), Nat.mod_eq_of_lt hs]; rfl
  · rw [dec_big u hs, if_neg (by omega)]
theorem dd_first (u : Nat) : Lib.decDigits u = dd (u / 10) ++ [dgc (u % 10)] := by
  rw [← ofNat_dgc _ (by omega)]
  by_cases hs : u < 10
  · rw [dec_small u hs]; unfold dd; rw [if_pos (by omega), Nat.mod_eq_of_lt hs]; rfl
  · rw [dec_big u hs]; unfold dd; rw [if_neg (by omega)]
theorem rune_dec (d : Nat) (hd : d < 10) (z : Int) (hz : z = 48 + (d : Int)) (w : World) : (convert 21 9 (.int .i32 z)).run Tryz.prog w = .ok (.string ⟨#[dgc d]⟩) w :=
  rune_at d (by omega) z (by rw [dgc_lt d hd]; omega) w
theorem size_bd (u k U : Nat) (hu : 0 < u) (h : u * 10 ^ k ≤ U) (hU : U < 18446744073709551616) : k ≤ 19 := by
  rcases Nat.lt_or_ge 19 k with hk | hk
  · have h1 : 10 ^ 20 ≤ 10 ^ k := Nat.pow_le_pow_right (by decide) hk
    have h2 : 10 ^ k ≤ u * 10 ^ k := Nat.le_mul_of_pos_left _ hu
    have e : (10 : Nat) ^ 20 = 100000000000000000000 := by decide
    omega
  · exact hk
end Go.Proofs.YtnfhccnicojdcaaGreatDoor.RT
namespace Go.Proofs.YtnfhccnicojdcaaGreatDoor
open Go.RowKit Go.Sort
structure LaidZ (w : World) : Prop where
  p : LaidP w
  pow : Lib.TabIs Tryz.prog w "internal/strconv.uint64pow10" .u64 Lib.pow10Tab
  size : 1 < w.heap.size
theorem gPowZ : Tryz.prog.globalNamed "internal/strconv.uint64pow10" = some 1 := by kernel_rfl
theorem LaidZ.on {w w' : World} (h : LaidZ w) (hb : Below w.heap.size w w') : LaidZ w' where
  p := h.p.on hb
  pow := by
    have := h.pow
    unfold Lib.TabIs at this ⊢
    exact var?_below hb gPowZ h.size this
  size := Nat.lt_of_lt_of_le h.size hb.size
theorem below_grownZ (w : World) (k : Nat) (os : Array Obj) : Below w.heap.size w (grow (w.drewN k) os) :=
  ⟨rfl, rfl, rfl, by show w.heap.size ≤ (w.heap ++ os).size; rw [Array.size_append]; omega, fun j hj => by show (w.heap ++ os)[j]? = w.heap[j]?; rw [Array.getElem?_append_left hj]⟩
set_option maxHeartbeats 400000 in
theorem textZ_any (n : Int) (h0 : -9223372036854775808 ≤ n) (h1 : n ≤ 9223372036854775807) (w : World) (h : LaidZ w) :
    Calls Tryz.prog 60 #[.int .i64 n] w fun e w' => e = .returned (.string ⟨(Lib.itoa n).toArray⟩) ∧ Below w.heap.size w w' := by
  have H := Tryz.strconv_Itoa n h0 h1 w h.pow
  clear h
  go_enter Tryz.func60, Tryz.ntmps60
  go_wp2_with (go_at_call 91; refine H.mono ?_; rintro e w1 ⟨rfl, k, os, rfl⟩)
  go_ret
  exact ⟨rfl, below_grownZ _ _ _⟩
-- The text
def lnZ (ws : List Bs) : Bs := joinC 32 ws ++ [10]
abbrev wDash : Bs := [45]
abbrev wMode : Bs := [109, 111, 100, 101]
abbrev wBest : Bs := [98, 101, 115, 116]
abbrev wCur : Bs := [99, 117, 114, 114, 101, 110, 116, 108, 121]
abbrev wLink : Bs := [108, 105, 110, 107]
abbrev wIs : Bs := [105, 115]
abbrev wSlave : Bs := [115, 108, 97, 118, 101]
abbrev wPrio : Bs := [112, 114, 105, 111, 114, 105, 116, 121]
def h1Z (x : Av) : Bs := lnZ [x.nm, wDash, wordY x.mn, wMode]
def h2Z (bp : Bs) : Bs := lnZ [wBest, bp]
def h3Z (x : Av) : Bs := lnZ [wCur, x.cr]
def h4Z (x : Av) : Bs := lnZ [wLink, x.nm, wIs, x.lk]
def headZ (x : Av) (bp : Bs) : Bs := h1Z x ++ h2Z bp ++ h3Z x ++ h4Z x
def slZ (s : Sv) : Bs := lnZ [wSlave, s.1, wIs, s.2]
def tgZ (p : Sv × Bs) : Bs := if p.2 = [] then [] else lnZ [wSlave, p.1.1 ++ [58], p.2]
def c1Z (c : Cv) : Bs := lnZ [c.1.1, wDash, wPrio, Lib.itoa c.1.2.1]
def chZ (sl : List Sv) (c : Cv) : Bs := c1Z c ++ (sl.zip c.1.2.2).flatMap tgZ
def dispZ (x : Av) (bp : Bs) : Bs := headZ x bp ++ x.sl.flatMap slZ ++ x.ch.flatMap (chZ x.sl)
theorem lnZ_len {ws : List Bs} (h4 : ws.length ≤ 4) (h : ∀ p ∈ ws, p.length ≤ 4000) : (lnZ ws).length ≤ 16005 := by
  have := joinC_len2 32 4000 ws h
  unfold lnZ
  rw [List.length_append, List.length_singleton]
  omega
theorem flat_snoc {α : Type} (f : α → Bs) {l : List α} {k : Nat} {x : α} (h : l[k]? = some x) : (l.take (k + 1)).flatMap f = (l.take k).flatMap f ++ f x := by
  rw [List.take_add_one, h, List.flatMap_append]; simp
theorem zip_get {sl : List Sv} {ts : List Bs} {j : Nat} {s : Sv} {t : Bs} (h1 : sl[j]? = some s) (h2 : ts[j]? = some t) : (sl.zip ts)[j]? = some (s, t) := by
  rw [List.getElem?_zip_eq_some]; exact ⟨h1, h2⟩
structure SmD (x : Av) : Prop where
  nm : x.nm.length ≤ 300
  lk : x.lk.length ≤ 300
  cr : x.cr.length ≤ 300
  ss : ∀ s ∈ x.sl, s.1.length ≤ 300 ∧ s.2.length ≤ 300
  cs : ∀ c ∈ x.ch, c.1.1.length ≤ 300 ∧ (∀ q ∈ c.1.2.2, q.length ≤ 3000) ∧ -2147483648 ≤ c.1.2.1 ∧ c.1.2.1 ≤ 2147483647 ∧ c.1.2.2.length = x.sl.length
theorem GoodA.smd {x : Av} (h : GoodA x) (hf : FewOne x) : SmD x where
  nm := hf.nm
  lk := hf.lk
  cr := hf.cr
  ss := fun s hs => hf.ss s hs
  cs := fun c hc => by
    obtain ⟨i, hi⟩ := List.mem_iff_getElem?.1 hc
    have hr := (h.ch.steps i c hi).1
    unfold rightC at hr
    simp only [Bool.and_eq_true, decide_eq_true_eq] at hr
    have := hf.cs c hc
    exact ⟨this.1, this.2.2, hr.1.1.1.2, hr.1.1.2, hr.1.2⟩
theorem wordY_len (b : Bool) : (wordY b).length ≤ 6 := by cases b <;> decide
theorem h1Z_len {x : Av} (h : SmD x) : (h1Z x).length ≤ 16005 ∧ ∀ p ∈ [x.nm, wDash, wordY x.mn, wMode], p.length ≤ 4000 := by
  have : ∀ p ∈ [x.nm, wDash, wordY x.mn, wMode], p.length ≤ 4000 := fun p hp => by
    have := h.nm; have := wordY_len x.mn
    simp only [List.mem_cons, List.not_mem_nil, or_false] at hp
    rcases hp with rfl | rfl | rfl | rfl <;> first | omega | decide
  exact ⟨lnZ_len (by simp) this, this⟩
theorem h2Z_len {bp : Bs} (h : bp.length ≤ 300) : (h2Z bp).length ≤ 16005 ∧ ∀ p ∈ [wBest, bp], p.length ≤ 4000 := by
  have : ∀ p ∈ [wBest, bp], p.length ≤ 4000 := fun p hp => by
    simp only [List.mem_cons, List.not_mem_nil, or_false] at hp
    rcases hp with rfl | rfl <;> first | omega | decide
  exact ⟨lnZ_len (by simp) this, this⟩
theorem h3Z_len {x : Av} (h : SmD x) : (h3Z x).length ≤ 16005 ∧ ∀ p ∈ [wCur, x.cr], p.length ≤ 4000 := by
  have : ∀ p ∈ [wCur, x.cr], p.length ≤ 4000 := fun p hp => by
    have := h.cr
    simp only [List.mem_cons, List.not_mem_nil, or_false] at hp
    rcases hp with rfl | rfl <;> first | omega | decide
  exact ⟨lnZ_len (by simp) this, this⟩
theorem h4Z_len {x : Av} (h : SmD x) : (h4Z x).length ≤ 16005 ∧ ∀ p ∈ [wLink, x.nm, wIs, x.lk], p.length ≤ 4000 := by
  have : ∀ p ∈ [wLink, x.nm, wIs, x.lk], p.length ≤ 4000 := fun p hp => by
    have := h.nm; have := h.lk
    simp only [List.mem_cons, List.not_mem_nil, or_false] at hp
    rcases hp with rfl | rfl | rfl | rfl <;> first | omega | decide
  exact ⟨lnZ_len (by simp) this, this⟩
theorem slZ_len {s : Sv} (h : s.1.length ≤ 300 ∧ s.2.length ≤ 300) : (slZ s).length ≤ 16005 ∧ ∀ p ∈ [wSlave, s.1, wIs, s.2], p.length ≤ 4000 := by
  have : ∀ p ∈ [wSlave, s.1, wIs, s.2], p.length ≤ 4000 := fun p hp => by
    simp only [List.mem_cons, List.not_mem_nil, or_false] at hp
    rcases hp with rfl | rfl | rfl | rfl <;> first | omega | decide
  exact ⟨lnZ_len (by simp) this, this⟩
theorem tgZ_len {s : Sv} {t : Bs} (h : s.1.length ≤ 300) (ht : t.length ≤ 3000) : (lnZ [wSlave, s.1 ++ [58], t]).length ≤ 16005 ∧ ∀ p ∈ [wSlave, s.1 ++ [58], t], p.length ≤ 4000 := by
  have : ∀ p ∈ [wSlave, s.1 ++ [58], t], p.length ≤ 4000 := fun p hp => by
    simp only [List.mem_cons, List.not_mem_nil, or_false] at hp
    rcases hp with rfl | rfl | rfl <;> first | omega | decide | (rw [List.length_append, List.length_singleton]; omega)
  exact ⟨lnZ_len (by simp) this, this⟩
theorem c1Z_len {c : Cv} (h : c.1.1.length ≤ 300) (h0 : -2147483648 ≤ c.1.2.1) (h1 : c.1.2.1 ≤ 2147483647) : (c1Z c).length ≤ 16005 ∧ ∀ p ∈ [c.1.1, wDash, wPrio, Lib.itoa c.1.2.1], p.length ≤ 4000 := by
  have : ∀ p ∈ [c.1.1, wDash, wPrio, Lib.itoa c.1.2.1], p.length ≤ 4000 := fun p hp => by
    have := Lib.itoa_length_le c.1.2.1 (by omega) (by omega)
    simp only [List.mem_cons, List.not_mem_nil, or_false] at hp
    rcases hp with rfl | rfl | rfl | rfl <;> first | omega | decide
  exact ⟨lnZ_len (by simp) this, this⟩
end Go.Proofs.YtnfhccnicojdcaaGreatDoor
