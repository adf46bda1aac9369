/-
  Records that fit in memory, and few and small ones; nothing of the program's.
-/
import Derived.Test.YtpkdnohaefkfgaaGreatDoorGURightA
namespace Go.Proofs.YtpkdnohaefkfgaaGreatDoor
open Go.RowKit
/-- A record as it comes in. -/
structure FitU (x : Uv) : Prop where
  nm : x.nm.length ≤ maxLen
  vr : x.vr.length ≤ maxLen
  dn : x.dp.length ≤ maxLen
  dp : ∀ g ∈ x.dp, BigQ g.1 ∧ g.1.length ≤ maxLen
  cl : x.cn.length ≤ maxLen
  cq : BigQ x.cn
  rl : x.rp.length ≤ maxLen
  rp : ∀ s ∈ x.rp, s.length ≤ maxLen
  fl : x.cf.length ≤ maxLen
  cf : ∀ c ∈ x.cf, c.1.length ≤ maxLen ∧ c.2.length ≤ maxLen
  pl : x.pd.length ≤ maxLen
  pd : ∀ s ∈ x.pd, s.length ≤ maxLen
  al : x.aw.length ≤ maxLen
  aw : ∀ s ∈ x.aw, s.length ≤ maxLen
/-- A record that is small. -/
structure FewR (x : Uv) : Prop where
  nm : x.nm.length ≤ 4000
  vr : x.vr.length ≤ 4000
  dn : x.dp.length ≤ 70
  dp : ∀ g ∈ x.dp, g.1.length ≤ 70
  dt : (allE (fsts x.dp)).1.length ≤ 4000
  cl : x.cn.length ≤ 70
  cq : ∀ r ∈ x.cn, r.1.length ≤ 4000 ∧ r.2.2.length ≤ 4000
  rl : x.rp.length ≤ 70
  rp : ∀ s ∈ x.rp, s.length ≤ 4000
  fl : x.cf.length ≤ 70
  cf : ∀ c ∈ x.cf, c.1.length ≤ 4000 ∧ c.2.length ≤ 4000
  pl : x.pd.length ≤ 70
  pd : ∀ s ∈ x.pd, s.length ≤ 4000
  al : x.aw.length ≤ 70
  aw : ∀ s ∈ x.aw, s.length ≤ 4000
def FewU (l : List Uv) : Prop := l.length ≤ 70 ∧ ∀ x ∈ l, FewR x
theorem FewR.small {x : Uv} (h : FewR x) (f : FitU x) : SmallU x :=
  ⟨h.nm, h.vr, h.dn, fun g hg => ⟨(f.dp g hg).1, Nat.le_trans (h.dp g hg) (by decide)⟩, h.cl, f.cq, (Nat.le_trans h.rl (by decide)), h.rp, (Nat.le_trans h.fl (by decide)), h.cf, (Nat.le_trans h.pl (by decide)), h.pd, (Nat.le_trans h.al (by decide)), h.aw⟩
/-- What the law's Few has looked at, up to a place. -/
structure UptoU (x : Uv) (k : Nat) : Prop where
  dp : ∀ (j : Nat) g, j < k → x.dp[j]? = some g → g.1.length ≤ 70
  cq : ∀ (j : Nat) r, j < k → x.cn[j]? = some r → r.1.length ≤ 4000 ∧ r.2.2.length ≤ 4000
  rp : ∀ (j : Nat) s, j < k → x.rp[j]? = some s → s.length ≤ 4000
  cf : ∀ (j : Nat) c, j < k → x.cf[j]? = some c → c.1.length ≤ 4000 ∧ c.2.length ≤ 4000
  pd : ∀ (j : Nat) s, j < k → x.pd[j]? = some s → s.length ≤ 4000
  aw : ∀ (j : Nat) s, j < k → x.aw[j]? = some s → s.length ≤ 4000
theorem UptoU.zero (x : Uv) : UptoU x 0 := ⟨fun j _ h => by omega, fun j _ h => by omega, fun j _ h => by omega, fun j _ h => by omega, fun j _ h => by omega, fun j _ h => by omega⟩
theorem upto_next {α : Type} {l : List α} {P : α → Prop} {k : Nat} (h : ∀ (j : Nat) a, j < k → l[j]? = some a → P a) (hk : ∀ a, l[k]? = some a → P a) : ∀ (j : Nat) a, j < k + 1 → l[j]? = some a → P a := fun j a hj ha => by
  by_cases e : j = k
  · subst e; exact hk a ha
  · exact h j a (by omega) ha
theorem UptoU.next {x : Uv} {k : Nat} (h : UptoU x k) (h1 : ∀ g, x.dp[k]? = some g → g.1.length ≤ 70) (h2 : ∀ r, x.cn[k]? = some r → r.1.length ≤ 4000 ∧ r.2.2.length ≤ 4000) (h3 : ∀ s, x.rp[k]? = some s → s.length ≤ 4000) (h4 : ∀ c, x.cf[k]? = some c → c.1.length ≤ 4000 ∧ c.2.length ≤ 4000) (h5 : ∀ s, x.pd[k]? = some s → s.length ≤ 4000) (h6 : ∀ s, x.aw[k]? = some s → s.length ≤ 4000) : UptoU x (k + 1) :=
  ⟨upto_next h.dp h1, upto_next h.cq h2, upto_next h.rp h3, upto_next h.cf h4, upto_next h.pd h5, upto_next h.aw h6⟩
theorem upto_all {α : Type} {l : List α} {P : α → Prop} {k : Nat} (h : ∀ (j : Nat) a, j < k → l[j]? = some a → P a) (hk : l.length ≤ k) : ∀ a ∈ l, P a := fun a ha => by
  obtain ⟨i, hi⟩ := List.mem_iff_getElem?.1 ha
  exact h i a (by have := (List.getElem?_eq_some_iff.1 hi).1; omega) hi
theorem UptoU.few {x : Uv} (h : UptoU x 70) (h0 : x.nm.length ≤ 4000) (h1 : x.vr.length ≤ 4000) (hd : (allE (fsts x.dp)).1.length ≤ 4000) (h3 : x.dp.length ≤ 70) (h4 : x.cn.length ≤ 70) (h5 : x.rp.length ≤ 70) (h6 : x.cf.length ≤ 70) (h7 : x.pd.length ≤ 70) (h8 : x.aw.length ≤ 70) : FewR x :=
  ⟨h0, h1, h3, upto_all h.dp h3, hd, h4, upto_all h.cq h4, h5, upto_all h.rp h5, h6, upto_all h.cf h6, h7, upto_all h.pd h7, h8, upto_all h.aw h8⟩
end Go.Proofs.YtpkdnohaefkfgaaGreatDoor
