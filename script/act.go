package script

import (
	"cellarer/api"
	"cellarer/bits"
	"cellarer/pack"
)

// maxSlaves is how many slaves a command may have.
const maxSlaves = 8

// ActText is a command as a text.
func ActText(a api.Act) string {
	if !pack.Act(a) || !bareAct(unstated(a)) {
		return ""
	}
	switch a.Kind {
	case api.CDivert:
		return joined("divert", a.Path, orNone(a.To), orNone(a.Name), either(a.Flag, "rename", "keep"))
	case api.CUndiv:
		return joined("undivert", a.Path, orNone(a.Name), either(a.Flag, "rename", "keep"))
	case api.COver:
		return joined("override", a.Path, metaWords(a.Meta), either(a.Force, "force", "once"), either(a.Flag, "update", "later"))
	case api.CUnover:
		return joined("unoverride", a.Path)
	case api.CInstall:
		return joined(installWords(a)...)
	case api.CRemove:
		return joined("withdraw", a.Name, a.Path)
	case api.CAll:
		return joined("remove-all", a.Name)
	case api.CSet:
		return joined("set", a.Name, a.Path)
	case api.CAuto:
		return joined("auto", a.Name)
	case api.CFire:
		return joined("fire", a.Name, either(a.Flag, "noawait", "await"))
	}
	return ""
}

func installWords(a api.Act) []string {
	out := []string{"install", a.Name, a.To, a.Path, bits.Text(a.Prio)}
	for i, s := range a.Slaves {
		out = append(out, s.Name, s.Link, orNone(a.Paths[i]))
	}
	return out
}

// unstated is a command without what its words state.
func unstated(a api.Act) api.Act {
	switch a.Kind {
	case api.CDivert:
		a.Path, a.To, a.Name, a.Flag = "", "", "", false
	case api.CUndiv:
		a.Path, a.Name, a.Flag = "", "", false
	case api.COver:
		a.Path, a.Meta, a.Force, a.Flag = "", api.Meta{}, false, false
	case api.CUnover:
		a.Path = ""
	case api.CInstall:
		a.Name, a.To, a.Path, a.Prio, a.Slaves, a.Paths = "", "", "", 0, nil, nil
	case api.CRemove, api.CSet:
		a.Name, a.Path = "", ""
	case api.CAll, api.CAuto:
		a.Name = ""
	case api.CFire:
		a.Name, a.Flag = "", false
	}
	a.Kind = 0
	return a
}

// bareAct tells whether nothing of a command is set.
func bareAct(a api.Act) bool {
	return a.Kind == 0 && a.Name == "" && a.Path == "" && a.To == "" && a.Meta == api.Meta{} && a.Prio == 0 &&
		!a.Flag && !a.Force && len(a.Slaves) == 0 && len(a.Paths) == 0
}

// Act is the command of a text. Whatever is read is printed again: so only what
// ActText makes comes through, however much the reading takes.
func Act(s string) (api.Act, bool) {
	r := actReader{words: words{rest: s}}
	r.read()
	if s == "" || ActText(r.act) != s {
		return api.Act{}, false
	}
	return r.act, true
}

// actReader takes words into the fields of a command.
type actReader struct {
	words
	act api.Act
}

func (r *actReader) read() {
	switch r.take() {
	case "divert":
		r.as(api.CDivert, r.path, r.to, r.owner, r.flag("rename"))
	case "undivert":
		r.as(api.CUndiv, r.path, r.owner, r.flag("rename"))
	case "override":
		r.as(api.COver, r.path, r.own, r.force, r.flag("update"))
	case "unoverride":
		r.as(api.CUnover, r.path)
	case "install":
		r.as(api.CInstall, r.name, r.to, r.path, r.prio, r.slaves)
	case "withdraw":
		r.as(api.CRemove, r.name, r.path)
	case "remove-all":
		r.as(api.CAll, r.name)
	case "set":
		r.as(api.CSet, r.name, r.path)
	case "auto":
		r.as(api.CAuto, r.name)
	case "fire":
		r.as(api.CFire, r.name, r.flag("noawait"))
	}
}

// as reads a command of a kind by what takes its words.
func (r *actReader) as(kind int, takes ...func()) {
	r.act.Kind = kind
	for _, take := range takes {
		take()
	}
}

func (r *actReader) name() { r.act.Name = r.take() }

func (r *actReader) owner() { r.act.Name = r.orEmpty() }

func (r *actReader) path() { r.act.Path = r.take() }

func (r *actReader) to() { r.act.To = r.orEmpty() }

func (r *actReader) own() { r.act.Meta = r.meta() }

func (r *actReader) prio() { r.act.Prio = r.number() }

func (r *actReader) force() { r.act.Force = r.take() == "force" }

// flag takes a word, which may be the one that sets the flag.
func (r *actReader) flag(set string) func() {
	return func() { r.act.Flag = r.take() == set }
}

// slaves takes no more than there may be: what is left shows then.
func (r *actReader) slaves() {
	for r.more && len(r.act.Slaves) < maxSlaves {
		r.act.Slaves = append(r.act.Slaves, api.Slave{Name: r.take(), Link: r.take()})
		r.act.Paths = append(r.act.Paths, r.orEmpty())
	}
}
