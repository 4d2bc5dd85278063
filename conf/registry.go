package conf

import (
	"slices"

	"sextet/api"
)

// maxInc is the greatest Inc of a node.
const maxInc = 1 << 30

// Registry is what all who take part agree on: who the copies of each group are, which
// epoch is the greatest, which life of its disk each node is in.
type Registry struct {
	groups []api.Config // a list of nodes in them is never written to: clones share it
	epoch  int
	incs   [api.MaxNodes]int // 0: none was told
}

// New is a registry of groups that have those configurations.
func New(l ...api.Config) (*Registry, error) {
	if len(l) < 1 || len(l) > api.MaxGroups {
		return nil, api.ErrMany
	}
	r := &Registry{}
	for i, c := range l {
		if err := fresh(c, r.groups); err != nil {
			return nil, &api.At{Pos: i, Err: err}
		}
		r.groups = append(r.groups, cloned(c))
	}
	return r, nil
}

// fresh is nil, if a registry may begin with c behind those ahead of it.
func fresh(c api.Config, ahead []api.Config) error {
	err := Valid(c)
	switch {
	case err != nil:
		return err
	case len(c.New) > 0:
		return api.ErrState
	case shares(c, ahead):
		return api.ErrThere
	}
	return nil
}

// shares is whether a node of c is a member of one of the others.
func shares(c api.Config, others []api.Config) bool {
	ours := Members(c)
	return slices.ContainsFunc(others, func(d api.Config) bool {
		return slices.ContainsFunc(Members(d), func(n int) bool { return slices.Contains(ours, n) })
	})
}

// Groups is how many groups there are.
func (r *Registry) Groups() int { return len(r.groups) }

// Get is the configuration of the group, and whether there is such a group.
func (r *Registry) Get(group int) (api.Config, bool) {
	if !r.there(group) {
		return api.Config{}, false
	}
	return cloned(r.groups[group]), true
}

// there is whether there is such a group.
func (r *Registry) there(group int) bool { return 0 <= group && group < len(r.groups) }

// Epoch is the greatest epoch that was taken.
func (r *Registry) Epoch() int { return r.epoch }

// Take makes epoch the greatest that was taken, if it is that.
func (r *Registry) Take(epoch int) error {
	switch {
	case !epochRight(epoch):
		return api.ErrRange
	case epoch <= r.epoch:
		return api.ErrFenced
	}
	r.epoch = epoch
	return nil
}

// Set makes c the configuration of the group, if no greater epoch than that was taken.
func (r *Registry) Set(epoch, group int, c api.Config) error {
	if !r.there(group) {
		return api.ErrNone
	}
	if err := Valid(c); err != nil {
		return err
	}
	switch {
	case epoch < r.epoch:
		return api.ErrFenced
	case c.Epoch != r.groups[group].Epoch+1:
		return api.ErrState
	case shares(c, slices.Concat(r.groups[:group], r.groups[group+1:])):
		return api.ErrThere
	}
	r.groups[group] = cloned(c)
	return nil
}

// Born tells of a new life of a node's disk.
func (r *Registry) Born(node, inc int) error {
	switch {
	case nodeWrong(node) || inc < 1 || inc > maxInc:
		return api.ErrRange
	case inc <= r.incs[node]:
		return api.ErrState
	}
	r.incs[node] = inc
	return nil
}

// Inc is the number of the life that a node's disk is in.
func (r *Registry) Inc(node int) int {
	if nodeWrong(node) {
		return 0
	}
	return r.incs[node]
}

// Clone is a registry of its own, just as this one is.
func (r *Registry) Clone() *Registry {
	out := *r
	out.groups = slices.Clone(r.groups)
	return &out
}
