// Package fresh copies states for the layers that answer them, as what is answered may share no memory with what was handed in.
package fresh

import (
	"slices"
	"strings"

	"counterfoil/api"
)

// Ctl shares no memory with c. A list of nothing is nil.
func Ctl(c api.Ctl) api.Ctl {
	c.Value, c.Custom = strings.Clone(c.Value), strings.Clone(c.Custom)
	var files []api.Entry
	for _, f := range c.Files {
		f.Name, f.Value = strings.Clone(f.Name), strings.Clone(f.Value)
		f.FileName, f.Type = strings.Clone(f.FileName), strings.Clone(f.Type)
		files = append(files, f)
	}
	c.Files = files
	return c
}

// Ctls copies one by one: no two states of the answer share memory, even if those of the list do.
func Ctls(list []api.Ctl) []api.Ctl {
	own := slices.Grow([]api.Ctl(nil), len(list))
	for _, c := range list {
		own = append(own, Ctl(c))
	}
	return own
}
