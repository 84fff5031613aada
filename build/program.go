package build

import (
	"slices"
	"strings"
	"sync"

	"moniker/api"
	"moniker/modules"
	"moniker/xref"
)

// program is what is kept of a call: its files, what was read of them, and the whole or the fault, once it was asked for.
type program struct {
	files []api.File

	lock  sync.Mutex // workers keep what they read at the same time
	texts map[string]*modules.Source

	once  sync.Once
	whole *xref.Whole
	fault api.Fault
}

// keep puts what was read under its text.
func (p *program) keep(s *modules.Source) {
	p.lock.Lock()
	defer p.lock.Unlock()
	if p.texts == nil {
		p.texts = map[string]*modules.Source{}
	}
	p.texts[s.Text()] = s
}

// known is what was read of a text; nil: nothing.
func (p *program) known(text string) *modules.Source {
	if p == nil {
		return nil
	}
	p.lock.Lock()
	defer p.lock.Unlock()
	return p.texts[text]
}

// list takes the files, all of whose texts are known.
func (p *program) list(files []api.File) {
	for _, f := range files {
		p.files = append(p.files, api.File{Name: strings.Clone(f.Name), Text: p.known(f.Text).Text()})
	}
}

// open is xref.Open: of the program's own files it is made once, of others by way of the texts that are theirs too.
func (p *program) open(files []api.File) (*xref.Whole, api.Fault) {
	if !slices.Equal(files, p.files) {
		return xref.OpenBy(files, p.known)
	}
	p.once.Do(func() { p.whole, p.fault = xref.OpenBy(p.files, p.known) })
	return p.whole, p.fault
}
