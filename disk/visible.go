package disk

import (
	"slices"
	"strings"

	"freshet/api"
)

// visible is files as they can be seen, by ascending name, and the length of all that they contain.
type visible struct {
	files []file
	size  int
}

// file has what was appended in parts: to join them at each append would take time that grows with its square.
type file struct {
	name  string
	parts []string
}

// look returns the files after some writes.
func look(files []api.File, l ...api.Write) visible {
	v := visible{}
	for _, f := range files {
		v.extend(f.Name, f.Data)
	}
	for _, w := range l {
		v.apply(w)
	}
	return v
}

func (v *visible) apply(w api.Write) {
	switch w.Kind {
	case api.WriteAppend:
		v.extend(w.Name, w.Data)
	case api.WriteRename:
		v.rename(w.Name, w.To)
	case api.WriteRemove:
		v.take(w.Name)
	}
}

func (v *visible) extend(name, data string) {
	i, ok := v.find(name)
	if !ok {
		v.put(file{name: name})
	}
	v.files[i].parts = append(v.files[i].parts, data)
	v.size += len(data)
}

func (v *visible) rename(name, to string) {
	f, ok := v.take(name)
	if !ok {
		return
	}
	v.take(to)
	f.name = to
	v.put(f)
}

// take takes a file away, if there is one.
func (v *visible) take(name string) (file, bool) {
	i, ok := v.find(name)
	if !ok {
		return file{}, false
	}
	f := v.files[i]
	v.files = slices.Delete(v.files, i, i+1)
	v.size -= f.size()
	return f, true
}

// put adds a file of a name that no file has.
func (v *visible) put(f file) {
	i, _ := v.find(f.name)
	v.files = slices.Insert(v.files, i, f)
	v.size += f.size()
}

// find returns the index of a file, or that at which it would be.
func (v *visible) find(name string) (int, bool) {
	return slices.BinarySearchFunc(v.files, name, func(f file, name string) int {
		return strings.Compare(f.name, name)
	})
}

func (v *visible) has(name string) bool {
	_, ok := v.find(name)
	return ok
}

func (v *visible) tooMany() bool {
	return len(v.files) > api.MaxFiles
}

func (v *visible) read(name string) (string, api.Errno) {
	i, ok := v.find(name)
	if !ok {
		return "", api.ErrNone
	}
	return v.files[i].data(), api.OK
}

func (v *visible) list() []api.File {
	l := make([]api.File, 0, len(v.files))
	for _, f := range v.files {
		l = append(l, api.File{Name: f.name, Data: f.data()})
	}
	return l
}

func (f file) data() string {
	return strings.Join(f.parts, "")
}

func (f file) size() int {
	n := 0
	for _, p := range f.parts {
		n += len(p)
	}
	return n
}
